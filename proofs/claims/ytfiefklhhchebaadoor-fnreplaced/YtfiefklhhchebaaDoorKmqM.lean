/- The drawings of chapter 11: a text of few letters, what is sought and where. The drawings of what is sought. -/
import Derived.Test.YtfiefklhhchebaaDoorDrwA
import Derived.Test.YtfiefklhhchebaaDoorKmp7
import Derived.Test.YtfiefklhhchebaaDoorSamI
set_option linter.unusedVariables false
namespace Go.Proofs.YtfiefklhhchebaaDoor
open Go.RowKit
open Doc1

def abTexts : List ByteArray := [⟨#[97]⟩, ⟨#[98]⟩, ⟨#[97]⟩, ⟨#[97, 97]⟩, ⟨#[97, 98]⟩]
theorem abTexts_le : ∀ s ∈ abTexts, s.size ≤ 2 := by decide
def pTexts : List ByteArray := [⟨#[97]⟩, ⟨#[97, 98]⟩, ⟨#[97, 97]⟩, ⟨#[97, 98, 97]⟩, ⟨#[97, 98, 97, 98]⟩, ⟨#[120]⟩, ⟨#[65]⟩]
theorem pTexts_le : ∀ s ∈ pTexts, s.size ≤ 4 := by decide
def zTexts : List ByteArray := [⟨#[]⟩, ⟨#[90]⟩]
theorem zTexts_le : ∀ s ∈ zTexts, s.size ≤ 1 := by decide

set_option maxRecDepth 100000 in
set_option maxHeartbeats 2000000 in
theorem ab_any (g : Nat) (C : Value) (M : Nat) (w : World) (hcur : CurAt g C M w) (hco : CodeAt g C w) (hM : M ≤ 80000000) :
    Calls Tryd.prog 36 #[.pointer (some ⟨g, 0, none⟩)] w (TextPost g C (M + 100) 46 w) := by
  have HC := hide hco
  clear hco
  go_enter Tryd.func36, Tryd.ntmps36
  go_wp2_with fail
  refine (pick_any g C M 24 w hcur HC.out (by omega)).mono ?_
  rintro e w1 ⟨y, rfl, hy0, hy1, hy2, hc1, hg1⟩
  have hy3 := hy2 (by omega)
  obtain ⟨n, rfl⟩ : ∃ n : Nat, y = n := ⟨y.toNat, by omega⟩
  have hn : n ≤ 23 := by omega
  have HQ := hide (And.intro hc1 hg1)
  clear hy2 hcur hc1 hg1 hy0 hy1 hy3
  go_wp2
  go_loopw [3, 4] (fun vs vn wr => ∃ (m : Nat) (s : ByteArray), m ≤ 23 ∧ vn = .int .i64 (m : Int) ∧ vs = .string s ∧ s.size + 2 * m ≤ 46 ∧ Hid (CurAt g C (M + 2 + (46 - 2 * m)) wr ∧ w.grownBy wr (some g))) (fun _ vn _ => (intOf vn).toNat)
  case atStart => exact ⟨n, ⟨#[]⟩, hn, rfl, rfl, by show 0 + 2 * n ≤ 46; omega, hide ⟨HQ.out.1.mono (by omega), HQ.out.2⟩⟩
  case round =>
    obtain ⟨m, s, hm, rfl, rfl, hs, HR⟩ := hrel
    clear HQ
    by_cases h0 : 0 < m
    · have hl := HR.out.1.lt
      go_wp2_with fail
      refine (of_any g C _ 2 wr.heap.size 0 5 5 _ (HR.out.1.alloc _) ((HC.out.grown HR.out.2).alloc _) (by omega) (by omega) (texts_new wr abTexts 9 2 abTexts_le) (by omega) (by omega) (by omega)).mono ?_
      rintro e w2 ⟨t, rfl, ht, hc2, hg2⟩
      have HR2 : Hid (CurAt g C (M + 2 + (46 - 2 * (m - 1))) w2 ∧ w.grownBy w2 (some g)) := hide ⟨hc2.mono (by omega), (HR.out.2.trans (World.grownBy_alloc wr _ (some g))).trans hg2⟩
      have ew : IntKind.i64.wrap ((m : Int) - 1) = ((m - 1 : Nat) : Int) := by rw [IntKind.wrap_i64]; omega
      clear HR hc2 hg2
      go_wp2
      exact ⟨⟨m - 1, s ++ t, by omega, by first | rfl | go_num, rfl, by rw [ByteArray.size_append]; omega, HR2⟩, by simp [intOf]; omega⟩
    · go_wp2
      go_ret
      exact ⟨s, rfl, by omega, HR.out.1.mono (by omega), HR.out.2⟩

/-- What the drawing of two texts leaves. -/
def SoughtPost (g : Nat) (C : Value) (M : Nat) (w : World) (e : Ending) (w' : World) : Prop := ∃ p s : ByteArray, e = .returned (.tuple #[.string p, .string s]) ∧ p.size ≤ 300 ∧ s.size ≤ 300 ∧ CurAt g C M w' ∧ w.grownBy w' (some g)

set_option maxRecDepth 100000 in
set_option maxHeartbeats 2000000 in
theorem sought_any (g : Nat) (C : Value) (M : Nat) (w : World) (hcur : CurAt g C M w) (hco : CodeAt g C w) (hM : M ≤ 70000000) :
    Calls Tryd.prog 29 #[.pointer (some ⟨g, 0, none⟩)] w (SoughtPost g C (M + 600000) w) := by
  have HC := hide hco
  clear hco
  have AB := hide (ab_any g C M w hcur HC.out (by omega))
  clear hcur
  go_enter Tryd.func29, Tryd.ntmps29
  go_wp2_with fail
  refine AB.out.mono ?_
  rintro e w1 ⟨s1, rfl, hs1, hc1, hg1⟩
  clear AB
  go_wp2_with fail
  refine (one_any g C _ 4 w1 hc1 (HC.out.grown hg1) (by omega)).mono ?_
  rintro e w2 ⟨b, rfl, hc2, hg2⟩
  replace hg2 := hg1.trans hg2
  clear hc1 hg1
  cases b with
  | true =>
    go_wp2_with fail
    refine (plainText_any g C _ w2 hc2 (HC.out.grown hg2) (by omega)).mono ?_
    rintro e w3 ⟨s, rfl, hs, hc3, hg3⟩
    replace hg3 := hg2.trans hg3
    replace hc3 := hc3.mono (show _ ≤ M + 550000 by omega)
    clear hc2 hg2
    have hl3 := hc3.lt
    go_wp2_with fail
    refine (of_any g C _ 4 w3.heap.size 0 7 7 _ (hc3.alloc _) ((HC.out.grown hg3).alloc _) (by omega) (by omega) (texts_new w3 pTexts 9 4 pTexts_le) (by omega) (by omega) (by omega)).mono ?_
    rintro e w4 ⟨p1, rfl, hp1, hc4, hg4⟩
    replace hg4 := (hg3.trans (World.grownBy_alloc w3 _ (some g))).trans hg4
    clear hc3 hg3
    by_cases h0 : 0 < s.size
    · go_wp2_with fail
      refine (one_any g C _ 2 w4 hc4 (HC.out.grown hg4) (by omega)).mono ?_
      rintro e w5 ⟨b, rfl, hc5, hg5⟩
      replace hg5 := hg4.trans hg5
      clear hc4 hg4
      cases b with
      | true =>
        go_wp2_with fail
        refine (pick_any g C _ (s.size : Int) w5 hc5 (HC.out.grown hg5) (by omega)).mono ?_
        rintro e w6 ⟨y, rfl, hy0, hy1, hy2, hc6, hg6⟩
        have hy3 := hy2 (by omega)
        obtain ⟨k, rfl⟩ : ∃ k : Nat, y = k := ⟨y.toNat, by omega⟩
        replace hg6 := hg5.trans hg6
        clear hc5 hg5 hy2 hy1 hy0
        go_wp2_with fail
        refine (pick_any g C _ 5 w6 hc6 (HC.out.grown hg6) (by omega)).mono ?_
        rintro e w7 ⟨z, rfl, hz0, hz1, hz2, hc7, hg7⟩
        have hz3 := hz2 (by omega)
        obtain ⟨m, rfl⟩ : ∃ m : Nat, z = m := ⟨z.toNat, by omega⟩
        replace hg7 := hg6.trans hg7
        clear hc6 hg6 hz2 hz1 hz0
        have hks : k < s.size := by omega
        have hm5 : m < 5 := by omega
        have ew : IntKind.i64.wrap ((s.size : Int) - (k : Int)) = ((s.size - k : Nat) : Int) := by rw [IntKind.wrap_i64]; omega
        obtain ⟨q, hq⟩ : ∃ q : Nat, (1 : Int) + (m : Int) = (q : Int) := ⟨1 + m, by omega⟩
        by_cases hgt : ((s.size - k : Nat) : Int) < (q : Int)
        · have e2 : (k : Int) + ((s.size - k : Nat) : Int) = ((s.size : Nat) : Int) := by omega
          go_wp2_with fail
          refine (one_any g C _ 30 w7 hc7 (HC.out.grown hg7) (by omega)).mono ?_
          rintro e w8 ⟨b, rfl, hc8, hg8⟩
          replace hg8 := hg7.trans hg8
          cases b with
          | true =>
            have hl8 := hc8.lt
            go_wp2_with fail
            refine (of_any g C _ 1 w8.heap.size 0 2 2 _ (hc8.alloc _) ((HC.out.grown hg8).alloc _) (by omega) (by omega) (texts_new w8 zTexts 9 1 zTexts_le) (by omega) (by omega) (by omega)).mono ?_
            rintro e w9 ⟨p9, rfl, hp9, hc9, hg9⟩
            have hgE := (hg8.trans (World.grownBy_alloc w8 _ (some g))).trans hg9
            go_wp2
            go_ret2
            exact ⟨p9, s, rfl, by omega, hs, hc9.mono (by omega), hgE⟩
          | false =>
            go_wp2
            go_ret2
            exact ⟨(s.extract k s.size), s, rfl, by rw [ByteArray.size_extract]; omega, hs, hc8.mono (by omega), hg8⟩
        · have e3 : k + q ≤ s.size := by omega
          go_wp2_with fail
          refine (one_any g C _ 30 w7 hc7 (HC.out.grown hg7) (by omega)).mono ?_
          rintro e w8 ⟨b, rfl, hc8, hg8⟩
          replace hg8 := hg7.trans hg8
          cases b with
          | true =>
            have hl8 := hc8.lt
            go_wp2_with fail
            refine (of_any g C _ 1 w8.heap.size 0 2 2 _ (hc8.alloc _) ((HC.out.grown hg8).alloc _) (by omega) (by omega) (texts_new w8 zTexts 9 1 zTexts_le) (by omega) (by omega) (by omega)).mono ?_
            rintro e w9 ⟨p9, rfl, hp9, hc9, hg9⟩
            have hgE := (hg8.trans (World.grownBy_alloc w8 _ (some g))).trans hg9
            go_wp2
            go_ret2
            exact ⟨p9, s, rfl, by omega, hs, hc9.mono (by omega), hgE⟩
          | false =>
            go_wp2
            go_ret2
            exact ⟨(s.extract k (k + q)), s, rfl, by rw [ByteArray.size_extract]; omega, hs, hc8.mono (by omega), hg8⟩
      | false =>
        go_wp2_with fail
        refine (one_any g C _ 30 w5 hc5 (HC.out.grown hg5) (by omega)).mono ?_
        rintro e w8 ⟨b, rfl, hc8, hg8⟩
        replace hg8 := hg5.trans hg8
        cases b with
        | true =>
          have hl8 := hc8.lt
          go_wp2_with fail
          refine (of_any g C _ 1 w8.heap.size 0 2 2 _ (hc8.alloc _) ((HC.out.grown hg8).alloc _) (by omega) (by omega) (texts_new w8 zTexts 9 1 zTexts_le) (by omega) (by omega) (by omega)).mono ?_
          rintro e w9 ⟨p9, rfl, hp9, hc9, hg9⟩
          have hgE := (hg8.trans (World.grownBy_alloc w8 _ (some g))).trans hg9
          go_wp2
          go_ret2
          exact ⟨p9, s, rfl, by omega, hs, hc9.mono (by omega), hgE⟩
        | false =>
          go_wp2
          go_ret2
          exact ⟨p1, s, rfl, by omega, hs, hc8.mono (by omega), hg8⟩
    · skip
      go_wp2_with fail
      refine (one_any g C _ 30 w4 hc4 (HC.out.grown hg4) (by omega)).mono ?_
      rintro e w8 ⟨b, rfl, hc8, hg8⟩
      replace hg8 := hg4.trans hg8
      cases b with
      | true =>
        have hl8 := hc8.lt
        go_wp2_with fail
        refine (of_any g C _ 1 w8.heap.size 0 2 2 _ (hc8.alloc _) ((HC.out.grown hg8).alloc _) (by omega) (by omega) (texts_new w8 zTexts 9 1 zTexts_le) (by omega) (by omega) (by omega)).mono ?_
        rintro e w9 ⟨p9, rfl, hp9, hc9, hg9⟩
        have hgE := (hg8.trans (World.grownBy_alloc w8 _ (some g))).trans hg9
        go_wp2
        go_ret2
        exact ⟨p9, s, rfl, by omega, hs, hc9.mono (by omega), hgE⟩
      | false =>
        go_wp2
        go_ret2
        exact ⟨p1, s, rfl, by omega, hs, hc8.mono (by omega), hg8⟩
  | false =>
    obtain ⟨s, rfl⟩ : ∃ s, s = s1 := ⟨_, rfl⟩
    have hs : s.size ≤ 300 := by omega
    obtain ⟨w3, rfl⟩ : ∃ w3, w3 = w2 := ⟨_, rfl⟩
    have hc3 := hc2.mono (show _ ≤ M + 550000 by omega)
    have hg3 := hg2
    clear hc2 hg2
    have hl3 := hc3.lt
    go_wp2_with fail
    refine (of_any g C _ 4 w3.heap.size 0 7 7 _ (hc3.alloc _) ((HC.out.grown hg3).alloc _) (by omega) (by omega) (texts_new w3 pTexts 9 4 pTexts_le) (by omega) (by omega) (by omega)).mono ?_
    rintro e w4 ⟨p1, rfl, hp1, hc4, hg4⟩
    replace hg4 := (hg3.trans (World.grownBy_alloc w3 _ (some g))).trans hg4
    clear hc3 hg3
    by_cases h0 : 0 < s.size
    · go_wp2_with fail
      refine (one_any g C _ 2 w4 hc4 (HC.out.grown hg4) (by omega)).mono ?_
      rintro e w5 ⟨b, rfl, hc5, hg5⟩
      replace hg5 := hg4.trans hg5
      clear hc4 hg4
      cases b with
      | true =>
        go_wp2_with fail
        refine (pick_any g C _ (s.size : Int) w5 hc5 (HC.out.grown hg5) (by omega)).mono ?_
        rintro e w6 ⟨y, rfl, hy0, hy1, hy2, hc6, hg6⟩
        have hy3 := hy2 (by omega)
        obtain ⟨k, rfl⟩ : ∃ k : Nat, y = k := ⟨y.toNat, by omega⟩
        replace hg6 := hg5.trans hg6
        clear hc5 hg5 hy2 hy1 hy0
        go_wp2_with fail
        refine (pick_any g C _ 5 w6 hc6 (HC.out.grown hg6) (by omega)).mono ?_
        rintro e w7 ⟨z, rfl, hz0, hz1, hz2, hc7, hg7⟩
        have hz3 := hz2 (by omega)
        obtain ⟨m, rfl⟩ : ∃ m : Nat, z = m := ⟨z.toNat, by omega⟩
        replace hg7 := hg6.trans hg7
        clear hc6 hg6 hz2 hz1 hz0
        have hks : k < s.size := by omega
        have hm5 : m < 5 := by omega
        have ew : IntKind.i64.wrap ((s.size : Int) - (k : Int)) = ((s.size - k : Nat) : Int) := by rw [IntKind.wrap_i64]; omega
        obtain ⟨q, hq⟩ : ∃ q : Nat, (1 : Int) + (m : Int) = (q : Int) := ⟨1 + m, by omega⟩
        by_cases hgt : ((s.size - k : Nat) : Int) < (q : Int)
        · have e2 : (k : Int) + ((s.size - k : Nat) : Int) = ((s.size : Nat) : Int) := by omega
          go_wp2_with fail
          refine (one_any g C _ 30 w7 hc7 (HC.out.grown hg7) (by omega)).mono ?_
          rintro e w8 ⟨b, rfl, hc8, hg8⟩
          replace hg8 := hg7.trans hg8
          cases b with
          | true =>
            have hl8 := hc8.lt
            go_wp2_with fail
            refine (of_any g C _ 1 w8.heap.size 0 2 2 _ (hc8.alloc _) ((HC.out.grown hg8).alloc _) (by omega) (by omega) (texts_new w8 zTexts 9 1 zTexts_le) (by omega) (by omega) (by omega)).mono ?_
            rintro e w9 ⟨p9, rfl, hp9, hc9, hg9⟩
            have hgE := (hg8.trans (World.grownBy_alloc w8 _ (some g))).trans hg9
            go_wp2
            go_ret2
            exact ⟨p9, s, rfl, by omega, hs, hc9.mono (by omega), hgE⟩
          | false =>
            go_wp2
            go_ret2
            exact ⟨(s.extract k s.size), s, rfl, by rw [ByteArray.size_extract]; omega, hs, hc8.mono (by omega), hg8⟩
        · have e3 : k + q ≤ s.size := by omega
          go_wp2_with fail
          refine (one_any g C _ 30 w7 hc7 (HC.out.grown hg7) (by omega)).mono ?_
          rintro e w8 ⟨b, rfl, hc8, hg8⟩
          replace hg8 := hg7.trans hg8
          cases b with
          | true =>
            have hl8 := hc8.lt
            go_wp2_with fail
            refine (of_any g C _ 1 w8.heap.size 0 2 2 _ (hc8.alloc _) ((HC.out.grown hg8).alloc _) (by omega) (by omega) (texts_new w8 zTexts 9 1 zTexts_le) (by omega) (by omega) (by omega)).mono ?_
            rintro e w9 ⟨p9, rfl, hp9, hc9, hg9⟩
            have hgE := (hg8.trans (World.grownBy_alloc w8 _ (some g))).trans hg9
            go_wp2
            go_ret2
            exact ⟨p9, s, rfl, by omega, hs, hc9.mono (by omega), hgE⟩
          | false =>
            go_wp2
            go_ret2
            exact ⟨(s.extract k (k + q)), s, rfl, by rw [ByteArray.size_extract]; omega, hs, hc8.mono (by omega), hg8⟩
      | false =>
        go_wp2_with fail
        refine (one_any g C _ 30 w5 hc5 (HC.out.grown hg5) (by omega)).mono ?_
        rintro e w8 ⟨b, rfl, hc8, hg8⟩
        replace hg8 := hg5.trans hg8
        cases b with
        | true =>
          have hl8 := hc8.lt
          go_wp2_with fail
          refine (of_any g C _ 1 w8.heap.size 0 2 2 _ (hc8.alloc _) ((HC.out.grown hg8).alloc _) (by omega) (by omega) (texts_new w8 zTexts 9 1 zTexts_le) (by omega) (by omega) (by omega)).mono ?_
          rintro e w9 ⟨p9, rfl, hp9, hc9, hg9⟩
          have hgE := (hg8.trans (World.grownBy_alloc w8 _ (some g))).trans hg9
          go_wp2
          go_ret2
          exact ⟨p9, s, rfl, by omega, hs, hc9.mono (by omega), hgE⟩
        | false =>
          go_wp2
          go_ret2
          exact ⟨p1, s, rfl, by omega, hs, hc8.mono (by omega), hg8⟩
    · skip
      go_wp2_with fail
      refine (one_any g C _ 30 w4 hc4 (HC.out.grown hg4) (by omega)).mono ?_
      rintro e w8 ⟨b, rfl, hc8, hg8⟩
      replace hg8 := hg4.trans hg8
      cases b with
      | true =>
        have hl8 := hc8.lt
        go_wp2_with fail
        refine (of_any g C _ 1 w8.heap.size 0 2 2 _ (hc8.alloc _) ((HC.out.grown hg8).alloc _) (by omega) (by omega) (texts_new w8 zTexts 9 1 zTexts_le) (by omega) (by omega) (by omega)).mono ?_
        rintro e w9 ⟨p9, rfl, hp9, hc9, hg9⟩
        have hgE := (hg8.trans (World.grownBy_alloc w8 _ (some g))).trans hg9
        go_wp2
        go_ret2
        exact ⟨p9, s, rfl, by omega, hs, hc9.mono (by omega), hgE⟩
      | false =>
        go_wp2
        go_ret2
        exact ⟨p1, s, rfl, by omega, hs, hc8.mono (by omega), hg8⟩
end Go.Proofs.YtfiefklhhchebaaDoor

set_option linter.unusedVariables false
namespace Go.Proofs.YtfiefklhhchebaaDoor
open Go.RowKit
open Doc1

set_option maxRecDepth 100000 in
set_option maxHeartbeats 1000000 in
theorem drawBordersOf_any (C : Value) (w : World) (hco : CodeAt w.heap.size C w) :
    Calls Tryd.prog 15 #[C] w fun e w' => ∃ p : ByteArray, e = .returned (.string p) ∧ p.size ≤ 300 ∧ Below w.heap.size w w' := by
  have hcur := cur_new w C
  have hco1 := hco.grown (World.grownBy_alloc w (.cells #[C, .int .i64 0, .int .u64 0] 51) (some w.heap.size))
  obtain ⟨a, len, cap, rfl⟩ := hco.shape
  clear hco
  go_enter Tryd.func15, Tryd.ntmps15
  go_wp2_with fail
  refine (one_any _ _ _ 4 _ hcur hco1 (by omega)).mono ?_
  rintro e w1 ⟨b, rfl, hc1, hg1⟩
  have hco2 := hco1.grown hg1
  clear hcur hco1
  cases b with
  | true =>
    go_wp2_with fail
    refine (sought_any _ _ _ w1 hc1 hco2 (by omega)).mono ?_
    rintro e w2 ⟨p, s, rfl, hp, hs, hc2, hg2⟩
    have hb2 := below_of_grown (hg1.trans hg2)
    clear hc2 hg2 hg1 hc1 hco2
    go_wp2
    go_ret
    exact ⟨p, rfl, hp, hb2⟩
  | false =>
    go_wp2_with fail
    refine (ab_any _ _ _ w1 hc1 hco2 (by omega)).mono ?_
    rintro e w2 ⟨p, rfl, hp, hc2, hg2⟩
    have hb2 := below_of_grown (hg1.trans hg2)
    clear hc2 hg2 hg1 hc1 hco2
    go_wp2
    go_ret
    exact ⟨p, rfl, by omega, hb2⟩

set_option maxRecDepth 100000 in
set_option maxHeartbeats 1000000 in
theorem drawFindAll_any (C : Value) (w : World) (hco : CodeAt w.heap.size C w) :
    Calls Tryd.prog 9 #[C] w fun e w' => ∃ p s : ByteArray, e = .returned (.tuple #[.string p, .string s]) ∧ p.size ≤ 300 ∧ s.size ≤ 300 ∧ Below w.heap.size w w' := by
  have hcur := cur_new w C
  have hco1 := hco.grown (World.grownBy_alloc w (.cells #[C, .int .i64 0, .int .u64 0] 51) (some w.heap.size))
  obtain ⟨a, len, cap, rfl⟩ := hco.shape
  clear hco
  go_enter Tryd.func9, Tryd.ntmps9
  go_wp2_with fail
  refine (sought_any _ _ _ _ hcur hco1 (by omega)).mono ?_
  rintro e w2 ⟨p, s, rfl, hp, hs, hc2, hg2⟩
  have hb2 := below_of_grown hg2
  clear hc2 hg2 hcur hco1
  go_wp2
  go_ret2
  exact ⟨p, s, rfl, hp, hs, hb2⟩
end Go.Proofs.YtfiefklhhchebaaDoor
