/- A text with some bytes changed, as the model draws it. Two texts as the model draws them. -/
import Derived.Test.YtojlnnlcbpjdlaaDoorOpOnM
import Derived.Test.YtojlnnlcbpjdlaaDoorOpSM
import Derived.Test.YtojlnnlcbpjdlaaDoorDrwN
set_option linter.unusedVariables false
namespace Go.Proofs.YtojlnnlcbpjdlaaDoor
open Go.RowKit
open Doc1

/-- A row of parts of one's own: nil, or cells in a block. -/
theorem own_cells3 {w : World} {B : Nat} {v : Value} {l : List Pt} (h : POwn w B v l) : ∃ aw cap, v = .slice aw l.length cap ∧ l.length ≤ cap ∧ cap ≤ maxLen ∧ (0 < l.length → ∃ g, aw = some ⟨g, 0, none⟩ ∧ CLs w g (encP l) ∧ g < w.heap.size) := by
  rcases h.2 with ⟨rfl, h0⟩ | ⟨g, cap, cur, rfl, hb, hh, hle, hm, hz, ht⟩
  · exact ⟨none, 0, by rw [h0], by omega, by unfold maxLen; omega, fun c => by omega⟩
  · refine ⟨_, cap, rfl, hle, hm, fun _ => ⟨g, rfl, fun j u hu => ?_, (Array.getElem?_eq_some_iff.1 hh).1⟩⟩
    have := h.cells (g := g) rfl j u hu
    have hadd : (⟨g, 0, none⟩ : Addr).add j = ⟨g, j, none⟩ := by unfold Addr.add; split <;> simp_all
    rwa [hadd] at this

theorem grown_below2 {w w1 w2 : World} {g : Nat} (h : w.grownBy w1 (some g)) (hb : Below w1.heap.size w1 w2) : w.grownBy w2 (some g) :=
  h.trans ⟨hb.os, hb.tape, hb.output, hb.size, fun k hk _ => hb.block k hk⟩

set_option maxRecDepth 100000 in
set_option maxHeartbeats 4000000 in
theorem l3Apply_own {w : World} {B : Nat} {v : Value} {l : List Pt} (s : ByteArray) (h : POwn w B v l) (hl : l.length ≤ 2586186935075) (hq : ∀ p ∈ l, smQ p) (hs : s.size ≤ 300) :
    Calls Tryd.prog 54 #[v, .string s] w fun e w' => ∃ (t : ByteArray) (b : Bool), e = .returned (.tuple #[.string t, .bool b]) ∧ t.size ≤ 10000000000000000 ∧ Below w.heap.size w w' := by
  obtain ⟨aw, cap, rfl, hle, hcm, hcl⟩ := own_cells3 h
  unfold maxLen at hcm
  have HC := hide hcl
  have HQ := hide hq
  clear h hcl hq
  go_enter Tryd.func54, Tryd.ntmps54
  go_wp2
  go_loopw [1, 6, 12] (fun a b i wr => ∃ (k : Nat) (x y : ByteArray), k ≤ l.length ∧ i = .int .i64 k ∧ a = .string x ∧ b = .string y ∧ x.size ≤ 300 ∧ y.size ≤ 1000 * k ∧ Below w.heap.size w wr) (fun _ _ i _ => l.length - (intOf i).toNat)
  case atStart => exact ⟨0, s, ⟨#[]⟩, by omega, rfl, rfl, rfl, hs, by decide, Below.refl _ _⟩
  case round =>
    obtain ⟨k, x, y, hk, rfl, rfl, rfl, hx, hy, hbel⟩ := hrel
    by_cases hlt : k < l.length
    · obtain ⟨g, rfl, hcls, hglt⟩ := HC.out (by omega)
      obtain ⟨c0, c1, c2⟩ := (hcls.later hbel hglt).ptat k hlt
      have hpq := HQ.out l[k] (List.getElem_mem hlt)
      obtain ⟨⟨k0, k1⟩, hp2, hd2⟩ := hpq
      obtain ⟨K, hK⟩ : ∃ K : Nat, l[k].keep = K := ⟨l[k].keep.toNat, by omega⟩
      have ha := hbel.alloc hbel.size (.cells #[.int .i64 l[k].keep, .string l[k].put, .string l[k].drop] 30)
      rw [hK] at c0 ha k1
      clear hK k0 hcls
      have hK300 : K ≤ 301 := by omega
      clear k1
      have e1 := emp_b l[k].drop
      have e2 := sz_list l[k].drop
      generalize l[k].drop = D at *
      generalize l[k].put = U at *
      by_cases hn : x.size < K + D.size
      · have hdk : decide ((x.size : Int) < (K : Int) + (D.size : Int)) = true := decide_eq_true (by omega)
        clear e1 e2
        go_wp2
        go_region
        go_wp2
        go_ret2
        exact ⟨_, _, rfl, by decide, ha.drew⟩
      · have hdk : decide ((x.size : Int) < (K : Int) + (D.size : Int)) = false := decide_eq_false (by omega)
        by_cases hD : D.data.toList = []
        · rw [decide_eq_true hD] at e1
          have hD0 : D.size = 0 := by rw [e2, hD]; rfl
          clear e2 hdk
          have hdk : decide (x.size < K) = false := decide_eq_false (by omega)
          by_cases hK0 : 0 < K
          · go_wp2
            go_region
            go_wp2
            refine ⟨⟨k + 1, _, _, by omega, by go_num, rfl, rfl, ?_, ?_, ha.drew⟩, by simp [intOf]; omega⟩
            · rw [ByteArray.size_extract]; omega
            · rw [ByteArray.size_append, ByteArray.size_append, ByteArray.size_extract]; omega
          · go_wp2
            go_region
            go_wp2
            refine ⟨⟨k + 1, _, _, by omega, by go_num, rfl, rfl, ?_, ?_, ha.drew⟩, by simp [intOf]; omega⟩
            · rw [ByteArray.size_extract]; omega
            · rw [ByteArray.size_append]; omega
        · have hD3 : D.toList.isEmpty = false := by rw [e1]; exact decide_eq_false hD
          clear e1 e2
          cases hE : ((x.extract 0 (K + D.size)).toList == D.toList) with
          | true =>
            by_cases hK0 : 0 < K
            · go_wp2
              go_region
              go_wp2
              refine ⟨⟨k + 1, _, _, by omega, by go_num, rfl, rfl, ?_, ?_, ha.drew⟩, by simp [intOf]; omega⟩
              · rw [ByteArray.size_extract]; omega
              · rw [ByteArray.size_append, ByteArray.size_append, ByteArray.size_extract]; omega
            · go_wp2
              go_region
              go_wp2
              refine ⟨⟨k + 1, _, _, by omega, by go_num, rfl, rfl, ?_, ?_, ha.drew⟩, by simp [intOf]; omega⟩
              · rw [ByteArray.size_extract]; omega
              · rw [ByteArray.size_append]; omega
          | false =>
            go_wp2
            go_region
            go_wp2
            go_ret2
            exact ⟨_, _, rfl, by decide, ha.drew⟩
    · go_wp2
      go_ret2
      exact ⟨_, _, rfl, by omega, hbel⟩

set_option maxHeartbeats 2000000 in
theorem changed_any (g : Nat) (C : Value) (M : Nat) (s : ByteArray) (w : World) (hcur : CurAt g C M w) (hco : CodeAt g C w) (hC : codeLen C ≤ 1048576) (hi : M ≤ 1000000000000000) (hs : s.size ≤ 300) :
    Calls Tryd.prog 123 #[.pointer (some ⟨g, 0, none⟩), .string s] w (TextPost g C (M + 8000000000000) 10000000000000000 w) := by
  have O := hide (opOn_q g C M s w hcur hco hC hi hs)
  clear hcur hco
  go_enter Tryd.func123, Tryd.ntmps123
  go_wp2_with fail
  refine O.out.mono ?_
  rintro e w1 ⟨v, L, rfl, ho, hl, hq, hcur, hg⟩
  have A := hide (l3Apply_own s (show POwn w1 w.heap.size v L from ho) hl hq hs)
  have HK := hide (And.intro hcur hg)
  clear ho hq hcur hg O
  go_wp2_with fail
  refine A.out.mono ?_
  rintro e w2 ⟨t, b, rfl, ht, hb⟩
  have HF := hide (And.intro (HK.out.1.grown (r := none) ⟨hb.os, hb.tape, hb.output, hb.size, fun k hk _ => hb.block k hk⟩ (by simp)) (grown_below2 HK.out.2 hb))
  clear hb HK A
  go_wp2
  go_ret
  exact ⟨t, rfl, ht, HF.out.1, HF.out.2⟩

end Go.Proofs.YtojlnnlcbpjdlaaDoor

set_option linter.unusedVariables false
namespace Go.Proofs.YtojlnnlcbpjdlaaDoor
open Go.RowKit
open Doc1

/-- Two texts as they are drawn. -/
def TwoPost (g : Nat) (w : World) (e : Ending) (w' : World) : Prop :=
  ∃ s t : ByteArray, e = .returned (.tuple #[.string s, .string t]) ∧ s.size ≤ 300 ∧ t.size ≤ 10000000000000000 ∧ w.grownBy w' (some g)

set_option maxRecDepth 100000 in
set_option maxHeartbeats 2000000 in
theorem twoTexts_any (g : Nat) (C : Value) (M : Nat) (w : World) (hcur : CurAt g C M w) (hco : CodeAt g C w) (hC : codeLen C ≤ 1048576) (hM : M ≤ 70000000) :
    Calls Tryd.prog 88 #[.pointer (some ⟨g, 0, none⟩)] w (TwoPost g w) := by
  have P1 := hide (plainText_any g C M w hcur hco (by omega))
  have HCO := hide hco
  clear hcur hco
  go_enter Tryd.func88, Tryd.ntmps88
  go_wp2_with fail
  refine P1.out.mono ?_
  rintro e w1 ⟨s, rfl, hs, hcur1, hg1⟩
  have P2 := hide (pick_any g C (M + 500000) 4 w1 hcur1 (HCO.out.grown hg1) (by omega))
  have HG1 := hide hg1
  clear hcur1 hg1 P1
  go_wp2_with fail
  refine P2.out.mono ?_
  rintro e w2 ⟨y, rfl, hy0, hy1, hy4, hcur2, hg2⟩
  have hg12 := HG1.out.trans hg2
  have HCO2 := hide (HCO.out.grown hg12)
  have HG12 := hide hg12
  clear hg12 hg2 P2 hy4
  by_cases e0 : y = 0
  · subst e0
    have P3 := hide (plainText_any g C (M + 500000 + 2) w2 hcur2 HCO2.out (by omega))
    clear hcur2
    go_wp2_with fail
    refine P3.out.mono ?_
    rintro e w3 ⟨t, rfl, ht, -, hg3⟩
    have HF := hide (HG12.out.trans hg3)
    clear hg3 P3
    go_wp2
    go_ret2
    exact ⟨s, t, rfl, hs, by omega, HF.out⟩
  · by_cases e1 : y = 1
    · subst e1
      clear hcur2
      go_wp2
      go_ret2
      exact ⟨s, s, rfl, hs, by omega, HG12.out⟩
    · have q0 : (y == 0) = false := by simpa using e0
      have q1 : (y == 1) = false := by simpa using e1
      have P3 := hide (changed_any g C (M + 500000 + 2) s w2 hcur2 HCO2.out hC (by omega) hs)
      clear hcur2
      go_wp2_with fail
      refine P3.out.mono ?_
      rintro e w3 ⟨t, rfl, ht, -, hg3⟩
      have HF := hide (HG12.out.trans hg3)
      clear hg3 P3
      go_wp2
      go_ret2
      exact ⟨s, t, rfl, hs, ht, HF.out⟩

/-- What is drawn for two texts. -/
def DrawnTexts (w : World) (e : Ending) (w' : World) : Prop := ∃ s t : ByteArray, e = .returned (.tuple #[.string s, .string t]) ∧ s.size ≤ 300 ∧ t.size ≤ 10000000000000000 ∧ Below w.heap.size w w'

set_option maxRecDepth 100000 in
set_option maxHeartbeats 1000000 in
theorem drawDistanceOf_any (C : Value) (w : World) (hco : CodeAt w.heap.size C w) (hC : codeLen C ≤ 1048576) :
    Calls Tryd.prog 35 #[C] w (DrawnTexts w) := by
  have hcur := cur_new w C
  have hco1 := hco.grown (World.grownBy_alloc w (.cells #[C, .int .i64 0, .int .u64 0] 75) (some w.heap.size))
  obtain ⟨a, len, cap, rfl⟩ := hco.shape
  have T := hide (twoTexts_any _ _ _ _ hcur hco1 hC (by omega))
  clear hco hcur hco1
  go_enter Tryd.func35, Tryd.ntmps35
  go_wp2_with fail
  refine T.out.mono ?_
  rintro e w1 ⟨s, t, rfl, hs, ht, hg⟩
  have HB := hide (below_of_grown hg)
  clear hg T
  go_wp2
  go_ret2
  exact ⟨s, t, rfl, hs, ht, HB.out⟩

theorem drawEditsOf_any (C : Value) (w : World) (hco : CodeAt w.heap.size C w) (hC : codeLen C ≤ 1048576) :
    Calls Tryd.prog 36 #[C] w (DrawnTexts w) := by
  obtain ⟨a, len, cap, rfl⟩ := hco.shape
  have T := hide (drawDistanceOf_any _ w hco hC)
  clear hco
  go_enter Tryd.func36, Tryd.ntmps36
  go_wp2_with fail
  refine T.out.mono ?_
  rintro e w1 ⟨s, t, rfl, hs, ht, hb⟩
  go_wp2
  go_ret2
  exact ⟨s, t, rfl, hs, ht, hb⟩

theorem drawCommonOf_any (C : Value) (w : World) (hco : CodeAt w.heap.size C w) (hC : codeLen C ≤ 1048576) :
    Calls Tryd.prog 48 #[C] w (DrawnTexts w) := by
  obtain ⟨a, len, cap, rfl⟩ := hco.shape
  have T := hide (drawDistanceOf_any _ w hco hC)
  clear hco
  go_enter Tryd.func48, Tryd.ntmps48
  go_wp2_with fail
  refine T.out.mono ?_
  rintro e w1 ⟨s, t, rfl, hs, ht, hb⟩
  go_wp2
  go_ret2
  exact ⟨s, t, rfl, hs, ht, hb⟩

theorem drawDiffOps_any (C : Value) (w : World) (hco : CodeAt w.heap.size C w) (hC : codeLen C ≤ 1048576) :
    Calls Tryd.prog 42 #[C] w (DrawnTexts w) := by
  obtain ⟨a, len, cap, rfl⟩ := hco.shape
  have T := hide (drawDistanceOf_any _ w hco hC)
  clear hco
  go_enter Tryd.func42, Tryd.ntmps42
  go_wp2_with fail
  refine T.out.mono ?_
  rintro e w1 ⟨s, t, rfl, hs, ht, hb⟩
  go_wp2
  go_ret2
  exact ⟨s, t, rfl, hs, ht, hb⟩
end Go.Proofs.YtojlnnlcbpjdlaaDoor
