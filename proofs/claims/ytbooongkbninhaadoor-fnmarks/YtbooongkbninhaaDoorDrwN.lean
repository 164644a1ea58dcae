/- The contracts of the drawing functions of chapter 1. The drawings of a text and of a change of it. The drawing of any change, and of a place of what it takes. The code that is read lies as it lay. -/
import Derived.Test.YtbooongkbninhaaDoorDrawM
import Derived.Test.YtbooongkbninhaaDoorWalks6
import Derived.Test.YtbooongkbninhaaDoorOpOnM
namespace Go.Proofs.YtbooongkbninhaaDoor
open Go.RowKit

def deepTexts : List ByteArray := [⟨#[65, 65, 65, 65, 65, 65, 65, 65, 65, 65, 65, 65, 47, 47, 47, 47, 47, 47, 47, 47, 47, 47, 47, 47]⟩, ⟨#[65, 65, 65, 65, 65, 65, 65, 65, 65, 65, 65, 65, 65, 47, 47, 47, 47, 47, 47, 47, 47, 47, 47, 47, 47, 47]⟩]
theorem deepTexts_le : ∀ s ∈ deepTexts, s.size ≤ 26 := by decide
theorem TextPost.mono {g : Nat} {C : Value} {M M' S S' : Nat} {w : World} {e : Ending} {w' : World} (h : TextPost g C M S w e w') (hM : M ≤ M') (hS : S ≤ S') : TextPost g C M' S' w e w' := by
  obtain ⟨s, h1, h2, h3, h4⟩ := h
  exact ⟨s, h1, by omega, h3.mono hM, h4⟩

/-- The end of doc: is the text spoilt, and what is answered. -/
def DocText : ByteArray := ⟨#[65, 47, 97, 90]⟩

set_option maxRecDepth 100000 in
set_option maxHeartbeats 2000000 in
theorem doc_any (g : Nat) (C : Value) (M : Nat) (w : World) (hcur : CurAt g C M w) (hco : CodeAt g C w) (hM : M ≤ 80000000) :
    Calls Tryd.prog 75 #[.pointer (some ⟨g, 0, none⟩)] w (TextPost g C (M + 400000) 300000 w) := by
  go_enter Tryd.func75, Tryd.ntmps75
  go_wp2_with fail
  refine (pick_any g C M 7 w hcur hco (by omega)).mono ?_
  rintro e w1 ⟨y, rfl, hy0, hy1, hy2, hc1, hg1⟩
  have hy3 := hy2 (by omega)
  clear hy2 hcur
  obtain ⟨n, rfl⟩ : ∃ n : Nat, y = n := ⟨y.toNat, by omega⟩
  go_wp2_with fail
  refine (inner_three g C _ n w1 hc1 (hco.grown hg1) (by omega) (by omega)).mono ?_
  rintro e w2 ⟨s, rfl, hs, hc2, hg2⟩
  have hgA := hg1.trans hg2
  replace hs : s.size ≤ 245760 := by omega
  replace hc2 := hc2.mono (show M + 2 + n * 4096 ≤ M + 2 + 24576 by omega)
  clear hc1 hg1 hg2
  go_wp2_with fail
  refine (pick_any g C _ 30 w2 hc2 (hco.grown hgA) (by omega)).mono ?_
  rintro e w3 ⟨z, rfl, hz0, hz1, hz2, hc3, hg3⟩
  have hgB := hgA.trans hg3
  clear hz2 hc2 hg3 hgA
  by_cases z0 : z = 0
  · subst z0
    go_wp2_with fail
    refine (inner_three g C _ 60 w3 hc3 (hco.grown hgB) (by omega) (by omega)).mono ?_
    rintro e w4 ⟨s', rfl, hs', hc4, hg4⟩
    have hgC := hgB.trans hg4
    replace hs' : s'.size ≤ 245760 := by omega
    clear hc3 hg4 hgB hs
    go_wp2_with fail
    refine (one_any g C _ 12 w4 hc4 (hco.grown hgC) (by omega)).mono ?_
    rintro e w5 ⟨b, rfl, hc5, hg5⟩
    have hgD := hgC.trans hg5
    clear hc4 hg5 hgC
    cases b with
    | true =>
      go_wp2_with fail
      refine (spoilt_any g C _ s' ⟨#[65, 47, 97, 90]⟩ w5 hc5 (hco.grown hgD) (by omega) (by omega) (by decide) (by decide)).mono ?_
      rintro e w6 ⟨r, rfl, hr, hc6, hg6⟩
      go_wp2
      go_ret
      exact ⟨r, rfl, by omega, hc6.mono (by omega), hgD.trans hg6⟩
    | false =>
      go_wp2
      go_ret
      exact ⟨s', rfl, by omega, hc5.mono (by omega), hgD⟩
  · have z0' : (z == 0) = false := by simpa using z0
    by_cases z1 : z = 1
    · subst z1
      clear z0 z0'
      have hl3 := hc3.lt
      go_wp2_with fail
      refine (of_any g C _ 26 w3.heap.size 0 2 2 _ (hc3.alloc _) ((hco.grown hgB).grown (World.grownBy_alloc _ _ _)) (by omega) (by omega) (texts_new w3 deepTexts 9 26 deepTexts_le) (by omega) (by omega) (by omega)).mono ?_
      rintro e w4 ⟨s', rfl, hs', hc4, hg4⟩
      have hgC := (hgB.trans (World.grownBy_alloc w3 _ (some g))).trans hg4
      clear hc3 hg4 hgB hs
      go_wp2_with fail
      refine (one_any g C _ 12 w4 hc4 (hco.grown hgC) (by omega)).mono ?_
      rintro e w5 ⟨b, rfl, hc5, hg5⟩
      have hgD := hgC.trans hg5
      clear hc4 hg5 hgC
      cases b with
      | true =>
        go_wp2_with fail
        refine (spoilt_any g C _ s' ⟨#[65, 47, 97, 90]⟩ w5 hc5 (hco.grown hgD) (by omega) (by omega) (by decide) (by decide)).mono ?_
        rintro e w6 ⟨r, rfl, hr, hc6, hg6⟩
        go_wp2
        go_ret
        exact ⟨r, rfl, by omega, hc6.mono (by omega), hgD.trans hg6⟩
      | false =>
        go_wp2
        go_ret
        exact ⟨s', rfl, by omega, hc5.mono (by omega), hgD⟩
    · have z1' : (z == 1) = false := by simpa using z1
      clear z0 z1
      go_wp2_with fail
      refine (one_any g C _ 12 w3 hc3 (hco.grown hgB) (by omega)).mono ?_
      rintro e w5 ⟨b, rfl, hc5, hg5⟩
      have hgD := hgB.trans hg5
      clear hc3 hg5 hgB
      cases b with
      | true =>
        go_wp2_with fail
        refine (spoilt_any g C _ s ⟨#[65, 47, 97, 90]⟩ w5 hc5 (hco.grown hgD) (by omega) (by omega) (by decide) (by decide)).mono ?_
        rintro e w6 ⟨r, rfl, hr, hc6, hg6⟩
        go_wp2
        go_ret
        exact ⟨r, rfl, by omega, hc6.mono (by omega), hgD.trans hg6⟩
      | false =>
        go_wp2
        go_ret
        exact ⟨s, rfl, by omega, hc5.mono (by omega), hgD⟩

theorem CodeAt.shape {g : Nat} {C : Value} {w : World} (h : CodeAt g C w) : ∃ a len cap, C = .slice a len cap := by
  cases h with
  | nil _ a cap => exact ⟨_, _, _, rfl⟩
  | row _ b o len cap hb hl h => exact ⟨_, _, _, rfl⟩

/-- The cursor as it is laid, ahead of the first step. -/
theorem cur_new (w : World) (C : Value) : CurAt w.heap.size C 0 (w.alloc (.cells #[C, .int .i64 0, .int .u64 0] 52)) where
  c0 := by rw [World.cell?_alloc_at _ _ _ _ rfl]; rfl
  ex := ⟨0, 0, by rw [World.cell?_alloc_at _ _ _ _ rfl]; rfl, by rw [World.cell?_alloc_at _ _ _ _ rfl]; rfl, by omega, by omega, by omega⟩
  fz := fun j => by simp
theorem below_of_grown {w w' : World} {o : Obj} (h : (w.alloc o).grownBy w' (some w.heap.size)) : Below w.heap.size w w' :=
  ⟨h.os, h.tape, h.output, by have := h.size; simp at this; omega, fun k hk => (h.block k (by simp; omega) (by simp; omega)).trans (Below.heap_alloc w o k hk)⟩

theorem ownsRow_lower {w : World} {B B' e size n : Nat} {v : Value} {xs : List Value} (h : w.ownsRow B e size v n xs) (hB : B' ≤ B) : w.ownsRow B' e size v n xs := by
  refine ⟨h.1, ?_⟩
  rcases h.2 with h' | ⟨g, cap, cur, a, b, c⟩
  · exact .inl h'
  · exact .inr ⟨g, cap, cur, a, by omega, c⟩

/-- What a drawing of a text leaves. -/
def DrawnPost (w : World) (e : Ending) (w' : World) : Prop := ∃ s : ByteArray, e = .returned (.string s) ∧ s.size ≤ 300000 ∧ Below w.heap.size w w'

/-- What a drawing of a text and a number leaves. -/
def DrawnAt (w : World) (e : Ending) (w' : World) : Prop := ∃ (s : ByteArray) (a : Int), e = .returned (.tuple #[.string s, .int .i64 a]) ∧ s.size ≤ 300000 ∧ -1 ≤ a ∧ a ≤ 65535 ∧ Below w.heap.size w w'

def nameTexts : List ByteArray := [⟨#[65]⟩, ⟨#[66]⟩, ⟨#[67]⟩, ⟨#[97]⟩, ⟨#[65, 66]⟩, ⟨#[]⟩]
theorem nameTexts_le : ∀ s ∈ nameTexts, s.size ≤ 2 := by decide
/-- What a drawing of two texts leaves. -/
def DrawnTwo (w : World) (e : Ending) (w' : World) : Prop := ∃ s m : ByteArray, e = .returned (.tuple #[.string s, .string m]) ∧ s.size ≤ 300000 ∧ m.size ≤ 2 ∧ Below w.heap.size w w'

end Go.Proofs.YtbooongkbninhaaDoor

namespace Go.Proofs.YtbooongkbninhaaDoor
open Go.RowKit
open Doc1

set_option maxRecDepth 100000 in
set_option maxHeartbeats 2000000 in
theorem plainText_any (g : Nat) (C : Value) (M : Nat) (w : World) (hcur : CurAt g C M w) (hco : CodeAt g C w) (hM : M ≤ 80000000) :
    Calls Tryd.prog 47 #[.pointer (some ⟨g, 0, none⟩)] w (TextPost g C (M + 500000) 300 w) := by
  go_enter Tryd.func47, Tryd.ntmps47
  go_wp2_with fail
  refine (doc_any g C M w hcur hco hM).mono ?_
  rintro e w1 ⟨s, rfl, hs, hc1, hg1⟩
  have G := hide (goodTextS_any s w1 (by omega))
  cases hgd : good s.data.toList with
  | false =>
    rw [hgd] at G
    clear hgd
    go_wp2_with fail
    refine G.out.mono ?_
    rintro e w2 ⟨rfl, hw⟩
    replace hw := hw.symm
    subst hw
    go_wp2
    go_ret
    exact ⟨⟨#[116, 101, 120, 116]⟩, rfl, by decide, hc1.mono (by omega), hg1⟩
  | true =>
    rw [hgd] at G
    have hl := good_len hgd
    have e := sz_list s
    have hs3 : s.size ≤ 300 := by omega
    clear hgd hl e
    go_wp2_with fail
    refine G.out.mono ?_
    rintro e w2 ⟨rfl, hw⟩
    replace hw := hw.symm
    subst hw
    by_cases h40 : (40 : Int) < (s.size : Int)
    · go_wp2_with fail
      refine (one_any g C _ 20 w1 hc1 (hco.grown hg1) (by omega)).mono ?_
      rintro e w2 ⟨b, rfl, hc2, hg2⟩
      cases b with
      | true =>
        go_wp2
        go_ret
        exact ⟨s, rfl, hs3, hc2.mono (by omega), hg1.trans hg2⟩
      | false =>
        go_wp2
        go_ret
        exact ⟨_, rfl, by rw [ByteArray.size_extract]; omega, hc2.mono (by omega), hg1.trans hg2⟩
    · go_wp2
      go_ret
      exact ⟨s, rfl, hs3, hc1.mono (by omega), hg1⟩

/-- What the drawing of a change and a text leaves. -/
def OpPost (w : World) (e : Ending) (w' : World) : Prop := ∃ v L s, e = .returned (.tuple #[v, .string s]) ∧ POwn w' w.heap.size v L ∧ L.length ≤ 2586186935075 ∧ (∀ p ∈ L, smP p) ∧ s.size ≤ 303 ∧ Below w.heap.size w w'

end Go.Proofs.YtbooongkbninhaaDoor

namespace Go.Proofs.YtbooongkbninhaaDoor
open Go.RowKit
open Doc1

set_option maxHeartbeats 1000000 in
theorem among_any (g : Nat) (C : Value) (M : Nat) (b o len cap : Nat) (lo hi : Int) (w : World) (hcur : CurAt g C M w) (hco : CodeAt g C w) (hM : M ≤ 3999999999999999990) (hb : b ≠ g) (hl : ∀ j, j < len → ∃ z : Int, (lo ≤ z ∧ z ≤ hi) ∧ w.cell? ⟨b, o + j, none⟩ = some (.int .i64 z)) (h1 : 0 < len) (_h2 : len ≤ 1000000) (_h3 : len ≤ cap) :
    Calls Tryd.prog 49 #[.pointer (some ⟨g, 0, none⟩), .slice (some ⟨b, o, none⟩) len cap] w fun e w' => ∃ z : Int, e = .returned (.int .i64 z) ∧ (lo ≤ z ∧ z ≤ hi) ∧ CurAt g C (M + 2) w' ∧ w.grownBy w' (some g) := by
  have H1 := hide (pick_any g C M len w hcur hco hM)
  clear hcur hco hM
  go_enter Tryd.func49, Tryd.ntmps49
  go_wp2_with fail
  refine H1.out.mono ?_
  rintro e w1 ⟨y, rfl, hy0, hy1, hy2, hc1, hg1⟩
  obtain ⟨n, rfl⟩ : ∃ n : Nat, y = n := ⟨y.toNat, by omega⟩
  have hn : n < len := by have := hy2 (by omega); omega
  obtain ⟨z, hz, hcs⟩ := hl n hn
  have hc' : w1.cell? ⟨b, o + n, none⟩ = some (.int .i64 z) := hg1.cell hcs (fun e => hb (by cases e; rfl))
  clear hl hy2 hcs
  go_wp2
  go_ret
  exact ⟨z, rfl, hz, hc1, hg1⟩

/-- What the drawing of a change leaves. -/
def ChPost (g : Nat) (C : Value) (M : Nat) (w : World) (e : Ending) (w' : World) : Prop :=
  ∃ v L, e = .returned v ∧ POwn w' w.heap.size v L ∧ L.length ≤ 2586186935076 ∧ (∀ p ∈ L, smP p) ∧ CurAt g C M w' ∧ w.grownBy w' (some g)
theorem part_at {L : List Pt} {n : Nat} (h : n < L.length) : L = L.take n ++ L[n] :: L.drop (n + 1) := by
  rw [List.getElem_cons_drop]; exact (List.take_append_drop n L).symm
theorem smP_set {L : List Pt} {n : Nat} {x : Pt} (hs : ∀ p ∈ L, smP p) (hx : smP x) : ∀ p ∈ L.take n ++ x :: L.drop (n + 1), smP p := by
  intro p hp
  rcases List.mem_append.1 hp with c | c
  · exact hs p (List.mem_of_mem_take c)
  · rcases List.mem_cons.1 c with c | c
    · rw [c]; exact hx
    · exact hs p (List.mem_of_mem_drop c)
theorem len_set {L : List Pt} {n : Nat} (hn : n < L.length) (x : Pt) : (L.take n ++ x :: L.drop (n + 1)).length = L.length := by
  simp; omega
/-- A field of a part is written. -/
theorem POwn.put {w : World} {B gb cap : Nat} {L : List Pt} {n : Nat} (h : POwn w B (.slice (some ⟨gb, 0, none⟩) L.length cap) L) (hn : n < L.length) (f : Nat) (u : Value) {x' : Pt} (hf : f < 3) (hx : (ptC L[n]).set f u = ptC x') :
    POwn (w.setCell ⟨gb, n * 3 + f, none⟩ u) B (.slice (some ⟨gb, 0, none⟩) L.length cap) (L.take n ++ x' :: L.drop (n + 1)) := by
  have hl := part_at hn
  have h0 : POwn w B (.slice (some ⟨gb, 0, none⟩) L.length cap) (L.take n ++ L[n] :: L.drop (n + 1)) := by rw [← hl]; exact h
  have := POwn.set (x' := x') h0 (by rw [← hl]) f u hf hx
  rw [List.length_take, Nat.min_eq_left (by omega)] at this
  exact this
theorem setBlk {w w1 : World} {g b k : Nat} {u : Value} (h : w.grownBy w1 (some g)) (hb : w.heap.size ≤ b) : w.grownBy (w1.setCell ⟨b, k, none⟩ u) (some g) :=
  ⟨h.os, h.tape, h.output, by have := h.size; simpa using this, fun j hj hne => (Below.heap_setCell _ _ _ _ (by show j ≠ b; omega)).trans (h.block j hj hne)⟩
theorem CurAt.setBlk {g : Nat} {C : Value} {M : Nat} {w : World} {b k : Nat} {u : Value} (h : CurAt g C M w) (hb : g ≠ b) : CurAt g C M (w.setCell ⟨b, k, none⟩ u) :=
  h.grown (r := some b) ⟨rfl, rfl, rfl, by simp, fun j _ hne => Below.heap_setCell _ _ _ _ (fun e => hne (by rw [e]))⟩ (fun e => hb (Option.some.inj e).symm)

set_option maxRecDepth 100000 in
set_option maxHeartbeats 8000000 in
theorem op_any (g : Nat) (C : Value) (M : Nat) (w : World) (hcur : CurAt g C M w) (hco : CodeAt g C w) (hC : codeLen C ≤ 1048576) (hM : M ≤ 80000000) :
    Calls Tryd.prog 22 #[.pointer (some ⟨g, 0, none⟩)] w (ChPost g C (M + 9000000000000) w) := by
  obtain ⟨u0, hu0, hz0, hz1, hz2⟩ := info_parts Tryd.infoPart
  have hgl : g < w.heap.size := hcur.lt
  go_enter Tryd.func22, Tryd.ntmps22
  go_wp2_with fail
  refine (plainText_any _ _ _ _ hcur hco hM).mono ?_
  rintro e w1 ⟨s, rfl, hs, hc1, hg1⟩
  have hco1 := hco.grown hg1
  clear hcur
  go_wp2_with fail
  refine (opOn_any _ _ _ s w1 hc1 hco1 hC (by omega) hs).mono ?_
  rintro e w2 ⟨v, L, rfl, hown, hL, hsm, hc2, hg2⟩
  have HCO := hide (hco1.grown hg2)
  have HG := hide (hg1.trans hg2)
  have hs1 := hg1.size
  have hs2 := HG.out.size
  have HSM := hide hsm
  clear hsm hc1 hco1 hg1 hg2 hco
  replace hown := POwn.mono hown hs1
  rcases List.eq_nil_or_concat L with rfl | ⟨L0, x0, hLx⟩
  · obtain ⟨av, cv, rfl, -, -⟩ := own_shp hown
    go_wp2
    go_ret
    exact ⟨_, [], rfl, hown, by simp, HSM.out, hc2.mono (by omega), HG.out⟩
  · have hne : L ≠ [] := by rw [hLx]; simp
    obtain ⟨gb, cap, rfl, hcap, hcm, hgb, hglt, hcl, hbk⟩ := POwn.shape hown hne
    clear hLx x0 L0
    have hlp : 0 < L.length := List.length_pos_iff.2 hne
    have hgg : g ≠ gb := by omega
    go_wp2_with fail
    refine (one_any g C _ 12 w2 hc2 HCO.out (by omega)).mono ?_
    rintro e w3 ⟨b, rfl, hc3, hg3⟩
    have HCO3 := hide (HCO.out.grown hg3)
    have HG3 := hide (HG.out.trans hg3)
    have own3 := own_grown hown hg3 (fun b hb e => by have := (hown.lt b hb).1; have := Option.some.inj e; omega)
    clear hc2 hg3 HCO HG hown hcl hbk hglt
    cases b with
    | false =>
      go_wp2
      go_ret
      exact ⟨_, L, rfl, own3, by omega, HSM.out, hc3.mono (by omega), HG3.out⟩
    | true =>
      have PK := hide (pick_any g C _ 4 w3 hc3 HCO3.out (by omega))
      go_wp2_with fail
      refine PK.out.mono ?_
      rintro e w4 ⟨y, rfl, hy0, hy1, hy2, hc4, hg4⟩
      have hy3 := hy2 (by omega)
      obtain ⟨q, rfl⟩ : ∃ q : Nat, y = q := ⟨y.toNat, by omega⟩
      have HCO4 := hide (HCO3.out.grown hg4)
      have HG4 := hide (HG3.out.trans hg4)
      have own4 := own_grown own3 hg4 (fun b hb e => by have := (own3.lt b hb).1; have := Option.some.inj e; omega)
      have hs4 := HG4.out.size
      clear hy2 hc3 hg4 HCO3 HG3 own3 PK
      by_cases q0 : q = 0
      · subst q0
        have PK := hide (pick_any g C _ (L.length : Int) w4 hc4 HCO4.out (by omega))
        go_wp2_with fail
        refine PK.out.mono ?_
        rintro e w5 ⟨z, rfl, hz0', hz1', hz2', hc5, hg5⟩
        have hz3 := hz2' (by omega)
        obtain ⟨n, rfl⟩ : ∃ n : Nat, z = n := ⟨z.toNat, by omega⟩
        have hn : n < L.length := by omega
        have HCO5 := hide (HCO4.out.grown hg5)
        have HG5 := hide (HG4.out.trans hg5)
        have own5 := own_grown own4 hg5 (fun b hb e => by have := (own4.lt b hb).1; have := Option.some.inj e; omega)
        clear hz2' hc4 hg5 HCO4 HG4 own4 PK
        have PK := hide (pick_any g C _ 5 w5 hc5 HCO5.out (by omega))
        go_wp2_with fail
        refine PK.out.mono ?_
        rintro e w6 ⟨t, rfl, ht0, ht1, ht2, hc6, hg6⟩
        have ht3 := ht2 (by omega)
        have HG6 := hide (HG5.out.trans hg6)
        have own6 := own_grown own5 hg6 (fun b hb e => by have := (own5.lt b hb).1; have := Option.some.inj e; omega)
        clear ht2 hc5 hg6 HCO5 HG5 own5 PK
        obtain ⟨gb', cap', ev, -, -, -, hglt, hcl, hbk⟩ := POwn.shape own6 hne
        cases ev
        obtain ⟨d0, d1, d2⟩ := hcl.ptat n hn
        have f0 := hbk.fz (n * 3)
        have OS := hide (POwn.put own6 hn 0 (.int .i64 (t - 1)) (x' := ⟨t - 1, L[n].put, L[n].drop⟩) (by omega) rfl)
        have hsx := HSM.out _ (List.getElem_mem hn)
        clear own6 hcl hbk
        go_wp2
        go_ret
        exact ⟨_, _, rfl, OS.out, by rw [len_set hn]; omega, smP_set HSM.out ⟨⟨by show -1 ≤ t - 1; omega, by show t - 1 ≤ 301; omega⟩, hsx.2.1, hsx.2.2⟩, (hc6.setBlk hgg).mono (by omega), setBlk HG6.out hgb⟩
      · have b0 : ((q : Int) == 0) = false := by simp; omega
        have b0' : ¬ (q : Int) = 0 := by omega
        by_cases q1 : q = 1
        · subst q1
          have PK := hide (pick_any g C _ (L.length : Int) w4 hc4 HCO4.out (by omega))
          go_wp2_with fail
          refine PK.out.mono ?_
          rintro e w5 ⟨z, rfl, hz0', hz1', hz2', hc5, hg5⟩
          have hz3 := hz2' (by omega)
          obtain ⟨n, rfl⟩ : ∃ n : Nat, z = n := ⟨z.toNat, by omega⟩
          have hn : n < L.length := by omega
          have HG5 := hide (HG4.out.trans hg5)
          have own5 := own_grown own4 hg5 (fun b hb e => by have := (own4.lt b hb).1; have := Option.some.inj e; omega)
          clear hz2' hc4 hg5 HCO4 HG4 own4 PK
          obtain ⟨gb', cap', ev, -, -, -, hglt, hcl, hbk⟩ := POwn.shape own5 hne
          cases ev
          obtain ⟨d0, d1, d2⟩ := hcl.ptat n hn
          have f0 := hbk.fz (n * 3 + 1)
          have OS := hide (POwn.put own5 hn 1 (.string ⟨#[90]⟩) (x' := ⟨L[n].keep, ⟨#[90]⟩, L[n].drop⟩) (by omega) rfl)
          have hsx := HSM.out _ (List.getElem_mem hn)
          clear own5 hcl hbk
          go_wp2
          go_ret
          exact ⟨_, _, rfl, OS.out, by rw [len_set hn]; omega, smP_set HSM.out ⟨hsx.1, by show (1 : Nat) ≤ 300; omega, hsx.2.2⟩, (hc5.setBlk hgg).mono (by omega), setBlk HG5.out hgb⟩
        · have b1 : ((q : Int) == 1) = false := by simp; omega
          have b1' : ¬ (q : Int) = 1 := by omega
          by_cases q2 : q = 2
          · subst q2
            have hown := own4
            go_wp2_with (at_builtin; go_loud (refine wpList_append_own _ rfl _ _ 23 rfl w.heap.size 79 u0 (.agg #[.int .i64 0, .string ⟨#[]⟩, .string ⟨#[]⟩]) 3 40 Tryd.underlying23 hu0 hz0 hz1 hz2 rfl (by decide) _ _ _ rfl (hown.alloc _) ⟨w4.heap.size, 0, none⟩ 1 1 [.int .i64 0, .string ⟨#[]⟩, .string ⟨#[]⟩] rfl rfl (cell3_at _ _ rfl _ _ _ _) (by intro u hu; simp at hu; rcases hu with rfl | rfl | rfl <;> rfl) (by unfold maxLen; omega) (by omega) (by simp; omega) ?_); intro v3 w5 hown3 hgrow3 _; have HO3 := hide hown3; have HGR3 := hide hgrow3; clear hown3 hgrow3 hown own4)
            go_ret
            have hc5 := (hc4.alloc _).grown HGR3.out (fun e => hgg (Option.some.inj e).symm)
            have hg5 := grown_far (HG4.out.trans (World.grownBy_alloc w4 _ (some g))) (fun b e => by have e2 : some gb = some b := e; have := Option.some.inj e2; omega) HGR3.out
            refine ⟨v3, L ++ [⟨0, ⟨#[]⟩, ⟨#[]⟩⟩], rfl, by unfold POwn; rw [encP_app, List.length_append]; exact HO3.out, by simp; omega, fun p hp => ?_, hc5.mono (by omega), hg5⟩
            rcases List.mem_append.1 hp with c | c
            · exact HSM.out p c
            · rw [List.mem_singleton] at c; rw [c]; exact ⟨⟨by show (-1 : Int) ≤ 0; omega, by show (0 : Int) ≤ 301; omega⟩, by show (0 : Nat) ≤ 300; omega, by show (0 : Nat) ≤ 300; omega⟩
          · have b2 : ((q : Int) == 2) = false := by simp; omega
            have b2' : ¬ (q : Int) = 2 := by omega
            have AM := hide (among_any g C _ w4.heap.size 0 2 2 300 301 _ (hc4.alloc (.cells #[.int .i64 300, .int .i64 301] 3)) (HCO4.out.alloc _) (by omega) (by omega) (fun j hj => by
              have : j = 0 ∨ j = 1 := by omega
              rcases this with rfl | rfl
              · exact ⟨300, by omega, by rw [Nat.zero_add, World.cell?_alloc_at _ _ _ _ rfl]; rfl⟩
              · exact ⟨301, by omega, by rw [Nat.zero_add, World.cell?_alloc_at _ _ _ _ rfl]; rfl⟩) (by omega) (by omega) (by omega))
            go_wp2_with fail
            refine AM.out.mono ?_
            rintro e w5 ⟨z, rfl, hzz, hc5, hg5⟩
            have hgb5 := HG4.out.trans (World.grownBy_alloc w4 (.cells #[.int .i64 300, .int .i64 301] 3) (some g))
            have HG5 := hide (hgb5.trans hg5)
            have hs5 := HG5.out.size
            have hown := own_grown (own4.alloc _) hg5 (fun b hb e => by have := (own4.lt b hb).1; have := Option.some.inj e; omega)
            clear AM hc4 hg5 hgb5 HG4 own4
            go_wp2_with (at_builtin; go_loud (refine wpList_append_own _ rfl _ _ 23 rfl w.heap.size 79 u0 (.agg #[.int .i64 0, .string ⟨#[]⟩, .string ⟨#[]⟩]) 3 40 Tryd.underlying23 hu0 hz0 hz1 hz2 rfl (by decide) _ _ _ rfl (hown.alloc _) ⟨w5.heap.size, 0, none⟩ 1 1 [.int .i64 z, .string ⟨#[]⟩, .string ⟨#[]⟩] rfl rfl (cell3_at _ _ rfl _ _ _ _) (by intro u hu; simp at hu; rcases hu with rfl | rfl | rfl <;> rfl) (by unfold maxLen; omega) (by omega) (by simp; omega) ?_); intro v3 w6 hown3 hgrow3 _; have HO3 := hide hown3; have HGR3 := hide hgrow3; clear hown3 hgrow3 hown)
            go_ret
            have hc6 := (hc5.alloc _).grown HGR3.out (fun e => hgg (Option.some.inj e).symm)
            have hg6 := grown_far (HG5.out.trans (World.grownBy_alloc w5 _ (some g))) (fun b e => by have e2 : some gb = some b := e; have := Option.some.inj e2; omega) HGR3.out
            refine ⟨v3, L ++ [⟨z, ⟨#[]⟩, ⟨#[]⟩⟩], rfl, by unfold POwn; rw [encP_app, List.length_append]; exact HO3.out, by simp; omega, fun p hp => ?_, hc6.mono (by omega), hg6⟩
            rcases List.mem_append.1 hp with c | c
            · exact HSM.out p c
            · rw [List.mem_singleton] at c; rw [c]; exact ⟨⟨by show (-1 : Int) ≤ z; omega, by show z ≤ 301; omega⟩, by show (0 : Nat) ≤ 300; omega, by show (0 : Nat) ≤ 300; omega⟩
end Go.Proofs.YtbooongkbninhaaDoor

namespace Go.Proofs.YtbooongkbninhaaDoor
open Go.RowKit

theorem code_on {C : Value} {w w' : World} (h : CodeAt w.heap.size C w) (hb : Below w.heap.size w w') : CodeAt w'.heap.size C w' := by
  cases h with
  | nil _ a cap => exact .nil w' a cap
  | row _ b o len cap hne hl h =>
    by_cases h0 : len = 0
    · subst h0; exact .nil w' _ cap
    · obtain ⟨x0, _, _, hx0⟩ := h 0 (by omega)
      have hlt : b < w.heap.size := by
        unfold World.cell? at hx0
        cases e : w.heap[b]? with
        | none => simp [e] at hx0
        | some o => exact (Array.getElem?_eq_some_iff.1 e).1
      refine .row w' b o len cap (by have := hb.size; omega) hl (fun i hi => ?_)
      obtain ⟨x, h1, h2, hx⟩ := h i hi
      exact ⟨x, h1, h2, (World.cell?_of_block (hb.block b hlt)).trans hx⟩
end Go.Proofs.YtbooongkbninhaaDoor
