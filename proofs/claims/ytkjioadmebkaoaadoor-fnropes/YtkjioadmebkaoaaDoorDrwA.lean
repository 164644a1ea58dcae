/- The contracts of the drawing functions of chapter 1, and of a plain text. The code that is read lies as it lay. -/
import Derived.Test.YtkjioadmebkaoaaDoorDrawM
import Derived.Test.YtkjioadmebkaoaaDoorWalks6
namespace Go.Proofs.YtkjioadmebkaoaaDoor
open Go.RowKit

def deepTexts : List ByteArray := [⟨#[65, 65, 65, 65, 65, 65, 65, 65, 65, 65, 65, 65, 47, 47, 47, 47, 47, 47, 47, 47, 47, 47, 47, 47]⟩, ⟨#[65, 65, 65, 65, 65, 65, 65, 65, 65, 65, 65, 65, 65, 47, 47, 47, 47, 47, 47, 47, 47, 47, 47, 47, 47, 47]⟩]
theorem deepTexts_le : ∀ s ∈ deepTexts, s.size ≤ 26 := by decide
theorem TextPost.mono {g : Nat} {C : Value} {M M' S S' : Nat} {w : World} {e : Ending} {w' : World} (h : TextPost g C M S w e w') (hM : M ≤ M') (hS : S ≤ S') : TextPost g C M' S' w e w' := by
  obtain ⟨s, h1, h2, h3, h4⟩ := h
  exact ⟨s, h1, by omega, h3.mono hM, h4⟩

/-- The end of doc: is the text spoilt, and what is answered. -/
def DocText : ByteArray := ⟨#[65, 47, 97, 90]⟩

set_option maxRecDepth 100000 in
set_option maxHeartbeats 2000000 in
theorem doc_any (g : Nat) (C : Value) (M : Nat) (w : World) (hcur : CurAt g C M w) (hco : CodeAt g C w) (hM : M ≤ 1000000000000000) :
    Calls Tryd.prog 55 #[.pointer (some ⟨g, 0, none⟩)] w (TextPost g C (M + 400000) 300000 w) := by
  go_enter Tryd.func55, Tryd.ntmps55
  go_wp2_with fail
  refine (pick_any g C M 7 w hcur hco (by omega)).mono ?_
  rintro e w1 ⟨y, rfl, hy0, hy1, hy2, hc1, hg1⟩
  have hy3 := hy2 (by omega)
  clear hy2 hcur
  obtain ⟨n, rfl⟩ : ∃ n : Nat, y = n := ⟨y.toNat, by omega⟩
  go_wp2_with fail
  refine (inner_three g C _ n w1 hc1 (hco.grown hg1) (by omega) (by omega)).mono ?_
  rintro e w2 ⟨s, rfl, hs, hc2, hg2⟩
  have hgA := hg1.trans hg2
  replace hs : s.size ≤ 245760 := by omega
  replace hc2 := hc2.mono (show M + 2 + n * 4096 ≤ M + 2 + 24576 by omega)
  clear hc1 hg1 hg2
  go_wp2_with fail
  refine (pick_any g C _ 30 w2 hc2 (hco.grown hgA) (by omega)).mono ?_
  rintro e w3 ⟨z, rfl, hz0, hz1, hz2, hc3, hg3⟩
  have hgB := hgA.trans hg3
  clear hz2 hc2 hg3 hgA
  by_cases z0 : z = 0
  · subst z0
    go_wp2_with fail
    refine (inner_three g C _ 60 w3 hc3 (hco.grown hgB) (by omega) (by omega)).mono ?_
    rintro e w4 ⟨s', rfl, hs', hc4, hg4⟩
    have hgC := hgB.trans hg4
    replace hs' : s'.size ≤ 245760 := by omega
    clear hc3 hg4 hgB hs
    go_wp2_with fail
    refine (one_any g C _ 12 w4 hc4 (hco.grown hgC) (by omega)).mono ?_
    rintro e w5 ⟨b, rfl, hc5, hg5⟩
    have hgD := hgC.trans hg5
    clear hc4 hg5 hgC
    cases b with
    | true =>
      go_wp2_with fail
      refine (spoilt_any g C _ s' ⟨#[65, 47, 97, 90]⟩ w5 hc5 (hco.grown hgD) (by omega) (by omega) (by decide) (by decide)).mono ?_
      rintro e w6 ⟨r, rfl, hr, hc6, hg6⟩
      go_wp2
      go_ret
      exact ⟨r, rfl, by omega, hc6.mono (by omega), hgD.trans hg6⟩
    | false =>
      go_wp2
      go_ret
      exact ⟨s', rfl, by omega, hc5.mono (by omega), hgD⟩
  · have z0' : (z == 0) = false := by simpa using z0
    by_cases z1 : z = 1
    · subst z1
      clear z0 z0'
      have hl3 := hc3.lt
      go_wp2_with fail
      refine (of_any g C _ 26 w3.heap.size 0 2 2 _ (hc3.alloc _) ((hco.grown hgB).grown (World.grownBy_alloc _ _ _)) (by omega) (by omega) (texts_new w3 deepTexts 9 26 deepTexts_le) (by omega) (by omega) (by omega)).mono ?_
      rintro e w4 ⟨s', rfl, hs', hc4, hg4⟩
      have hgC := (hgB.trans (World.grownBy_alloc w3 _ (some g))).trans hg4
      clear hc3 hg4 hgB hs
      go_wp2_with fail
      refine (one_any g C _ 12 w4 hc4 (hco.grown hgC) (by omega)).mono ?_
      rintro e w5 ⟨b, rfl, hc5, hg5⟩
      have hgD := hgC.trans hg5
      clear hc4 hg5 hgC
      cases b with
      | true =>
        go_wp2_with fail
        refine (spoilt_any g C _ s' ⟨#[65, 47, 97, 90]⟩ w5 hc5 (hco.grown hgD) (by omega) (by omega) (by decide) (by decide)).mono ?_
        rintro e w6 ⟨r, rfl, hr, hc6, hg6⟩
        go_wp2
        go_ret
        exact ⟨r, rfl, by omega, hc6.mono (by omega), hgD.trans hg6⟩
      | false =>
        go_wp2
        go_ret
        exact ⟨s', rfl, by omega, hc5.mono (by omega), hgD⟩
    · have z1' : (z == 1) = false := by simpa using z1
      clear z0 z1
      go_wp2_with fail
      refine (one_any g C _ 12 w3 hc3 (hco.grown hgB) (by omega)).mono ?_
      rintro e w5 ⟨b, rfl, hc5, hg5⟩
      have hgD := hgB.trans hg5
      clear hc3 hg5 hgB
      cases b with
      | true =>
        go_wp2_with fail
        refine (spoilt_any g C _ s ⟨#[65, 47, 97, 90]⟩ w5 hc5 (hco.grown hgD) (by omega) (by omega) (by decide) (by decide)).mono ?_
        rintro e w6 ⟨r, rfl, hr, hc6, hg6⟩
        go_wp2
        go_ret
        exact ⟨r, rfl, by omega, hc6.mono (by omega), hgD.trans hg6⟩
      | false =>
        go_wp2
        go_ret
        exact ⟨s, rfl, by omega, hc5.mono (by omega), hgD⟩

theorem CodeAt.shape {g : Nat} {C : Value} {w : World} (h : CodeAt g C w) : ∃ a len cap, C = .slice a len cap := by
  cases h with
  | nil _ a cap => exact ⟨_, _, _, rfl⟩
  | row _ b o len cap hb hl h => exact ⟨_, _, _, rfl⟩

/-- The cursor as it is laid, ahead of the first step. -/
theorem cur_new (w : World) (C : Value) : CurAt w.heap.size C 0 (w.alloc (.cells #[C, .int .i64 0, .int .u64 0] 101)) where
  c0 := by rw [World.cell?_alloc_at _ _ _ _ rfl]; rfl
  ex := ⟨0, 0, by rw [World.cell?_alloc_at _ _ _ _ rfl]; rfl, by rw [World.cell?_alloc_at _ _ _ _ rfl]; rfl, by omega, by omega, by omega⟩
  fz := fun j => by simp
theorem below_of_grown {w w' : World} {o : Obj} (h : (w.alloc o).grownBy w' (some w.heap.size)) : Below w.heap.size w w' :=
  ⟨h.os, h.tape, h.output, by have := h.size; simp at this; omega, fun k hk => (h.block k (by simp; omega) (by simp; omega)).trans (Below.heap_alloc w o k hk)⟩

theorem ownsRow_lower {w : World} {B B' e size n : Nat} {v : Value} {xs : List Value} (h : w.ownsRow B e size v n xs) (hB : B' ≤ B) : w.ownsRow B' e size v n xs := by
  refine ⟨h.1, ?_⟩
  rcases h.2 with h' | ⟨g, cap, cur, a, b, c⟩
  · exact .inl h'
  · exact .inr ⟨g, cap, cur, a, by omega, c⟩

/-- What a drawing of a text leaves. -/
def DrawnPost (w : World) (e : Ending) (w' : World) : Prop := ∃ s : ByteArray, e = .returned (.string s) ∧ s.size ≤ 300000 ∧ Below w.heap.size w w'

/-- What a drawing of a text and a number leaves. -/
def DrawnAt (w : World) (e : Ending) (w' : World) : Prop := ∃ (s : ByteArray) (a : Int), e = .returned (.tuple #[.string s, .int .i64 a]) ∧ s.size ≤ 300000 ∧ -1 ≤ a ∧ a ≤ 65535 ∧ Below w.heap.size w w'

def nameTexts : List ByteArray := [⟨#[65]⟩, ⟨#[66]⟩, ⟨#[67]⟩, ⟨#[97]⟩, ⟨#[65, 66]⟩, ⟨#[]⟩]
theorem nameTexts_le : ∀ s ∈ nameTexts, s.size ≤ 2 := by decide
/-- What a drawing of two texts leaves. -/
def DrawnTwo (w : World) (e : Ending) (w' : World) : Prop := ∃ s m : ByteArray, e = .returned (.tuple #[.string s, .string m]) ∧ s.size ≤ 300000 ∧ m.size ≤ 2 ∧ Below w.heap.size w w'

end Go.Proofs.YtkjioadmebkaoaaDoor

namespace Go.Proofs.YtkjioadmebkaoaaDoor
open Go.RowKit
open Doc1

set_option maxRecDepth 100000 in
set_option maxHeartbeats 2000000 in
theorem plainText_any (g : Nat) (C : Value) (M : Nat) (w : World) (hcur : CurAt g C M w) (hco : CodeAt g C w) (hM : M ≤ 1000000000000000) :
    Calls Tryd.prog 146 #[.pointer (some ⟨g, 0, none⟩)] w (TextPost g C (M + 500000) 300 w) := by
  go_enter Tryd.func146, Tryd.ntmps146
  go_wp2_with fail
  refine (doc_any g C M w hcur hco hM).mono ?_
  rintro e w1 ⟨s, rfl, hs, hc1, hg1⟩
  have G := hide (goodTextS_any s w1 (by omega))
  cases hgd : good s.data.toList with
  | false =>
    rw [hgd] at G
    clear hgd
    go_wp2_with fail
    refine G.out.mono ?_
    rintro e w2 ⟨rfl, hw⟩
    replace hw := hw.symm
    subst hw
    go_wp2
    go_ret
    exact ⟨⟨#[116, 101, 120, 116]⟩, rfl, by decide, hc1.mono (by omega), hg1⟩
  | true =>
    rw [hgd] at G
    have hs3 : s.size ≤ 300 := by
      unfold good at hgd
      simp only [Bool.and_eq_true, decide_eq_true_eq] at hgd
      simpa using hgd.2
    clear hgd
    go_wp2_with fail
    refine G.out.mono ?_
    rintro e w2 ⟨rfl, hw⟩
    replace hw := hw.symm
    subst hw
    by_cases h40 : (40 : Int) < (s.size : Int)
    · go_wp2_with fail
      refine (one_any g C _ 20 w1 hc1 (hco.grown hg1) (by omega)).mono ?_
      rintro e w2 ⟨b, rfl, hc2, hg2⟩
      cases b with
      | true =>
        go_wp2
        go_ret
        exact ⟨s, rfl, hs3, hc2.mono (by omega), hg1.trans hg2⟩
      | false =>
        go_wp2
        go_ret
        exact ⟨_, rfl, by rw [ByteArray.size_extract]; omega, hc2.mono (by omega), hg1.trans hg2⟩
    · go_wp2
      go_ret
      exact ⟨s, rfl, hs3, hc1.mono (by omega), hg1⟩

theorem code_on {C : Value} {w w' : World} (h : CodeAt w.heap.size C w) (hb : Below w.heap.size w w') : CodeAt w'.heap.size C w' := by
  cases h with
  | nil _ a cap => exact .nil w' a cap
  | row _ b o len cap hne hl h =>
    by_cases h0 : len = 0
    · subst h0; exact .nil w' _ cap
    · obtain ⟨x0, _, _, hx0⟩ := h 0 (by omega)
      have hlt : b < w.heap.size := by
        unfold World.cell? at hx0
        cases e : w.heap[b]? with
        | none => simp [e] at hx0
        | some o => exact (Array.getElem?_eq_some_iff.1 e).1
      refine .row w' b o len cap (by have := hb.size; omega) hl (fun i hi => ?_)
      obtain ⟨x, h1, h2, hx⟩ := h i hi
      exact ⟨x, h1, h2, (World.cell?_of_block (hb.block b hlt)).trans hx⟩
end Go.Proofs.YtkjioadmebkaoaaDoor
