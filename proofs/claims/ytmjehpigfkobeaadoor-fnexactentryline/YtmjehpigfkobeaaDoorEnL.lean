/- An entry's line: the program's EntryLine and the model's. -/
import Derived.Test.YtmjehpigfkobeaaDoorSeal
import Derived.Test.YtmjehpigfkobeaaDoorOpT3
import Derived.Test.YtmjehpigfkobeaaDoorEnOne
import Derived.Deep.RegionWith
set_option linter.unusedVariables false
namespace Go.Proofs.YtmjehpigfkobeaaDoor
open Go.RowKit Go.Shelf
open Doc1

attribute [local go_sem] Oper.semAt_some

def hdB (c s : Int) (l : List Pt) : ByteArray := baD c.toNat ++ (⟨#[32]⟩ : ByteArray) ++ baD s.toNat ++ (⟨#[32]⟩ : ByteArray) ++ opB l
def lnR (c s : Int) (l : List Pt) : ByteArray := if enG ⟨c, s, l⟩ then seB (hdB c s l) else ⟨#[]⟩
theorem opB_size {l : List Pt} (h : goodO l = true) : (opB l).size ≤ 20000 := by
  have h1 := opT_len l (goodO_pk h)
  have h2 := (goodO_le h).1
  unfold opB
  rw [lB_size]
  omega
/-- What stays while a line is made: an entry's box, the powers of ten. -/
structure LS (w0 : World) (bx : Nat) (cs : Array Value) (W : World) : Prop where
  bel : Below w0.heap.size w0 W
  box : W.heap[bx]? = some (.cells cs 32 (0, 0))
  tab : TabP W
theorem LS.later {w0 : World} {bx : Nat} {cs : Array Value} {W W1 : World} (h : LS w0 bx cs W) (hb : Below W.heap.size W W1) : LS w0 bx cs W1 :=
  ⟨h.bel.trans (hb.mono h.bel.size), (hb.block bx (Array.getElem?_eq_some_iff.1 h.box).1).trans h.box, h.tab.below hb⟩
theorem LS.drew {w0 : World} {bx : Nat} {cs : Array Value} {W : World} (h : LS w0 bx cs W) : LS w0 bx cs W.drew := h.later ((Below.refl _ _).drew)

set_option maxRecDepth 100000 in
set_option maxHeartbeats 8000000 in
theorem lineI {w : World} {aw : Option Addr} {g cap : Nat} {l : List Pt} (c s : Int) (h : Pin w aw g cap l) (hT : TabN w) :
    Calls Tryd.prog 15 #[.agg #[.int .i64 c, .int .i64 s, .slice aw l.length cap]] w fun e w' => e = .returned (.tuple #[.string (lnR c s l), .bool (decide (enG ⟨c, s, l⟩))]) ∧ Below w.heap.size w w' := by
  have hb : Below w.heap.size w (w.alloc (.cells #[.int .i64 c, .int .i64 s, .slice aw l.length cap] 32)) := (Below.refl _ _).alloc (Nat.le_refl _) _
  have OT := opTextI (h.later hb) (hT.below hb)
  have IE := fun w' (hb' : Below w.heap.size w w') => isEntry_any c s (h.later hb') (hT.1.below hb')
  have HB := hide hb
  have hL : LS w w.heap.size #[.int .i64 c, .int .i64 s, .slice aw l.length cap] (w.alloc (.cells #[.int .i64 c, .int .i64 s, .slice aw l.length cap] 32)) := ⟨hb, heap_alloc_new w _, hT.2.below hb⟩
  have HL := hide hL
  clear h hT hb hL
  unfold opR at OT
  by_cases hg : goodO l = true
  · rw [hg] at OT
    rw [if_pos rfl] at OT
    have hsz := opB_size hg
    unfold lnR
    by_cases he : enG ⟨c, s, l⟩
    · rw [if_pos he, decide_eq_true he]
      rw [decide_eq_true he] at IE
      obtain ⟨⟨c0, c1⟩, ⟨s0, s1⟩, -⟩ := he
      simp only at c0 c1 s0 s1
      unfold hdB
      have IA := fun w' (hT : TabP w') => itoa_any c.toNat (by omega) w' hT
      have IB := fun w' (hT : TabP w') => itoa_any s.toNat (by omega) w' hT
      rw [Int.toNat_of_nonneg (by omega)] at IA IB
      have da := baD_size c.toNat
      have db := baD_size s.toNat
      have SE := hide (fun X w' hs hT => sealI X w' hs hT)
      generalize baD c.toNat = DA at *
      generalize baD s.toNat = DB at *
      generalize opB l = OB at *
      replace IA := hide IA
      replace IB := hide IB
      replace IE := hide IE
      replace OT := hide OT
      have ha : DA.size ≤ 1000 := by omega
      have hb : DB.size ≤ 1001 := by omega
      have hsum : (DA ++ (⟨#[32]⟩ : ByteArray) ++ DB ++ (⟨#[32]⟩ : ByteArray) ++ OB).size ≤ 1000000 := by
        have h32 : (⟨#[32]⟩ : ByteArray).size = 1 := rfl
        rw [ByteArray.size_append, ByteArray.size_append, ByteArray.size_append, ByteArray.size_append]
        omega
      replace hsum := hide hsum
      clear hg
      go_enter Tryd.func15, Tryd.ntmps15
      go_wp2_with (first
        | (go_at_call 8; refine OT.out.mono ?_; rintro e w2 ⟨rfl, hb2⟩; have HL2 := hide (HL.out.later hb2); have d0 := (Lib.cell_of_heap HL2.out.box 0).trans rfl; have d1 := (Lib.cell_of_heap HL2.out.box 1).trans rfl; have d2 := (Lib.cell_of_heap HL2.out.box 2).trans rfl; clear hb2)
        | (go_at_call 43; refine (IE.out _ HL2.out.bel).mono ?_; rintro e w3 ⟨rfl, hb3⟩; have HL3 := hide (HL2.out.later hb3); have e0 := (Lib.cell_of_heap HL3.out.box 0).trans rfl; have e1 := (Lib.cell_of_heap HL3.out.box 1).trans rfl; clear hb3))
      go_region_with (first
        | (go_at_call 45; refine (IA.out _ HL3.out.drew.tab).mono ?_; rintro e w4 ⟨rfl, hb4⟩; have HL4 := hide (HL3.out.drew.later hb4); have f0 := (Lib.cell_of_heap HL4.out.box 0).trans rfl; have f1 := (Lib.cell_of_heap HL4.out.box 1).trans rfl; clear hb4)
        | (go_at_call 45; refine (IB.out _ HL3.out.drew.tab).mono ?_; rintro e w4 ⟨rfl, hb4⟩; have HL4 := hide (HL3.out.drew.later hb4); have f0 := (Lib.cell_of_heap HL4.out.box 0).trans rfl; have f1 := (Lib.cell_of_heap HL4.out.box 1).trans rfl; clear hb4)
        | (go_at_call 45; refine (IA.out _ HL4.out.tab).mono ?_; rintro e w5 ⟨rfl, hb5⟩; have HL5 := hide (HL4.out.later hb5); clear hb5)
        | (go_at_call 45; refine (IB.out _ HL4.out.tab).mono ?_; rintro e w5 ⟨rfl, hb5⟩; have HL5 := hide (HL4.out.later hb5); clear hb5)
        | (go_at_call 44; refine (SE.out _ _ hsum.out HL5.out.tab).mono ?_; rintro e w6 ⟨rfl, hb6⟩; have HL6 := hide (HL5.out.later hb6); clear hb6))
      all_goals
        go_wp2
        go_ret2
        exact ⟨rfl, HL6.out.bel⟩
    · rw [if_neg he, decide_eq_false he]
      rw [decide_eq_false he] at IE
      replace IE := hide IE
      replace OT := hide OT
      generalize opB l = OB at *
      clear hg he
      go_enter Tryd.func15, Tryd.ntmps15
      go_wp2_with (first
        | (go_at_call 8; refine OT.out.mono ?_; rintro e w2 ⟨rfl, hb2⟩; have HL2 := hide (HL.out.later hb2); have d0 := (Lib.cell_of_heap HL2.out.box 0).trans rfl; have d1 := (Lib.cell_of_heap HL2.out.box 1).trans rfl; have d2 := (Lib.cell_of_heap HL2.out.box 2).trans rfl; clear hb2)
        | (go_at_call 43; refine (IE.out _ HL2.out.bel).mono ?_; rintro e w3 ⟨rfl, hb3⟩; have HL3 := hide (HL2.out.later hb3); clear hb3))
      go_ret2
      exact ⟨rfl, HL3.out.bel⟩
  · have hg : goodO l = false := by simpa using hg
    rw [hg] at OT
    rw [if_neg (by simp)] at OT
    have he : ¬ enG ⟨c, s, l⟩ := fun x => by have := x.2.2; rw [hg] at this; cases this
    unfold lnR
    rw [if_neg he, decide_eq_false he]
    replace OT := hide OT
    clear hg he IE
    go_enter Tryd.func15, Tryd.ntmps15
    go_wp2_with (go_at_call 8; refine OT.out.mono ?_; rintro e w2 ⟨rfl, hb2⟩; have HL2 := hide (HL.out.later hb2); clear hb2)
    go_ret2
    exact ⟨rfl, HL2.out.bel⟩

end Go.Proofs.YtmjehpigfkobeaaDoor
