/- numberOf: where an atom with an id stands. -/
import Derived.Test.YtnhooalibadeeabDoorSqT
set_option linter.unusedVariables false
namespace Go.Proofs.YtnhooalibadeeabDoor
open Go.RowKit
open Doc1

/-- A box of an id. -/
def BxI (w : World) (g : Nat) (t a : Int) : Prop := w.heap[g]? = some (.cells #[.int .i64 t, .int .i64 a] 52)
theorem BxI.new (w : World) (t a : Int) : BxI (w.alloc (.cells #[.int .i64 t, .int .i64 a] 52)) w.heap.size t a := heap_alloc_new w _
theorem BxI.lt {w : World} {g : Nat} {t a : Int} (h : BxI w g t a) : g < w.heap.size := (Array.getElem?_eq_some_iff.1 h).1
theorem BxI.later {w w1 : World} {g : Nat} {t a : Int} (h : BxI w g t a) (hb : Below w.heap.size w w1) : BxI w1 g t a := by
  unfold BxI; rw [hb.block g h.lt]; exact h
theorem BxI.cells {w : World} {g : Nat} {t a : Int} (h : BxI w g t a) : w.cell? ⟨g, 0, none⟩ = some (.int .i64 t) ∧ w.cell? ⟨g, 1, none⟩ = some (.int .i64 a) :=
  ⟨by rw [cell_of_row _ _ 0 _ _ (0, 0) h]; rfl, by rw [cell_of_row _ _ 1 _ _ (0, 0) h]; rfl⟩

set_option maxRecDepth 100000 in
set_option maxHeartbeats 2000000 in
theorem numberOf1_any (x : Am) (b : Nat) (t a : Int) (w : World) (hb : BxI w b t a) :
    Calls Tryd.prog 49 #[amV x, .pointer (some ⟨b, 0, none⟩)] w fun e w' => e = .returned (.bool (at2 t a x)) ∧ Below w.heap.size w w' := by
  have hb1 : Below w.heap.size w (w.alloc (.cells #[.int .i64 x.time, .int .i64 x.actor, .int .i64 x.above, .int .i64 x.maker, .string x.byte, .bool x.gone] 47)) := (Below.refl _ _).alloc (Nat.le_refl _) _
  obtain ⟨w1, hw1⟩ : ∃ w1, w1 = w.alloc (.cells #[.int .i64 x.time, .int .i64 x.actor, .int .i64 x.above, .int .i64 x.maker, .string x.byte, .bool x.gone] 47) := ⟨_, rfl⟩
  rw [← hw1] at hb1
  have BX : Hid (BxA w1 w.heap.size x) := hide (by rw [hw1]; exact BxA.new _ _)
  have HBI := hide hb
  have HB := hide hb1
  have N := hide (fun w => id_any x w)
  have KA : Hid (∀ w', Below w1.heap.size w1 w' → (w'.cell? ⟨w.heap.size, 0, none⟩ = some (.int .i64 x.time) ∧ w'.cell? ⟨w.heap.size, 1, none⟩ = some (.int .i64 x.actor) ∧ w'.cell? ⟨w.heap.size, 2, none⟩ = some (.int .i64 x.above) ∧ w'.cell? ⟨w.heap.size, 3, none⟩ = some (.int .i64 x.maker) ∧ w'.cell? ⟨w.heap.size, 4, none⟩ = some (.string x.byte) ∧ w'.cell? ⟨w.heap.size, 5, none⟩ = some (.bool x.gone)) ∧ w'.cell? ⟨b, 0, none⟩ = some (.int .i64 t) ∧ w'.cell? ⟨b, 1, none⟩ = some (.int .i64 a)) := hide (fun w' h => ⟨(BX.out.later h).cells, ((HBI.out.later HB.out).later h).cells⟩)
  obtain ⟨R, hR⟩ : ∃ R, R = at2 t a x := ⟨_, rfl⟩
  rw [← hR]
  have HR := hide hR
  clear hR hb hb1
  have hV : amV x = .agg #[.int .i64 x.time, .int .i64 x.actor, .int .i64 x.above, .int .i64 x.maker, .string x.byte, .bool x.gone] := rfl
  rw [hV] at N ⊢
  clear hV
  have EQ := eq_id
  go_enter Tryd.func49, Tryd.ntmps49
  go_wp2_with fail
  rw [← hw1]
  clear hw1
  obtain ⟨⟨c0, c1, c2, c3, c4, c5⟩, c6, c7⟩ := KA.out w1 (Below.refl _ _)
  go_region_with (go_at_call 28; refine (N.out _).mono ?_; rintro e w2 ⟨rfl, hb2⟩; have hb3 : Below w1.heap.size w1 w2 := (by first | exact hb2 | exact (Below.refl _ _).drew.trans hb2); obtain ⟨⟨f0, f1, f2, f3, f4, f5⟩, f6, f7⟩ := KA.out w2 hb3)
  all_goals
    go_wp2
    go_ret
    refine ⟨ret_bool ?_, HB.out.trans (hb3.mono HB.out.size)⟩
    rw [HR.out]
    rfl
end Go.Proofs.YtnhooalibadeeabDoor
