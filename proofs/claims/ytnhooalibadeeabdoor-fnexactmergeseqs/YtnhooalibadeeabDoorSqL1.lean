/- Atoms that are said alike. -/
import Derived.Test.YtnhooalibadeeabDoorSqS1
import Derived.Test.YtnhooalibadeeabDoorSqW3
set_option linter.unusedVariables false
namespace Go.Proofs.YtnhooalibadeeabDoor
open Go.RowKit
open Doc1

/-- The same but for being gone. -/
def alk (x y : Am) : Bool := x.time == y.time && (x.actor == y.actor && (x.above == y.above && (x.maker == y.maker && x.byte.toList == y.byte.toList)))
/-- Nothing of x is news to who has y. -/
def knw (x y : Am) : Bool := alk x y && (y.gone || !x.gone)

set_option maxRecDepth 100000 in
set_option maxHeartbeats 1000000 in
theorem l17Alike_any (x y : Am) (w : World) :
    Calls Tryd.prog 23 #[amV x, amV y] w fun e w' => e = .returned (.bool (alk x y)) ∧ Below w.heap.size w w' := by
  unfold amV
  obtain ⟨R, hR⟩ : ∃ R, R = alk x y := ⟨_, rfl⟩
  rw [← hR]
  unfold alk at hR
  have HR := hide hR
  clear hR
  go_enter Tryd.func23, Tryd.ntmps23
  go_wp2
  all_goals
    go_ret
    refine ⟨ret_bool ?_, by first | exact (((Below.refl _ _).alloc (Nat.le_refl _) _).alloc (by simp) _) | exact (((Below.refl _ _).alloc (Nat.le_refl _) _).alloc (by simp) _).setCell (by simp) _⟩
    rw [HR.out]
    simp_all

set_option maxRecDepth 100000 in
set_option maxHeartbeats 1000000 in
theorem saidAs_any (x y : Am) (w : World) :
    Calls Tryd.prog 29 #[amV x, amV y] w fun e w' => e = .returned (.bool (alk x y)) ∧ Below w.heap.size w w' := by
  unfold amV
  obtain ⟨R, hR⟩ : ∃ R, R = alk x y := ⟨_, rfl⟩
  rw [← hR]
  unfold alk at hR
  have HR := hide hR
  clear hR
  go_enter Tryd.func29, Tryd.ntmps29
  go_wp2
  all_goals
    go_ret
    refine ⟨ret_bool ?_, by first | exact (((Below.refl _ _).alloc (Nat.le_refl _) _).alloc (by simp) _) | exact ((((Below.refl _ _).alloc (Nat.le_refl _) _).alloc (by simp) _).setCell (by simp) _).setCell (by simp) _⟩
    rw [HR.out]
    simp_all
end Go.Proofs.YtnhooalibadeeabDoor
