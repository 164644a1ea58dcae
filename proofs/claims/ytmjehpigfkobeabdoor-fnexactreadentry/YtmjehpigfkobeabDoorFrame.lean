/- The frame of a law over the table of kinds: what its walk leaves, read back as the row asks. -/
import Derived.Test.YtmjehpigfkobeabDoorWalks1
import Derived.Test.YtmjehpigfkobeabDoorFrameP
import Derived.ProofKit
import Derived.OpenShut
import Derived.OpenVars
import Derived.Deep.DeepHandedRow
import Derived.Lib.LaidTab
namespace Go.Proofs.YtmjehpigfkobeabDoor
open Go.ChangeShapes Go.WideShapes Go.ChangeAt Go.RowKit Go.WideElems

theorem own : ownKnob Tryd.prog.godebug = none := by kernel_rfl
theorem laidOut : laidOutB Tryd.prog = true := by kernel_rfl
theorem gTab : Tryd.prog.globalNamed "loop.example/g00253/impl.byteKinds" = some 3 := by kernel_rfl
theorem gTabType : (Tryd.prog.globals[3]?).map (·.type) = some 147 := by kernel_rfl
theorem cellsT : Tryd.prog.cellsOf 147 = 123 := by kernel_rfl
theorem cells5 : Tryd.prog.cellsOf 5 = 1 := by kernel_rfl
theorem datum_eq : (Rows.laid_loop_example_g00253_impl_byteKinds : DataW Unit) = Lib.tabData .u8 Doc1.zs := by kernel_rfl

/-- What the rows' list gives: the table's cells hold the kinds. -/
theorem table {W : World} (h : laidMetH Tryd.prog [("loop.example/g00253/impl.byteKinds", Rows.laid_loop_example_g00253_impl_byteKinds)] W) : Tab W := by
  have h' : laidMet Tryd.prog [("loop.example/g00253/impl.byteKinds", Lib.tabData .u8 Doc1.zs)] W := by rw [← datum_eq]; exact h
  exact fun j hj => (Lib.tabIs_of_head (rest := []) gTab gTabType Tryd.underlying147 Tryd.underlying5 cells5 cellsT h').cell gTab j (by rw [Doc1.zs_len]; exact hj)

/-- A world for the witnesses: the settled one, the table (block 0) holding what its initialiser lays. -/
noncomputable def laidWorld (os : Os) : World :=
  { World.holding Tryd.prog os ⟨#[], #[], []⟩ with heap := (World.holding Tryd.prog os ⟨#[], #[], []⟩).heap.modify 3 fun
      | .cells _ t frozen => .cells (Doc1.zs.map (Value.int .u8)).toArray t frozen
      | o => o }
end Go.Proofs.YtmjehpigfkobeabDoor
