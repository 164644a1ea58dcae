/- The laws of GoodOp and SizesOf: whatever the parts, each answers true and turns nothing old. -/
import Derived.Test.YtknodkdlphngmawDoorOpW3
namespace Go.Proofs.YtknodkdlphngmawDoor
open Go.RowKit
open Doc1

theorem PCp.pin {w : World} {g : Nat} {l : List Pt} (h : PCp w g l) (hf : szPn l ≤ 1048576) : Pin w g l.length l := by
  unfold szPn at hf
  refine ⟨⟨Nat.le_refl _, by unfold maxLen; omega⟩, fun i hi => ?_, by omega, h.at', h.lt⟩
  have h1 := szPU_succ l i hi
  have h2 := szPU_mono l (i + 1) l.length hi
  omega

end Go.Proofs.YtknodkdlphngmawDoor
