/- The model's functions over ropes, on: RopeOf, Rebalance, JoinRopes. -/
import Derived.Test.YtpdngncioblibacDoorRpt6
set_option linter.unusedVariables false
namespace Go.Proofs.YtpdngncioblibacDoor
open Go.RowKit
open Doc1

theorem rb_fit (l : List Bg) : fit (evn (pcO (rtO l))) = true := by
  have ok := rt_ok l
  have h1 := nbO_pc (rtO l)
  unfold fit
  rw [nbO_evn, szO_evn, pcO_tot]
  simp; omega

end Go.Proofs.YtpdngncioblibacDoor
