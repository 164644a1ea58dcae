/-
  NARROWER THAN 'FOR EVERY INPUT', by the rows' own cells (each row's printed sentence says how): FnExactByteAt: laid · FnExactJoinRopes: laid · FnExactSplitRope: laid · FnExactEditRope: laid · FnExactIsBalanced: laid · FnExactRebalance: laid.
  DERIVED. THE GIVEN ROWS OF THIS SEAT. 6 by the template 'for every input the law returns true; each argument reads behind the call as it read before'; 0 by the template 'total and deterministic' (their statements: YtpdngncioblibabDoorTotals.lean).
  GIVEN WITH THE SEED: the statements are not yours to turn. If you find one false, say at which input.
  Laid BY PROGRAM, IN A SANDBOX (cutbox-rows.mjs): the forced cells as the released guide's own fill.sh prints them over the translation d3c1e4ccdeb7562e… (all of the seat's roots in one cut). By AI agents, Wed Nov 11 2026. No macro, syntax, notation, axiom, sorry.
-/
import Derived.Test.YtpdngncioblibabDoorChecked
import GoSem.Claim
import GoSem.ClaimJoined
import GoSem.ClaimMapViews
import Derived.JoinedTies
import Derived.KernelRfl
namespace Go.Proofs.YtpdngncioblibabDoor
/- THE CELL 'sum', in the pinned program and in every row, IS THE sha256 OF THE DUMP (.gsa) THAT YtpdngncioblibabDoorProg.lean LOADS. Nothing in Lean hashes anything: it is a label: what it is worth is what the hold of that sum in a sandbox is worth. -/
noncomputable def Tryd.pinned : Pinned := { name := "ytpdngncioblibabdoor", sum := "d3c1e4ccdeb7562e67a2f6ba7c8db38e9657c273c58e4a598d1d3d56f11d43bc", checked := Tryd.checked }
namespace Rows
def none {H : Type} : Left H := { results := [], args := [] }

/- WHAT THE LISTED PACKAGE-LEVEL VARIABLES READ AS WHEN THE CALL BEGINS. Each datum BY PROGRAM (the guide's laid-datum.mjs) off the statement by which the dump's own 'gosem.cut.vars' lays the variable. In a bare row this is a premise. The card (YtpdngncioblibabDoorCards.lean) ties it to the program's text. -/
def laid_loop_example_g00253_impl_byteKinds {H : Type} : DataW H := .agg [.lit (.int .u8 0), .lit (.int .u8 0), .lit (.int .u8 0), .lit (.int .u8 0), .lit (.int .u8 0), .lit (.int .u8 0), .lit (.int .u8 0), .lit (.int .u8 0), .lit (.int .u8 0), .lit (.int .u8 0), .lit (.int .u8 0), .lit (.int .u8 0), .lit (.int .u8 0), .lit (.int .u8 0), .lit (.int .u8 0), .lit (.int .u8 0), .lit (.int .u8 0), .lit (.int .u8 0), .lit (.int .u8 0), .lit (.int .u8 0), .lit (.int .u8 0), .lit (.int .u8 0), .lit (.int .u8 0), .lit (.int .u8 0), .lit (.int .u8 0), .lit (.int .u8 0), .lit (.int .u8 0), .lit (.int .u8 0), .lit (.int .u8 0), .lit (.int .u8 0), .lit (.int .u8 0), .lit (.int .u8 0), .lit (.int .u8 1), .lit (.int .u8 0), .lit (.int .u8 0), .lit (.int .u8 0), .lit (.int .u8 0), .lit (.int .u8 0), .lit (.int .u8 0), .lit (.int .u8 0), .lit (.int .u8 0), .lit (.int .u8 0), .lit (.int .u8 0), .lit (.int .u8 0), .lit (.int .u8 1), .lit (.int .u8 0), .lit (.int .u8 1), .lit (.int .u8 3), .lit (.int .u8 1), .lit (.int .u8 1), .lit (.int .u8 1), .lit (.int .u8 1), .lit (.int .u8 1), .lit (.int .u8 1), .lit (.int .u8 1), .lit (.int .u8 1), .lit (.int .u8 1), .lit (.int .u8 1), .lit (.int .u8 0), .lit (.int .u8 0), .lit (.int .u8 0), .lit (.int .u8 0), .lit (.int .u8 0), .lit (.int .u8 0), .lit (.int .u8 0), .lit (.int .u8 2), .lit (.int .u8 2), .lit (.int .u8 2), .lit (.int .u8 2), .lit (.int .u8 2), .lit (.int .u8 2), .lit (.int .u8 0), .lit (.int .u8 0), .lit (.int .u8 0), .lit (.int .u8 0), .lit (.int .u8 0), .lit (.int .u8 0), .lit (.int .u8 0), .lit (.int .u8 0), .lit (.int .u8 0), .lit (.int .u8 0), .lit (.int .u8 0), .lit (.int .u8 0), .lit (.int .u8 0), .lit (.int .u8 0), .lit (.int .u8 0), .lit (.int .u8 0), .lit (.int .u8 0), .lit (.int .u8 0), .lit (.int .u8 0), .lit (.int .u8 0), .lit (.int .u8 0), .lit (.int .u8 0), .lit (.int .u8 0), .lit (.int .u8 0), .lit (.int .u8 0), .lit (.int .u8 0), .lit (.int .u8 1), .lit (.int .u8 1), .lit (.int .u8 1), .lit (.int .u8 1), .lit (.int .u8 1), .lit (.int .u8 1), .lit (.int .u8 1), .lit (.int .u8 1), .lit (.int .u8 1), .lit (.int .u8 1), .lit (.int .u8 1), .lit (.int .u8 1), .lit (.int .u8 1), .lit (.int .u8 1), .lit (.int .u8 1), .lit (.int .u8 1), .lit (.int .u8 1), .lit (.int .u8 1), .lit (.int .u8 1), .lit (.int .u8 1), .lit (.int .u8 1), .lit (.int .u8 1), .lit (.int .u8 1), .lit (.int .u8 1), .lit (.int .u8 1), .lit (.int .u8 1)]

/-- 'laws.FnExactByteAt': WHATEVER THE INPUT: true; the input reads as it did. -/
def fnExactByteAtSpec : ChangeSpec := { name := "fnExactByteAt", vars := ["loop.example/g00253/impl.byteKinds"], fn := fun _ => fun
  | [d1, d2, g1] => { results := [.lit (.bool true)], args := [d1, d2], vars := [g1] }
  | _ => none }
def fnExactByteAtRow : OpenClaim := { program := "ytpdngncioblibabdoor", sum := "d3c1e4ccdeb7562e67a2f6ba7c8db38e9657c273c58e4a598d1d3d56f11d43bc", func := "loop.example/g00253/laws.FnExactByteAt", spec := "fnExactByteAt", unfollowed := true, recurses := true, named := ["loop.example/g00253/impl.byteKinds"], apart := false, laid := [("loop.example/g00253/impl.byteKinds", laid_loop_example_g00253_impl_byteKinds)] }
def FnExactByteAtSaid : Prop := fnExactByteAtRow.holds Tryd.pinned (OpenSpec.ofChange fnExactByteAtSpec)

/-- ITS FALSE NEIGHBOUR: 'it returns false'. Refute it at one input. -/
def fnExactByteAtWrong : ChangeSpec := { name := "fnExactByteAt", vars := ["loop.example/g00253/impl.byteKinds"], fn := fun _ => fun
  | [d1, d2, g1] => { results := [.lit (.bool false)], args := [d1, d2], vars := [g1] }
  | _ => none }
def FnExactByteAtWrongFalsely : Prop := fnExactByteAtRow.holds Tryd.pinned (OpenSpec.ofChange fnExactByteAtWrong)

/-- 'laws.FnExactJoinRopes': WHATEVER THE INPUT: true; the input reads as it did. -/
def fnExactJoinRopesSpec : ChangeSpec := { name := "fnExactJoinRopes", vars := ["loop.example/g00253/impl.byteKinds"], fn := fun _ => fun
  | [d1, d2, g1] => { results := [.lit (.bool true)], args := [d1, d2], vars := [g1] }
  | _ => none }
def fnExactJoinRopesRow : OpenClaim := { program := "ytpdngncioblibabdoor", sum := "d3c1e4ccdeb7562e67a2f6ba7c8db38e9657c273c58e4a598d1d3d56f11d43bc", func := "loop.example/g00253/laws.FnExactJoinRopes", spec := "fnExactJoinRopes", unfollowed := true, recurses := true, named := ["loop.example/g00253/impl.byteKinds"], apart := false, laid := [("loop.example/g00253/impl.byteKinds", laid_loop_example_g00253_impl_byteKinds)] }
def FnExactJoinRopesSaid : Prop := fnExactJoinRopesRow.holds Tryd.pinned (OpenSpec.ofChange fnExactJoinRopesSpec)

/-- ITS FALSE NEIGHBOUR: 'it returns false'. Refute it at one input. -/
def fnExactJoinRopesWrong : ChangeSpec := { name := "fnExactJoinRopes", vars := ["loop.example/g00253/impl.byteKinds"], fn := fun _ => fun
  | [d1, d2, g1] => { results := [.lit (.bool false)], args := [d1, d2], vars := [g1] }
  | _ => none }
def FnExactJoinRopesWrongFalsely : Prop := fnExactJoinRopesRow.holds Tryd.pinned (OpenSpec.ofChange fnExactJoinRopesWrong)

/-- 'laws.FnExactSplitRope': WHATEVER THE INPUT: true; the input reads as it did. -/
def fnExactSplitRopeSpec : ChangeSpec := { name := "fnExactSplitRope", vars := ["loop.example/g00253/impl.byteKinds"], fn := fun _ => fun
  | [d1, d2, g1] => { results := [.lit (.bool true)], args := [d1, d2], vars := [g1] }
  | _ => none }
def fnExactSplitRopeRow : OpenClaim := { program := "ytpdngncioblibabdoor", sum := "d3c1e4ccdeb7562e67a2f6ba7c8db38e9657c273c58e4a598d1d3d56f11d43bc", func := "loop.example/g00253/laws.FnExactSplitRope", spec := "fnExactSplitRope", unfollowed := true, recurses := true, named := ["loop.example/g00253/impl.byteKinds"], apart := false, laid := [("loop.example/g00253/impl.byteKinds", laid_loop_example_g00253_impl_byteKinds)] }
def FnExactSplitRopeSaid : Prop := fnExactSplitRopeRow.holds Tryd.pinned (OpenSpec.ofChange fnExactSplitRopeSpec)

/-- ITS FALSE NEIGHBOUR: 'it returns false'. Refute it at one input. -/
def fnExactSplitRopeWrong : ChangeSpec := { name := "fnExactSplitRope", vars := ["loop.example/g00253/impl.byteKinds"], fn := fun _ => fun
  | [d1, d2, g1] => { results := [.lit (.bool false)], args := [d1, d2], vars := [g1] }
  | _ => none }
def FnExactSplitRopeWrongFalsely : Prop := fnExactSplitRopeRow.holds Tryd.pinned (OpenSpec.ofChange fnExactSplitRopeWrong)

/-- 'laws.FnExactEditRope': WHATEVER THE INPUT: true; the input reads as it did. -/
def fnExactEditRopeSpec : ChangeSpec := { name := "fnExactEditRope", vars := ["loop.example/g00253/impl.byteKinds"], fn := fun _ => fun
  | [d1, d2, g1] => { results := [.lit (.bool true)], args := [d1, d2], vars := [g1] }
  | _ => none }
def fnExactEditRopeRow : OpenClaim := { program := "ytpdngncioblibabdoor", sum := "d3c1e4ccdeb7562e67a2f6ba7c8db38e9657c273c58e4a598d1d3d56f11d43bc", func := "loop.example/g00253/laws.FnExactEditRope", spec := "fnExactEditRope", unfollowed := true, recurses := true, named := ["loop.example/g00253/impl.byteKinds"], apart := false, laid := [("loop.example/g00253/impl.byteKinds", laid_loop_example_g00253_impl_byteKinds)] }
def FnExactEditRopeSaid : Prop := fnExactEditRopeRow.holds Tryd.pinned (OpenSpec.ofChange fnExactEditRopeSpec)

/-- ITS FALSE NEIGHBOUR: 'it returns false'. Refute it at one input. -/
def fnExactEditRopeWrong : ChangeSpec := { name := "fnExactEditRope", vars := ["loop.example/g00253/impl.byteKinds"], fn := fun _ => fun
  | [d1, d2, g1] => { results := [.lit (.bool false)], args := [d1, d2], vars := [g1] }
  | _ => none }
def FnExactEditRopeWrongFalsely : Prop := fnExactEditRopeRow.holds Tryd.pinned (OpenSpec.ofChange fnExactEditRopeWrong)

/-- 'laws.FnExactIsBalanced': WHATEVER THE INPUT: true; the input reads as it did. -/
def fnExactIsBalancedSpec : ChangeSpec := { name := "fnExactIsBalanced", vars := ["loop.example/g00253/impl.byteKinds"], fn := fun _ => fun
  | [d, g1] => { results := [.lit (.bool true)], args := [d], vars := [g1] }
  | _ => none }
def fnExactIsBalancedRow : OpenClaim := { program := "ytpdngncioblibabdoor", sum := "d3c1e4ccdeb7562e67a2f6ba7c8db38e9657c273c58e4a598d1d3d56f11d43bc", func := "loop.example/g00253/laws.FnExactIsBalanced", spec := "fnExactIsBalanced", unfollowed := true, recurses := true, named := ["loop.example/g00253/impl.byteKinds"], apart := false, laid := [("loop.example/g00253/impl.byteKinds", laid_loop_example_g00253_impl_byteKinds)] }
def FnExactIsBalancedSaid : Prop := fnExactIsBalancedRow.holds Tryd.pinned (OpenSpec.ofChange fnExactIsBalancedSpec)

/-- ITS FALSE NEIGHBOUR: 'it returns false'. Refute it at one input. -/
def fnExactIsBalancedWrong : ChangeSpec := { name := "fnExactIsBalanced", vars := ["loop.example/g00253/impl.byteKinds"], fn := fun _ => fun
  | [d, g1] => { results := [.lit (.bool false)], args := [d], vars := [g1] }
  | _ => none }
def FnExactIsBalancedWrongFalsely : Prop := fnExactIsBalancedRow.holds Tryd.pinned (OpenSpec.ofChange fnExactIsBalancedWrong)

/-- 'laws.FnExactRebalance': WHATEVER THE INPUT: true; the input reads as it did. -/
def fnExactRebalanceSpec : ChangeSpec := { name := "fnExactRebalance", vars := ["loop.example/g00253/impl.byteKinds"], fn := fun _ => fun
  | [d, g1] => { results := [.lit (.bool true)], args := [d], vars := [g1] }
  | _ => none }
def fnExactRebalanceRow : OpenClaim := { program := "ytpdngncioblibabdoor", sum := "d3c1e4ccdeb7562e67a2f6ba7c8db38e9657c273c58e4a598d1d3d56f11d43bc", func := "loop.example/g00253/laws.FnExactRebalance", spec := "fnExactRebalance", unfollowed := true, recurses := true, named := ["loop.example/g00253/impl.byteKinds"], apart := false, laid := [("loop.example/g00253/impl.byteKinds", laid_loop_example_g00253_impl_byteKinds)] }
def FnExactRebalanceSaid : Prop := fnExactRebalanceRow.holds Tryd.pinned (OpenSpec.ofChange fnExactRebalanceSpec)

/-- ITS FALSE NEIGHBOUR: 'it returns false'. Refute it at one input. -/
def fnExactRebalanceWrong : ChangeSpec := { name := "fnExactRebalance", vars := ["loop.example/g00253/impl.byteKinds"], fn := fun _ => fun
  | [d, g1] => { results := [.lit (.bool false)], args := [d], vars := [g1] }
  | _ => none }
def FnExactRebalanceWrongFalsely : Prop := fnExactRebalanceRow.holds Tryd.pinned (OpenSpec.ofChange fnExactRebalanceWrong)

/- THE SECOND FORM. 'bulk': how many values and letters a reading holds, each counted each time it is reached (what is shared counts as often as it is met; a slice's spare places count too). A statement '..UptoSaid' is the law's where the arguments, and the package variables that the reading takes, are together of bulk at most 1048576: NARROWER than '..Said'. Prove '..Said' where nothing that the law and all that it calls make is longer than what came in: it says more and counts as full. Else prove '..UptoSaid'. A law counts once. -/
mutual
def uptoBulk {H : Type} : DataW H → Nat
  | .lit (.string bytes) => bytes.length + 1
  | .lit _ => 1
  | .nil => 1
  | .ptr d => uptoBulk d + 1
  | .slice elems spare => uptoBulkAll elems + uptoBulkAll spare + 1
  | .agg parts => uptoBulkAll parts + 1
  | .iface _ d => uptoBulk d + 1
  | .map entries => uptoBulkEntries entries + 1
  | .held _ => 1
def uptoBulkAll {H : Type} : List (DataW H) → Nat
  | [] => 0
  | d :: r => uptoBulk d + uptoBulkAll r
def uptoBulkEntries {H : Type} : List (Lit × DataW H) → Nat
  | [] => 0
  | x :: r => uptoBulkEntry x + uptoBulkEntries r
def uptoBulkEntry {H : Type} : Lit × DataW H → Nat
  | (.string bytes, d) => bytes.length + uptoBulk d + 1
  | (_, d) => uptoBulk d + 1
 end
def uptoSmall : (H : Type) → List (DataW H) → Bool := fun _ ds => decide (uptoBulkAll ds ≤ 1048576)
def OpenSpec.upto (s : _root_.Go.ChangeSpec) : _root_.Go.OpenSpec := { _root_.Go.OpenSpec.ofChange s with cond := some uptoSmall }

/-- 'laws.FnExactByteAt', WHERE WHAT IT READS IS OF BULK AT MOST 1048576: true; the input reads as it did. -/
def fnExactByteAtUptoRow : OpenClaim := { program := "ytpdngncioblibabdoor", sum := "d3c1e4ccdeb7562e67a2f6ba7c8db38e9657c273c58e4a598d1d3d56f11d43bc", func := "loop.example/g00253/laws.FnExactByteAt", spec := "fnExactByteAt", unfollowed := true, recurses := true, named := ["loop.example/g00253/impl.byteKinds"], apart := false, laid := [("loop.example/g00253/impl.byteKinds", laid_loop_example_g00253_impl_byteKinds)], narrowed := true }
def FnExactByteAtUptoSaid : Prop := fnExactByteAtUptoRow.holds Tryd.pinned (OpenSpec.upto fnExactByteAtSpec)

/-- 'laws.FnExactJoinRopes', WHERE WHAT IT READS IS OF BULK AT MOST 1048576: true; the input reads as it did. -/
def fnExactJoinRopesUptoRow : OpenClaim := { program := "ytpdngncioblibabdoor", sum := "d3c1e4ccdeb7562e67a2f6ba7c8db38e9657c273c58e4a598d1d3d56f11d43bc", func := "loop.example/g00253/laws.FnExactJoinRopes", spec := "fnExactJoinRopes", unfollowed := true, recurses := true, named := ["loop.example/g00253/impl.byteKinds"], apart := false, laid := [("loop.example/g00253/impl.byteKinds", laid_loop_example_g00253_impl_byteKinds)], narrowed := true }
def FnExactJoinRopesUptoSaid : Prop := fnExactJoinRopesUptoRow.holds Tryd.pinned (OpenSpec.upto fnExactJoinRopesSpec)

/-- 'laws.FnExactSplitRope', WHERE WHAT IT READS IS OF BULK AT MOST 1048576: true; the input reads as it did. -/
def fnExactSplitRopeUptoRow : OpenClaim := { program := "ytpdngncioblibabdoor", sum := "d3c1e4ccdeb7562e67a2f6ba7c8db38e9657c273c58e4a598d1d3d56f11d43bc", func := "loop.example/g00253/laws.FnExactSplitRope", spec := "fnExactSplitRope", unfollowed := true, recurses := true, named := ["loop.example/g00253/impl.byteKinds"], apart := false, laid := [("loop.example/g00253/impl.byteKinds", laid_loop_example_g00253_impl_byteKinds)], narrowed := true }
def FnExactSplitRopeUptoSaid : Prop := fnExactSplitRopeUptoRow.holds Tryd.pinned (OpenSpec.upto fnExactSplitRopeSpec)

/-- 'laws.FnExactEditRope', WHERE WHAT IT READS IS OF BULK AT MOST 1048576: true; the input reads as it did. -/
def fnExactEditRopeUptoRow : OpenClaim := { program := "ytpdngncioblibabdoor", sum := "d3c1e4ccdeb7562e67a2f6ba7c8db38e9657c273c58e4a598d1d3d56f11d43bc", func := "loop.example/g00253/laws.FnExactEditRope", spec := "fnExactEditRope", unfollowed := true, recurses := true, named := ["loop.example/g00253/impl.byteKinds"], apart := false, laid := [("loop.example/g00253/impl.byteKinds", laid_loop_example_g00253_impl_byteKinds)], narrowed := true }
def FnExactEditRopeUptoSaid : Prop := fnExactEditRopeUptoRow.holds Tryd.pinned (OpenSpec.upto fnExactEditRopeSpec)

/-- 'laws.FnExactIsBalanced', WHERE WHAT IT READS IS OF BULK AT MOST 1048576: true; the input reads as it did. -/
def fnExactIsBalancedUptoRow : OpenClaim := { program := "ytpdngncioblibabdoor", sum := "d3c1e4ccdeb7562e67a2f6ba7c8db38e9657c273c58e4a598d1d3d56f11d43bc", func := "loop.example/g00253/laws.FnExactIsBalanced", spec := "fnExactIsBalanced", unfollowed := true, recurses := true, named := ["loop.example/g00253/impl.byteKinds"], apart := false, laid := [("loop.example/g00253/impl.byteKinds", laid_loop_example_g00253_impl_byteKinds)], narrowed := true }
def FnExactIsBalancedUptoSaid : Prop := fnExactIsBalancedUptoRow.holds Tryd.pinned (OpenSpec.upto fnExactIsBalancedSpec)

/-- 'laws.FnExactRebalance', WHERE WHAT IT READS IS OF BULK AT MOST 1048576: true; the input reads as it did. -/
def fnExactRebalanceUptoRow : OpenClaim := { program := "ytpdngncioblibabdoor", sum := "d3c1e4ccdeb7562e67a2f6ba7c8db38e9657c273c58e4a598d1d3d56f11d43bc", func := "loop.example/g00253/laws.FnExactRebalance", spec := "fnExactRebalance", unfollowed := true, recurses := true, named := ["loop.example/g00253/impl.byteKinds"], apart := false, laid := [("loop.example/g00253/impl.byteKinds", laid_loop_example_g00253_impl_byteKinds)], narrowed := true }
def FnExactRebalanceUptoSaid : Prop := fnExactRebalanceUptoRow.holds Tryd.pinned (OpenSpec.upto fnExactRebalanceSpec)

end Rows
end Go.Proofs.YtpdngncioblibabDoor
