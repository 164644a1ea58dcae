/-
  NARROWER THAN 'FOR EVERY INPUT', by the rows' own cells (each row's printed sentence says how): FnExactCutNode: laid · FnExactGoodOp: laid · FnExactSizesOf: laid · FnExactNormalOp: laid · FnExactApplyOp: laid · FnExactInvertOp: laid.
  DERIVED. THE GIVEN ROWS OF THIS SEAT. 6 by the template 'for every input the law returns true; each argument reads behind the call as it read before'; 0 by the template 'total and deterministic' (their statements: YtbmnciejaknonauDoorTotals.lean).
  GIVEN WITH THE SEED: the statements are not yours to turn. If you find one false, say at which input.
  Laid BY PROGRAM, IN A SANDBOX (cutbox-rows.mjs): the forced cells as the released guide's own fill.sh prints them over the translation 8cc7d8448598bdba… (all of the seat's roots in one cut). By AI agents, Wed Nov 11 2026. No macro, syntax, notation, axiom, sorry.
-/
import Derived.Test.YtbmnciejaknonauDoorChecked
import GoSem.Claim
import GoSem.ClaimJoined
import GoSem.ClaimMapViews
import Derived.JoinedTies
import Derived.KernelRfl
namespace Go.Proofs.YtbmnciejaknonauDoor
/- THE CELL 'sum', in the pinned program and in every row, IS THE sha256 OF THE DUMP (.gsa) THAT YtbmnciejaknonauDoorProg.lean LOADS. Nothing in Lean hashes anything: it is a label: what it is worth is what the hold of that sum in a sandbox is worth. -/
noncomputable def Tryd.pinned : Pinned := { name := "ytbmnciejaknonaudoor", sum := "8cc7d8448598bdba1d182949cc106bc1c43813d8649180ab1c046c239ddc10bc", checked := Tryd.checked }
namespace Rows
def none {H : Type} : Left H := { results := [], args := [] }

/- WHAT THE LISTED PACKAGE-LEVEL VARIABLES READ AS WHEN THE CALL BEGINS. Each datum BY PROGRAM (the guide's laid-datum.mjs) off the statement by which the dump's own 'gosem.cut.vars' lays the variable. In a bare row this is a premise. The card (YtbmnciejaknonauDoorCards.lean) ties it to the program's text. -/
def laid_loop_example_g00253_impl_byteKinds {H : Type} : DataW H := .agg [.lit (.int .u8 0), .lit (.int .u8 0), .lit (.int .u8 0), .lit (.int .u8 0), .lit (.int .u8 0), .lit (.int .u8 0), .lit (.int .u8 0), .lit (.int .u8 0), .lit (.int .u8 0), .lit (.int .u8 0), .lit (.int .u8 0), .lit (.int .u8 0), .lit (.int .u8 0), .lit (.int .u8 0), .lit (.int .u8 0), .lit (.int .u8 0), .lit (.int .u8 0), .lit (.int .u8 0), .lit (.int .u8 0), .lit (.int .u8 0), .lit (.int .u8 0), .lit (.int .u8 0), .lit (.int .u8 0), .lit (.int .u8 0), .lit (.int .u8 0), .lit (.int .u8 0), .lit (.int .u8 0), .lit (.int .u8 0), .lit (.int .u8 0), .lit (.int .u8 0), .lit (.int .u8 0), .lit (.int .u8 0), .lit (.int .u8 1), .lit (.int .u8 0), .lit (.int .u8 0), .lit (.int .u8 0), .lit (.int .u8 0), .lit (.int .u8 0), .lit (.int .u8 0), .lit (.int .u8 0), .lit (.int .u8 0), .lit (.int .u8 0), .lit (.int .u8 0), .lit (.int .u8 0), .lit (.int .u8 1), .lit (.int .u8 0), .lit (.int .u8 1), .lit (.int .u8 3), .lit (.int .u8 1), .lit (.int .u8 1), .lit (.int .u8 1), .lit (.int .u8 1), .lit (.int .u8 1), .lit (.int .u8 1), .lit (.int .u8 1), .lit (.int .u8 1), .lit (.int .u8 1), .lit (.int .u8 1), .lit (.int .u8 0), .lit (.int .u8 0), .lit (.int .u8 0), .lit (.int .u8 0), .lit (.int .u8 0), .lit (.int .u8 0), .lit (.int .u8 0), .lit (.int .u8 2), .lit (.int .u8 2), .lit (.int .u8 2), .lit (.int .u8 2), .lit (.int .u8 2), .lit (.int .u8 2), .lit (.int .u8 0), .lit (.int .u8 0), .lit (.int .u8 0), .lit (.int .u8 0), .lit (.int .u8 0), .lit (.int .u8 0), .lit (.int .u8 0), .lit (.int .u8 0), .lit (.int .u8 0), .lit (.int .u8 0), .lit (.int .u8 0), .lit (.int .u8 0), .lit (.int .u8 0), .lit (.int .u8 0), .lit (.int .u8 0), .lit (.int .u8 0), .lit (.int .u8 0), .lit (.int .u8 0), .lit (.int .u8 0), .lit (.int .u8 0), .lit (.int .u8 0), .lit (.int .u8 0), .lit (.int .u8 0), .lit (.int .u8 0), .lit (.int .u8 0), .lit (.int .u8 0), .lit (.int .u8 1), .lit (.int .u8 1), .lit (.int .u8 1), .lit (.int .u8 1), .lit (.int .u8 1), .lit (.int .u8 1), .lit (.int .u8 1), .lit (.int .u8 1), .lit (.int .u8 1), .lit (.int .u8 1), .lit (.int .u8 1), .lit (.int .u8 1), .lit (.int .u8 1), .lit (.int .u8 1), .lit (.int .u8 1), .lit (.int .u8 1), .lit (.int .u8 1), .lit (.int .u8 1), .lit (.int .u8 1), .lit (.int .u8 1), .lit (.int .u8 1), .lit (.int .u8 1), .lit (.int .u8 1), .lit (.int .u8 1), .lit (.int .u8 1), .lit (.int .u8 1)]

/-- 'laws.FnExactCutNode': WHATEVER THE INPUT: true; the input reads as it did. -/
def fnExactCutNodeSpec : ChangeSpec := { name := "fnExactCutNode", vars := ["loop.example/g00253/impl.byteKinds"], fn := fun _ => fun
  | [d1, d2, g1] => { results := [.lit (.bool true)], args := [d1, d2], vars := [g1] }
  | _ => none }
def fnExactCutNodeRow : OpenClaim := { program := "ytbmnciejaknonaudoor", sum := "8cc7d8448598bdba1d182949cc106bc1c43813d8649180ab1c046c239ddc10bc", func := "loop.example/g00253/laws.FnExactCutNode", spec := "fnExactCutNode", unfollowed := true, recurses := true, named := ["loop.example/g00253/impl.byteKinds"], apart := false, laid := [("loop.example/g00253/impl.byteKinds", laid_loop_example_g00253_impl_byteKinds)] }
def FnExactCutNodeSaid : Prop := fnExactCutNodeRow.holds Tryd.pinned (OpenSpec.ofChange fnExactCutNodeSpec)

/-- ITS FALSE NEIGHBOUR: 'it returns false'. Refute it at one input. -/
def fnExactCutNodeWrong : ChangeSpec := { name := "fnExactCutNode", vars := ["loop.example/g00253/impl.byteKinds"], fn := fun _ => fun
  | [d1, d2, g1] => { results := [.lit (.bool false)], args := [d1, d2], vars := [g1] }
  | _ => none }
def FnExactCutNodeWrongFalsely : Prop := fnExactCutNodeRow.holds Tryd.pinned (OpenSpec.ofChange fnExactCutNodeWrong)

/-- 'laws.FnExactGoodOp': WHATEVER THE INPUT: true; the input reads as it did. -/
def fnExactGoodOpSpec : ChangeSpec := { name := "fnExactGoodOp", vars := ["loop.example/g00253/impl.byteKinds"], fn := fun _ => fun
  | [d, g1] => { results := [.lit (.bool true)], args := [d], vars := [g1] }
  | _ => none }
def fnExactGoodOpRow : OpenClaim := { program := "ytbmnciejaknonaudoor", sum := "8cc7d8448598bdba1d182949cc106bc1c43813d8649180ab1c046c239ddc10bc", func := "loop.example/g00253/laws.FnExactGoodOp", spec := "fnExactGoodOp", unfollowed := true, recurses := true, named := ["loop.example/g00253/impl.byteKinds"], apart := false, laid := [("loop.example/g00253/impl.byteKinds", laid_loop_example_g00253_impl_byteKinds)] }
def FnExactGoodOpSaid : Prop := fnExactGoodOpRow.holds Tryd.pinned (OpenSpec.ofChange fnExactGoodOpSpec)

/-- ITS FALSE NEIGHBOUR: 'it returns false'. Refute it at one input. -/
def fnExactGoodOpWrong : ChangeSpec := { name := "fnExactGoodOp", vars := ["loop.example/g00253/impl.byteKinds"], fn := fun _ => fun
  | [d, g1] => { results := [.lit (.bool false)], args := [d], vars := [g1] }
  | _ => none }
def FnExactGoodOpWrongFalsely : Prop := fnExactGoodOpRow.holds Tryd.pinned (OpenSpec.ofChange fnExactGoodOpWrong)

/-- 'laws.FnExactSizesOf': WHATEVER THE INPUT: true; the input reads as it did. -/
def fnExactSizesOfSpec : ChangeSpec := { name := "fnExactSizesOf", vars := ["loop.example/g00253/impl.byteKinds"], fn := fun _ => fun
  | [d, g1] => { results := [.lit (.bool true)], args := [d], vars := [g1] }
  | _ => none }
def fnExactSizesOfRow : OpenClaim := { program := "ytbmnciejaknonaudoor", sum := "8cc7d8448598bdba1d182949cc106bc1c43813d8649180ab1c046c239ddc10bc", func := "loop.example/g00253/laws.FnExactSizesOf", spec := "fnExactSizesOf", unfollowed := true, recurses := true, named := ["loop.example/g00253/impl.byteKinds"], apart := false, laid := [("loop.example/g00253/impl.byteKinds", laid_loop_example_g00253_impl_byteKinds)] }
def FnExactSizesOfSaid : Prop := fnExactSizesOfRow.holds Tryd.pinned (OpenSpec.ofChange fnExactSizesOfSpec)

/-- ITS FALSE NEIGHBOUR: 'it returns false'. Refute it at one input. -/
def fnExactSizesOfWrong : ChangeSpec := { name := "fnExactSizesOf", vars := ["loop.example/g00253/impl.byteKinds"], fn := fun _ => fun
  | [d, g1] => { results := [.lit (.bool false)], args := [d], vars := [g1] }
  | _ => none }
def FnExactSizesOfWrongFalsely : Prop := fnExactSizesOfRow.holds Tryd.pinned (OpenSpec.ofChange fnExactSizesOfWrong)

/-- 'laws.FnExactNormalOp': WHATEVER THE INPUT: true; the input reads as it did. -/
def fnExactNormalOpSpec : ChangeSpec := { name := "fnExactNormalOp", vars := ["loop.example/g00253/impl.byteKinds"], fn := fun _ => fun
  | [d, g1] => { results := [.lit (.bool true)], args := [d], vars := [g1] }
  | _ => none }
def fnExactNormalOpRow : OpenClaim := { program := "ytbmnciejaknonaudoor", sum := "8cc7d8448598bdba1d182949cc106bc1c43813d8649180ab1c046c239ddc10bc", func := "loop.example/g00253/laws.FnExactNormalOp", spec := "fnExactNormalOp", unfollowed := true, recurses := true, named := ["loop.example/g00253/impl.byteKinds"], apart := false, laid := [("loop.example/g00253/impl.byteKinds", laid_loop_example_g00253_impl_byteKinds)] }
def FnExactNormalOpSaid : Prop := fnExactNormalOpRow.holds Tryd.pinned (OpenSpec.ofChange fnExactNormalOpSpec)

/-- ITS FALSE NEIGHBOUR: 'it returns false'. Refute it at one input. -/
def fnExactNormalOpWrong : ChangeSpec := { name := "fnExactNormalOp", vars := ["loop.example/g00253/impl.byteKinds"], fn := fun _ => fun
  | [d, g1] => { results := [.lit (.bool false)], args := [d], vars := [g1] }
  | _ => none }
def FnExactNormalOpWrongFalsely : Prop := fnExactNormalOpRow.holds Tryd.pinned (OpenSpec.ofChange fnExactNormalOpWrong)

/-- 'laws.FnExactApplyOp': WHATEVER THE INPUT: true; the input reads as it did. -/
def fnExactApplyOpSpec : ChangeSpec := { name := "fnExactApplyOp", vars := ["loop.example/g00253/impl.byteKinds"], fn := fun _ => fun
  | [d1, d2, g1] => { results := [.lit (.bool true)], args := [d1, d2], vars := [g1] }
  | _ => none }
def fnExactApplyOpRow : OpenClaim := { program := "ytbmnciejaknonaudoor", sum := "8cc7d8448598bdba1d182949cc106bc1c43813d8649180ab1c046c239ddc10bc", func := "loop.example/g00253/laws.FnExactApplyOp", spec := "fnExactApplyOp", unfollowed := true, recurses := true, named := ["loop.example/g00253/impl.byteKinds"], apart := false, laid := [("loop.example/g00253/impl.byteKinds", laid_loop_example_g00253_impl_byteKinds)] }
def FnExactApplyOpSaid : Prop := fnExactApplyOpRow.holds Tryd.pinned (OpenSpec.ofChange fnExactApplyOpSpec)

/-- ITS FALSE NEIGHBOUR: 'it returns false'. Refute it at one input. -/
def fnExactApplyOpWrong : ChangeSpec := { name := "fnExactApplyOp", vars := ["loop.example/g00253/impl.byteKinds"], fn := fun _ => fun
  | [d1, d2, g1] => { results := [.lit (.bool false)], args := [d1, d2], vars := [g1] }
  | _ => none }
def FnExactApplyOpWrongFalsely : Prop := fnExactApplyOpRow.holds Tryd.pinned (OpenSpec.ofChange fnExactApplyOpWrong)

/-- 'laws.FnExactInvertOp': WHATEVER THE INPUT: true; the input reads as it did. -/
def fnExactInvertOpSpec : ChangeSpec := { name := "fnExactInvertOp", vars := ["loop.example/g00253/impl.byteKinds"], fn := fun _ => fun
  | [d, g1] => { results := [.lit (.bool true)], args := [d], vars := [g1] }
  | _ => none }
def fnExactInvertOpRow : OpenClaim := { program := "ytbmnciejaknonaudoor", sum := "8cc7d8448598bdba1d182949cc106bc1c43813d8649180ab1c046c239ddc10bc", func := "loop.example/g00253/laws.FnExactInvertOp", spec := "fnExactInvertOp", unfollowed := true, recurses := true, named := ["loop.example/g00253/impl.byteKinds"], apart := false, laid := [("loop.example/g00253/impl.byteKinds", laid_loop_example_g00253_impl_byteKinds)] }
def FnExactInvertOpSaid : Prop := fnExactInvertOpRow.holds Tryd.pinned (OpenSpec.ofChange fnExactInvertOpSpec)

/-- ITS FALSE NEIGHBOUR: 'it returns false'. Refute it at one input. -/
def fnExactInvertOpWrong : ChangeSpec := { name := "fnExactInvertOp", vars := ["loop.example/g00253/impl.byteKinds"], fn := fun _ => fun
  | [d, g1] => { results := [.lit (.bool false)], args := [d], vars := [g1] }
  | _ => none }
def FnExactInvertOpWrongFalsely : Prop := fnExactInvertOpRow.holds Tryd.pinned (OpenSpec.ofChange fnExactInvertOpWrong)

/- THE SECOND FORM. 'bulk': how many values and letters a reading holds, each counted each time it is reached (what is shared counts as often as it is met; a slice's spare places count too). A statement '..UptoSaid' is the law's where the arguments, and the package variables that the reading takes, are together of bulk at most 1048576: NARROWER than '..Said'. Prove '..Said' where nothing that the law and all that it calls make is longer than what came in: it says more and counts as full. Else prove '..UptoSaid'. A law counts once. -/
mutual
def uptoBulk {H : Type} : DataW H → Nat
  | .lit (.string bytes) => bytes.length + 1
  | .lit _ => 1
  | .nil => 1
  | .ptr d => uptoBulk d + 1
  | .slice elems spare => uptoBulkAll elems + uptoBulkAll spare + 1
  | .agg parts => uptoBulkAll parts + 1
  | .iface _ d => uptoBulk d + 1
  | .map entries => uptoBulkEntries entries + 1
  | .held _ => 1
def uptoBulkAll {H : Type} : List (DataW H) → Nat
  | [] => 0
  | d :: r => uptoBulk d + uptoBulkAll r
def uptoBulkEntries {H : Type} : List (Lit × DataW H) → Nat
  | [] => 0
  | x :: r => uptoBulkEntry x + uptoBulkEntries r
def uptoBulkEntry {H : Type} : Lit × DataW H → Nat
  | (.string bytes, d) => bytes.length + uptoBulk d + 1
  | (_, d) => uptoBulk d + 1
 end
def uptoSmall : (H : Type) → List (DataW H) → Bool := fun _ ds => decide (uptoBulkAll ds ≤ 1048576)
def OpenSpec.upto (s : _root_.Go.ChangeSpec) : _root_.Go.OpenSpec := { _root_.Go.OpenSpec.ofChange s with cond := some uptoSmall }

/-- 'laws.FnExactCutNode', WHERE WHAT IT READS IS OF BULK AT MOST 1048576: true; the input reads as it did. -/
def fnExactCutNodeUptoRow : OpenClaim := { program := "ytbmnciejaknonaudoor", sum := "8cc7d8448598bdba1d182949cc106bc1c43813d8649180ab1c046c239ddc10bc", func := "loop.example/g00253/laws.FnExactCutNode", spec := "fnExactCutNode", unfollowed := true, recurses := true, named := ["loop.example/g00253/impl.byteKinds"], apart := false, laid := [("loop.example/g00253/impl.byteKinds", laid_loop_example_g00253_impl_byteKinds)], narrowed := true }
def FnExactCutNodeUptoSaid : Prop := fnExactCutNodeUptoRow.holds Tryd.pinned (OpenSpec.upto fnExactCutNodeSpec)

/-- 'laws.FnExactGoodOp', WHERE WHAT IT READS IS OF BULK AT MOST 1048576: true; the input reads as it did. -/
def fnExactGoodOpUptoRow : OpenClaim := { program := "ytbmnciejaknonaudoor", sum := "8cc7d8448598bdba1d182949cc106bc1c43813d8649180ab1c046c239ddc10bc", func := "loop.example/g00253/laws.FnExactGoodOp", spec := "fnExactGoodOp", unfollowed := true, recurses := true, named := ["loop.example/g00253/impl.byteKinds"], apart := false, laid := [("loop.example/g00253/impl.byteKinds", laid_loop_example_g00253_impl_byteKinds)], narrowed := true }
def FnExactGoodOpUptoSaid : Prop := fnExactGoodOpUptoRow.holds Tryd.pinned (OpenSpec.upto fnExactGoodOpSpec)

/-- 'laws.FnExactSizesOf', WHERE WHAT IT READS IS OF BULK AT MOST 1048576: true; the input reads as it did. -/
def fnExactSizesOfUptoRow : OpenClaim := { program := "ytbmnciejaknonaudoor", sum := "8cc7d8448598bdba1d182949cc106bc1c43813d8649180ab1c046c239ddc10bc", func := "loop.example/g00253/laws.FnExactSizesOf", spec := "fnExactSizesOf", unfollowed := true, recurses := true, named := ["loop.example/g00253/impl.byteKinds"], apart := false, laid := [("loop.example/g00253/impl.byteKinds", laid_loop_example_g00253_impl_byteKinds)], narrowed := true }
def FnExactSizesOfUptoSaid : Prop := fnExactSizesOfUptoRow.holds Tryd.pinned (OpenSpec.upto fnExactSizesOfSpec)

/-- 'laws.FnExactNormalOp', WHERE WHAT IT READS IS OF BULK AT MOST 1048576: true; the input reads as it did. -/
def fnExactNormalOpUptoRow : OpenClaim := { program := "ytbmnciejaknonaudoor", sum := "8cc7d8448598bdba1d182949cc106bc1c43813d8649180ab1c046c239ddc10bc", func := "loop.example/g00253/laws.FnExactNormalOp", spec := "fnExactNormalOp", unfollowed := true, recurses := true, named := ["loop.example/g00253/impl.byteKinds"], apart := false, laid := [("loop.example/g00253/impl.byteKinds", laid_loop_example_g00253_impl_byteKinds)], narrowed := true }
def FnExactNormalOpUptoSaid : Prop := fnExactNormalOpUptoRow.holds Tryd.pinned (OpenSpec.upto fnExactNormalOpSpec)

/-- 'laws.FnExactApplyOp', WHERE WHAT IT READS IS OF BULK AT MOST 1048576: true; the input reads as it did. -/
def fnExactApplyOpUptoRow : OpenClaim := { program := "ytbmnciejaknonaudoor", sum := "8cc7d8448598bdba1d182949cc106bc1c43813d8649180ab1c046c239ddc10bc", func := "loop.example/g00253/laws.FnExactApplyOp", spec := "fnExactApplyOp", unfollowed := true, recurses := true, named := ["loop.example/g00253/impl.byteKinds"], apart := false, laid := [("loop.example/g00253/impl.byteKinds", laid_loop_example_g00253_impl_byteKinds)], narrowed := true }
def FnExactApplyOpUptoSaid : Prop := fnExactApplyOpUptoRow.holds Tryd.pinned (OpenSpec.upto fnExactApplyOpSpec)

/-- 'laws.FnExactInvertOp', WHERE WHAT IT READS IS OF BULK AT MOST 1048576: true; the input reads as it did. -/
def fnExactInvertOpUptoRow : OpenClaim := { program := "ytbmnciejaknonaudoor", sum := "8cc7d8448598bdba1d182949cc106bc1c43813d8649180ab1c046c239ddc10bc", func := "loop.example/g00253/laws.FnExactInvertOp", spec := "fnExactInvertOp", unfollowed := true, recurses := true, named := ["loop.example/g00253/impl.byteKinds"], apart := false, laid := [("loop.example/g00253/impl.byteKinds", laid_loop_example_g00253_impl_byteKinds)], narrowed := true }
def FnExactInvertOpUptoSaid : Prop := fnExactInvertOpUptoRow.holds Tryd.pinned (OpenSpec.upto fnExactInvertOpSpec)

end Rows
end Go.Proofs.YtbmnciejaknonauDoor
