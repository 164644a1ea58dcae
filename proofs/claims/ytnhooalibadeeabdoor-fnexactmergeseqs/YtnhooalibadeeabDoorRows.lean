/-
  NARROWER THAN 'FOR EVERY INPUT', by the rows' own cells (each row's printed sentence says how): FnExactMergeSeqs: laid · FnExactOrderOf: laid · FnExactLessSeq: laid.
  DERIVED. THE GIVEN ROWS OF THIS SEAT. 3 by the template 'for every input the law returns true; each argument reads behind the call as it read before'; 0 by the template 'total and deterministic' (their statements: YtnhooalibadeeabDoorTotals.lean).
  GIVEN WITH THE SEED: the statements are not yours to turn. If you find one false, say at which input.
  Laid BY PROGRAM, IN A SANDBOX (cutbox-rows.mjs): the forced cells as the released guide's own fill.sh prints them over the translation d77a1a2dff48cbb7… (all of the seat's roots in one cut). By AI agents, Wed Nov 11 2026. No macro, syntax, notation, axiom, sorry.
-/
import Derived.Test.YtnhooalibadeeabDoorChecked
import GoSem.Claim
import GoSem.ClaimJoined
import GoSem.ClaimMapViews
import Derived.JoinedTies
import Derived.KernelRfl
namespace Go.Proofs.YtnhooalibadeeabDoor
/- THE CELL 'sum', in the pinned program and in every row, IS THE sha256 OF THE DUMP (.gsa) THAT YtnhooalibadeeabDoorProg.lean LOADS. Nothing in Lean hashes anything: it is a label: what it is worth is what the hold of that sum in a sandbox is worth. -/
noncomputable def Tryd.pinned : Pinned := { name := "ytnhooalibadeeabdoor", sum := "d77a1a2dff48cbb7f8a770d8149879e5faa9e5ac925597a8d57b4ac71db4ad93", checked := Tryd.checked }
namespace Rows
def none {H : Type} : Left H := { results := [], args := [] }

/- WHAT THE LISTED PACKAGE-LEVEL VARIABLES READ AS WHEN THE CALL BEGINS. Each datum BY PROGRAM (the guide's laid-datum.mjs) off the statement by which the dump's own 'gosem.cut.vars' lays the variable. In a bare row this is a premise. The card (YtnhooalibadeeabDoorCards.lean) ties it to the program's text. -/
def laid_loop_example_g00253_impl_byteKinds {H : Type} : DataW H := .agg [.lit (.int .u8 0), .lit (.int .u8 0), .lit (.int .u8 0), .lit (.int .u8 0), .lit (.int .u8 0), .lit (.int .u8 0), .lit (.int .u8 0), .lit (.int .u8 0), .lit (.int .u8 0), .lit (.int .u8 0), .lit (.int .u8 0), .lit (.int .u8 0), .lit (.int .u8 0), .lit (.int .u8 0), .lit (.int .u8 0), .lit (.int .u8 0), .lit (.int .u8 0), .lit (.int .u8 0), .lit (.int .u8 0), .lit (.int .u8 0), .lit (.int .u8 0), .lit (.int .u8 0), .lit (.int .u8 0), .lit (.int .u8 0), .lit (.int .u8 0), .lit (.int .u8 0), .lit (.int .u8 0), .lit (.int .u8 0), .lit (.int .u8 0), .lit (.int .u8 0), .lit (.int .u8 0), .lit (.int .u8 0), .lit (.int .u8 1), .lit (.int .u8 0), .lit (.int .u8 0), .lit (.int .u8 0), .lit (.int .u8 0), .lit (.int .u8 0), .lit (.int .u8 0), .lit (.int .u8 0), .lit (.int .u8 0), .lit (.int .u8 0), .lit (.int .u8 0), .lit (.int .u8 0), .lit (.int .u8 1), .lit (.int .u8 0), .lit (.int .u8 1), .lit (.int .u8 3), .lit (.int .u8 1), .lit (.int .u8 1), .lit (.int .u8 1), .lit (.int .u8 1), .lit (.int .u8 1), .lit (.int .u8 1), .lit (.int .u8 1), .lit (.int .u8 1), .lit (.int .u8 1), .lit (.int .u8 1), .lit (.int .u8 0), .lit (.int .u8 0), .lit (.int .u8 0), .lit (.int .u8 0), .lit (.int .u8 0), .lit (.int .u8 0), .lit (.int .u8 0), .lit (.int .u8 2), .lit (.int .u8 2), .lit (.int .u8 2), .lit (.int .u8 2), .lit (.int .u8 2), .lit (.int .u8 2), .lit (.int .u8 0), .lit (.int .u8 0), .lit (.int .u8 0), .lit (.int .u8 0), .lit (.int .u8 0), .lit (.int .u8 0), .lit (.int .u8 0), .lit (.int .u8 0), .lit (.int .u8 0), .lit (.int .u8 0), .lit (.int .u8 0), .lit (.int .u8 0), .lit (.int .u8 0), .lit (.int .u8 0), .lit (.int .u8 0), .lit (.int .u8 0), .lit (.int .u8 0), .lit (.int .u8 0), .lit (.int .u8 0), .lit (.int .u8 0), .lit (.int .u8 0), .lit (.int .u8 0), .lit (.int .u8 0), .lit (.int .u8 0), .lit (.int .u8 0), .lit (.int .u8 0), .lit (.int .u8 1), .lit (.int .u8 1), .lit (.int .u8 1), .lit (.int .u8 1), .lit (.int .u8 1), .lit (.int .u8 1), .lit (.int .u8 1), .lit (.int .u8 1), .lit (.int .u8 1), .lit (.int .u8 1), .lit (.int .u8 1), .lit (.int .u8 1), .lit (.int .u8 1), .lit (.int .u8 1), .lit (.int .u8 1), .lit (.int .u8 1), .lit (.int .u8 1), .lit (.int .u8 1), .lit (.int .u8 1), .lit (.int .u8 1), .lit (.int .u8 1), .lit (.int .u8 1), .lit (.int .u8 1), .lit (.int .u8 1), .lit (.int .u8 1), .lit (.int .u8 1)]

/-- 'laws.FnExactMergeSeqs': WHATEVER THE INPUT: true; the input reads as it did. -/
def fnExactMergeSeqsSpec : ChangeSpec := { name := "fnExactMergeSeqs", vars := ["loop.example/g00253/impl.byteKinds"], fn := fun _ => fun
  | [d1, d2, g1] => { results := [.lit (.bool true)], args := [d1, d2], vars := [g1] }
  | _ => none }
def fnExactMergeSeqsRow : OpenClaim := { program := "ytnhooalibadeeabdoor", sum := "d77a1a2dff48cbb7f8a770d8149879e5faa9e5ac925597a8d57b4ac71db4ad93", func := "loop.example/g00253/laws.FnExactMergeSeqs", spec := "fnExactMergeSeqs", unfollowed := true, recurses := true, named := ["loop.example/g00253/impl.byteKinds"], apart := false, laid := [("loop.example/g00253/impl.byteKinds", laid_loop_example_g00253_impl_byteKinds)] }
def FnExactMergeSeqsSaid : Prop := fnExactMergeSeqsRow.holds Tryd.pinned (OpenSpec.ofChange fnExactMergeSeqsSpec)

/-- ITS FALSE NEIGHBOUR: 'it returns false'. Refute it at one input. -/
def fnExactMergeSeqsWrong : ChangeSpec := { name := "fnExactMergeSeqs", vars := ["loop.example/g00253/impl.byteKinds"], fn := fun _ => fun
  | [d1, d2, g1] => { results := [.lit (.bool false)], args := [d1, d2], vars := [g1] }
  | _ => none }
def FnExactMergeSeqsWrongFalsely : Prop := fnExactMergeSeqsRow.holds Tryd.pinned (OpenSpec.ofChange fnExactMergeSeqsWrong)

/-- 'laws.FnExactOrderOf': WHATEVER THE INPUT: true; the input reads as it did. -/
def fnExactOrderOfSpec : ChangeSpec := { name := "fnExactOrderOf", vars := ["loop.example/g00253/impl.byteKinds"], fn := fun _ => fun
  | [d, g1] => { results := [.lit (.bool true)], args := [d], vars := [g1] }
  | _ => none }
def fnExactOrderOfRow : OpenClaim := { program := "ytnhooalibadeeabdoor", sum := "d77a1a2dff48cbb7f8a770d8149879e5faa9e5ac925597a8d57b4ac71db4ad93", func := "loop.example/g00253/laws.FnExactOrderOf", spec := "fnExactOrderOf", inPlace := ["slices.overlaps[int]"], unfollowed := true, recurses := true, named := ["loop.example/g00253/impl.byteKinds"], apart := false, laid := [("loop.example/g00253/impl.byteKinds", laid_loop_example_g00253_impl_byteKinds)] }
def FnExactOrderOfSaid : Prop := fnExactOrderOfRow.holds Tryd.pinned (OpenSpec.ofChange fnExactOrderOfSpec)

/-- ITS FALSE NEIGHBOUR: 'it returns false'. Refute it at one input. -/
def fnExactOrderOfWrong : ChangeSpec := { name := "fnExactOrderOf", vars := ["loop.example/g00253/impl.byteKinds"], fn := fun _ => fun
  | [d, g1] => { results := [.lit (.bool false)], args := [d], vars := [g1] }
  | _ => none }
def FnExactOrderOfWrongFalsely : Prop := fnExactOrderOfRow.holds Tryd.pinned (OpenSpec.ofChange fnExactOrderOfWrong)

/-- 'laws.FnExactLessSeq': WHATEVER THE INPUT: true; the input reads as it did. -/
def fnExactLessSeqSpec : ChangeSpec := { name := "fnExactLessSeq", vars := ["loop.example/g00253/impl.byteKinds"], fn := fun _ => fun
  | [d1, d2, g1] => { results := [.lit (.bool true)], args := [d1, d2], vars := [g1] }
  | _ => none }
def fnExactLessSeqRow : OpenClaim := { program := "ytnhooalibadeeabdoor", sum := "d77a1a2dff48cbb7f8a770d8149879e5faa9e5ac925597a8d57b4ac71db4ad93", func := "loop.example/g00253/laws.FnExactLessSeq", spec := "fnExactLessSeq", unfollowed := true, recurses := true, named := ["loop.example/g00253/impl.byteKinds"], apart := false, laid := [("loop.example/g00253/impl.byteKinds", laid_loop_example_g00253_impl_byteKinds)] }
def FnExactLessSeqSaid : Prop := fnExactLessSeqRow.holds Tryd.pinned (OpenSpec.ofChange fnExactLessSeqSpec)

/-- ITS FALSE NEIGHBOUR: 'it returns false'. Refute it at one input. -/
def fnExactLessSeqWrong : ChangeSpec := { name := "fnExactLessSeq", vars := ["loop.example/g00253/impl.byteKinds"], fn := fun _ => fun
  | [d1, d2, g1] => { results := [.lit (.bool false)], args := [d1, d2], vars := [g1] }
  | _ => none }
def FnExactLessSeqWrongFalsely : Prop := fnExactLessSeqRow.holds Tryd.pinned (OpenSpec.ofChange fnExactLessSeqWrong)

/- THE SECOND FORM. 'bulk': how many values and letters a reading holds, each counted each time it is reached (what is shared counts as often as it is met; a slice's spare places count too). A statement '..UptoSaid' is the law's where the arguments, and the package variables that the reading takes, are together of bulk at most 1048576: NARROWER than '..Said'. Prove '..Said' where nothing that the law and all that it calls make is longer than what came in: it says more and counts as full. Else prove '..UptoSaid'. A law counts once. -/
mutual
def uptoBulk {H : Type} : DataW H → Nat
  | .lit (.string bytes) => bytes.length + 1
  | .lit _ => 1
  | .nil => 1
  | .ptr d => uptoBulk d + 1
  | .slice elems spare => uptoBulkAll elems + uptoBulkAll spare + 1
  | .agg parts => uptoBulkAll parts + 1
  | .iface _ d => uptoBulk d + 1
  | .map entries => uptoBulkEntries entries + 1
  | .held _ => 1
def uptoBulkAll {H : Type} : List (DataW H) → Nat
  | [] => 0
  | d :: r => uptoBulk d + uptoBulkAll r
def uptoBulkEntries {H : Type} : List (Lit × DataW H) → Nat
  | [] => 0
  | x :: r => uptoBulkEntry x + uptoBulkEntries r
def uptoBulkEntry {H : Type} : Lit × DataW H → Nat
  | (.string bytes, d) => bytes.length + uptoBulk d + 1
  | (_, d) => uptoBulk d + 1
 end
def uptoSmall : (H : Type) → List (DataW H) → Bool := fun _ ds => decide (uptoBulkAll ds ≤ 1048576)
def OpenSpec.upto (s : _root_.Go.ChangeSpec) : _root_.Go.OpenSpec := { _root_.Go.OpenSpec.ofChange s with cond := some uptoSmall }

/-- 'laws.FnExactMergeSeqs', WHERE WHAT IT READS IS OF BULK AT MOST 1048576: true; the input reads as it did. -/
def fnExactMergeSeqsUptoRow : OpenClaim := { program := "ytnhooalibadeeabdoor", sum := "d77a1a2dff48cbb7f8a770d8149879e5faa9e5ac925597a8d57b4ac71db4ad93", func := "loop.example/g00253/laws.FnExactMergeSeqs", spec := "fnExactMergeSeqs", unfollowed := true, recurses := true, named := ["loop.example/g00253/impl.byteKinds"], apart := false, laid := [("loop.example/g00253/impl.byteKinds", laid_loop_example_g00253_impl_byteKinds)], narrowed := true }
def FnExactMergeSeqsUptoSaid : Prop := fnExactMergeSeqsUptoRow.holds Tryd.pinned (OpenSpec.upto fnExactMergeSeqsSpec)

/-- 'laws.FnExactOrderOf', WHERE WHAT IT READS IS OF BULK AT MOST 1048576: true; the input reads as it did. -/
def fnExactOrderOfUptoRow : OpenClaim := { program := "ytnhooalibadeeabdoor", sum := "d77a1a2dff48cbb7f8a770d8149879e5faa9e5ac925597a8d57b4ac71db4ad93", func := "loop.example/g00253/laws.FnExactOrderOf", spec := "fnExactOrderOf", inPlace := ["slices.overlaps[int]"], unfollowed := true, recurses := true, named := ["loop.example/g00253/impl.byteKinds"], apart := false, laid := [("loop.example/g00253/impl.byteKinds", laid_loop_example_g00253_impl_byteKinds)], narrowed := true }
def FnExactOrderOfUptoSaid : Prop := fnExactOrderOfUptoRow.holds Tryd.pinned (OpenSpec.upto fnExactOrderOfSpec)

/-- 'laws.FnExactLessSeq', WHERE WHAT IT READS IS OF BULK AT MOST 1048576: true; the input reads as it did. -/
def fnExactLessSeqUptoRow : OpenClaim := { program := "ytnhooalibadeeabdoor", sum := "d77a1a2dff48cbb7f8a770d8149879e5faa9e5ac925597a8d57b4ac71db4ad93", func := "loop.example/g00253/laws.FnExactLessSeq", spec := "fnExactLessSeq", unfollowed := true, recurses := true, named := ["loop.example/g00253/impl.byteKinds"], apart := false, laid := [("loop.example/g00253/impl.byteKinds", laid_loop_example_g00253_impl_byteKinds)], narrowed := true }
def FnExactLessSeqUptoSaid : Prop := fnExactLessSeqUptoRow.holds Tryd.pinned (OpenSpec.upto fnExactLessSeqSpec)

end Rows
end Go.Proofs.YtnhooalibadeeabDoor
