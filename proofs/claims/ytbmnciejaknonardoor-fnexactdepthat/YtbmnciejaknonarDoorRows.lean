/-
  NARROWER THAN 'FOR EVERY INPUT', by the rows' own cells (each row's printed sentence says how): FnExactGoodText: laid · FnExactGoodDoc: laid · FnExactDepthAt: laid · FnExactMatchOf: laid.
  DERIVED. THE GIVEN ROWS OF THIS SEAT. 4 by the template 'for every input the law returns true; each argument reads behind the call as it read before'; 0 by the template 'total and deterministic' (their statements: YtbmnciejaknonarDoorTotals.lean).
  GIVEN WITH THE SEED: the statements are not yours to turn. If you find one false, say at which input.
  Laid BY PROGRAM, IN A SANDBOX (cutbox-rows.mjs): the forced cells as the released guide's own fill.sh prints them over the translation 8468bf0b0ea89b92… (all of the seat's roots in one cut). By AI agents, Wed Nov 11 2026. No macro, syntax, notation, axiom, sorry.
-/
import Derived.Test.YtbmnciejaknonarDoorChecked
import GoSem.Claim
import GoSem.ClaimJoined
import GoSem.ClaimMapViews
import Derived.JoinedTies
import Derived.KernelRfl
namespace Go.Proofs.YtbmnciejaknonarDoor
/- THE CELL 'sum', in the pinned program and in every row, IS THE sha256 OF THE DUMP (.gsa) THAT YtbmnciejaknonarDoorProg.lean LOADS. Nothing in Lean hashes anything: it is a label: what it is worth is what the hold of that sum in a sandbox is worth. -/
noncomputable def Tryd.pinned : Pinned := { name := "ytbmnciejaknonardoor", sum := "8468bf0b0ea89b922b4cd06696f24736cb0dc2140491e7a0371841b7f612f4a5", checked := Tryd.checked }
namespace Rows
def none {H : Type} : Left H := { results := [], args := [] }

/- WHAT THE LISTED PACKAGE-LEVEL VARIABLES READ AS WHEN THE CALL BEGINS. Each datum BY PROGRAM (the guide's laid-datum.mjs) off the statement by which the dump's own 'gosem.cut.vars' lays the variable. In a bare row this is a premise. The card (YtbmnciejaknonarDoorCards.lean) ties it to the program's text. -/
def laid_loop_example_g00253_impl_byteKinds {H : Type} : DataW H := .agg [.lit (.int .u8 0), .lit (.int .u8 0), .lit (.int .u8 0), .lit (.int .u8 0), .lit (.int .u8 0), .lit (.int .u8 0), .lit (.int .u8 0), .lit (.int .u8 0), .lit (.int .u8 0), .lit (.int .u8 0), .lit (.int .u8 0), .lit (.int .u8 0), .lit (.int .u8 0), .lit (.int .u8 0), .lit (.int .u8 0), .lit (.int .u8 0), .lit (.int .u8 0), .lit (.int .u8 0), .lit (.int .u8 0), .lit (.int .u8 0), .lit (.int .u8 0), .lit (.int .u8 0), .lit (.int .u8 0), .lit (.int .u8 0), .lit (.int .u8 0), .lit (.int .u8 0), .lit (.int .u8 0), .lit (.int .u8 0), .lit (.int .u8 0), .lit (.int .u8 0), .lit (.int .u8 0), .lit (.int .u8 0), .lit (.int .u8 1), .lit (.int .u8 0), .lit (.int .u8 0), .lit (.int .u8 0), .lit (.int .u8 0), .lit (.int .u8 0), .lit (.int .u8 0), .lit (.int .u8 0), .lit (.int .u8 0), .lit (.int .u8 0), .lit (.int .u8 0), .lit (.int .u8 0), .lit (.int .u8 1), .lit (.int .u8 0), .lit (.int .u8 1), .lit (.int .u8 3), .lit (.int .u8 1), .lit (.int .u8 1), .lit (.int .u8 1), .lit (.int .u8 1), .lit (.int .u8 1), .lit (.int .u8 1), .lit (.int .u8 1), .lit (.int .u8 1), .lit (.int .u8 1), .lit (.int .u8 1), .lit (.int .u8 0), .lit (.int .u8 0), .lit (.int .u8 0), .lit (.int .u8 0), .lit (.int .u8 0), .lit (.int .u8 0), .lit (.int .u8 0), .lit (.int .u8 2), .lit (.int .u8 2), .lit (.int .u8 2), .lit (.int .u8 2), .lit (.int .u8 2), .lit (.int .u8 2), .lit (.int .u8 0), .lit (.int .u8 0), .lit (.int .u8 0), .lit (.int .u8 0), .lit (.int .u8 0), .lit (.int .u8 0), .lit (.int .u8 0), .lit (.int .u8 0), .lit (.int .u8 0), .lit (.int .u8 0), .lit (.int .u8 0), .lit (.int .u8 0), .lit (.int .u8 0), .lit (.int .u8 0), .lit (.int .u8 0), .lit (.int .u8 0), .lit (.int .u8 0), .lit (.int .u8 0), .lit (.int .u8 0), .lit (.int .u8 0), .lit (.int .u8 0), .lit (.int .u8 0), .lit (.int .u8 0), .lit (.int .u8 0), .lit (.int .u8 0), .lit (.int .u8 0), .lit (.int .u8 1), .lit (.int .u8 1), .lit (.int .u8 1), .lit (.int .u8 1), .lit (.int .u8 1), .lit (.int .u8 1), .lit (.int .u8 1), .lit (.int .u8 1), .lit (.int .u8 1), .lit (.int .u8 1), .lit (.int .u8 1), .lit (.int .u8 1), .lit (.int .u8 1), .lit (.int .u8 1), .lit (.int .u8 1), .lit (.int .u8 1), .lit (.int .u8 1), .lit (.int .u8 1), .lit (.int .u8 1), .lit (.int .u8 1), .lit (.int .u8 1), .lit (.int .u8 1), .lit (.int .u8 1), .lit (.int .u8 1), .lit (.int .u8 1), .lit (.int .u8 1)]

/-- 'laws.FnExactGoodText': WHATEVER THE INPUT: true; the input reads as it did. -/
def fnExactGoodTextSpec : ChangeSpec := { name := "fnExactGoodText", vars := ["loop.example/g00253/impl.byteKinds"], fn := fun _ => fun
  | [d, g1] => { results := [.lit (.bool true)], args := [d], vars := [g1] }
  | _ => none }
def fnExactGoodTextRow : OpenClaim := { program := "ytbmnciejaknonardoor", sum := "8468bf0b0ea89b922b4cd06696f24736cb0dc2140491e7a0371841b7f612f4a5", func := "loop.example/g00253/laws.FnExactGoodText", spec := "fnExactGoodText", named := ["loop.example/g00253/impl.byteKinds"], apart := false, laid := [("loop.example/g00253/impl.byteKinds", laid_loop_example_g00253_impl_byteKinds)] }
def FnExactGoodTextSaid : Prop := fnExactGoodTextRow.holds Tryd.pinned (OpenSpec.ofChange fnExactGoodTextSpec)

/-- ITS FALSE NEIGHBOUR: 'it returns false'. Refute it at one input. -/
def fnExactGoodTextWrong : ChangeSpec := { name := "fnExactGoodText", vars := ["loop.example/g00253/impl.byteKinds"], fn := fun _ => fun
  | [d, g1] => { results := [.lit (.bool false)], args := [d], vars := [g1] }
  | _ => none }
def FnExactGoodTextWrongFalsely : Prop := fnExactGoodTextRow.holds Tryd.pinned (OpenSpec.ofChange fnExactGoodTextWrong)

/-- 'laws.FnExactGoodDoc': WHATEVER THE INPUT: true; the input reads as it did. -/
def fnExactGoodDocSpec : ChangeSpec := { name := "fnExactGoodDoc", vars := ["loop.example/g00253/impl.byteKinds"], fn := fun _ => fun
  | [d, g1] => { results := [.lit (.bool true)], args := [d], vars := [g1] }
  | _ => none }
def fnExactGoodDocRow : OpenClaim := { program := "ytbmnciejaknonardoor", sum := "8468bf0b0ea89b922b4cd06696f24736cb0dc2140491e7a0371841b7f612f4a5", func := "loop.example/g00253/laws.FnExactGoodDoc", spec := "fnExactGoodDoc", named := ["loop.example/g00253/impl.byteKinds"], apart := false, laid := [("loop.example/g00253/impl.byteKinds", laid_loop_example_g00253_impl_byteKinds)] }
def FnExactGoodDocSaid : Prop := fnExactGoodDocRow.holds Tryd.pinned (OpenSpec.ofChange fnExactGoodDocSpec)

/-- ITS FALSE NEIGHBOUR: 'it returns false'. Refute it at one input. -/
def fnExactGoodDocWrong : ChangeSpec := { name := "fnExactGoodDoc", vars := ["loop.example/g00253/impl.byteKinds"], fn := fun _ => fun
  | [d, g1] => { results := [.lit (.bool false)], args := [d], vars := [g1] }
  | _ => none }
def FnExactGoodDocWrongFalsely : Prop := fnExactGoodDocRow.holds Tryd.pinned (OpenSpec.ofChange fnExactGoodDocWrong)

/-- 'laws.FnExactDepthAt': WHATEVER THE INPUT: true; the input reads as it did. -/
def fnExactDepthAtSpec : ChangeSpec := { name := "fnExactDepthAt", vars := ["loop.example/g00253/impl.byteKinds"], fn := fun _ => fun
  | [d1, d2, g1] => { results := [.lit (.bool true)], args := [d1, d2], vars := [g1] }
  | _ => none }
def fnExactDepthAtRow : OpenClaim := { program := "ytbmnciejaknonardoor", sum := "8468bf0b0ea89b922b4cd06696f24736cb0dc2140491e7a0371841b7f612f4a5", func := "loop.example/g00253/laws.FnExactDepthAt", spec := "fnExactDepthAt", named := ["loop.example/g00253/impl.byteKinds"], apart := false, laid := [("loop.example/g00253/impl.byteKinds", laid_loop_example_g00253_impl_byteKinds)] }
def FnExactDepthAtSaid : Prop := fnExactDepthAtRow.holds Tryd.pinned (OpenSpec.ofChange fnExactDepthAtSpec)

/-- ITS FALSE NEIGHBOUR: 'it returns false'. Refute it at one input. -/
def fnExactDepthAtWrong : ChangeSpec := { name := "fnExactDepthAt", vars := ["loop.example/g00253/impl.byteKinds"], fn := fun _ => fun
  | [d1, d2, g1] => { results := [.lit (.bool false)], args := [d1, d2], vars := [g1] }
  | _ => none }
def FnExactDepthAtWrongFalsely : Prop := fnExactDepthAtRow.holds Tryd.pinned (OpenSpec.ofChange fnExactDepthAtWrong)

/-- 'laws.FnExactMatchOf': WHATEVER THE INPUT: true; the input reads as it did. -/
def fnExactMatchOfSpec : ChangeSpec := { name := "fnExactMatchOf", vars := ["loop.example/g00253/impl.byteKinds"], fn := fun _ => fun
  | [d1, d2, g1] => { results := [.lit (.bool true)], args := [d1, d2], vars := [g1] }
  | _ => none }
def fnExactMatchOfRow : OpenClaim := { program := "ytbmnciejaknonardoor", sum := "8468bf0b0ea89b922b4cd06696f24736cb0dc2140491e7a0371841b7f612f4a5", func := "loop.example/g00253/laws.FnExactMatchOf", spec := "fnExactMatchOf", named := ["loop.example/g00253/impl.byteKinds"], apart := false, laid := [("loop.example/g00253/impl.byteKinds", laid_loop_example_g00253_impl_byteKinds)] }
def FnExactMatchOfSaid : Prop := fnExactMatchOfRow.holds Tryd.pinned (OpenSpec.ofChange fnExactMatchOfSpec)

/-- ITS FALSE NEIGHBOUR: 'it returns false'. Refute it at one input. -/
def fnExactMatchOfWrong : ChangeSpec := { name := "fnExactMatchOf", vars := ["loop.example/g00253/impl.byteKinds"], fn := fun _ => fun
  | [d1, d2, g1] => { results := [.lit (.bool false)], args := [d1, d2], vars := [g1] }
  | _ => none }
def FnExactMatchOfWrongFalsely : Prop := fnExactMatchOfRow.holds Tryd.pinned (OpenSpec.ofChange fnExactMatchOfWrong)

/- THE SECOND FORM. 'bulk': how many values and letters a reading holds, each counted each time it is reached (what is shared counts as often as it is met; a slice's spare places count too). A statement '..UptoSaid' is the law's where the arguments, and the package variables that the reading takes, are together of bulk at most 1048576: NARROWER than '..Said'. Prove '..Said' where nothing that the law and all that it calls make is longer than what came in: it says more and counts as full. Else prove '..UptoSaid'. A law counts once. -/
mutual
def uptoBulk {H : Type} : DataW H → Nat
  | .lit (.string bytes) => bytes.length + 1
  | .lit _ => 1
  | .nil => 1
  | .ptr d => uptoBulk d + 1
  | .slice elems spare => uptoBulkAll elems + uptoBulkAll spare + 1
  | .agg parts => uptoBulkAll parts + 1
  | .iface _ d => uptoBulk d + 1
  | .map entries => uptoBulkEntries entries + 1
  | .held _ => 1
def uptoBulkAll {H : Type} : List (DataW H) → Nat
  | [] => 0
  | d :: r => uptoBulk d + uptoBulkAll r
def uptoBulkEntries {H : Type} : List (Lit × DataW H) → Nat
  | [] => 0
  | x :: r => uptoBulkEntry x + uptoBulkEntries r
def uptoBulkEntry {H : Type} : Lit × DataW H → Nat
  | (.string bytes, d) => bytes.length + uptoBulk d + 1
  | (_, d) => uptoBulk d + 1
 end
def uptoSmall : (H : Type) → List (DataW H) → Bool := fun _ ds => decide (uptoBulkAll ds ≤ 1048576)
def OpenSpec.upto (s : _root_.Go.ChangeSpec) : _root_.Go.OpenSpec := { _root_.Go.OpenSpec.ofChange s with cond := some uptoSmall }

/-- 'laws.FnExactGoodText', WHERE WHAT IT READS IS OF BULK AT MOST 1048576: true; the input reads as it did. -/
def fnExactGoodTextUptoRow : OpenClaim := { program := "ytbmnciejaknonardoor", sum := "8468bf0b0ea89b922b4cd06696f24736cb0dc2140491e7a0371841b7f612f4a5", func := "loop.example/g00253/laws.FnExactGoodText", spec := "fnExactGoodText", named := ["loop.example/g00253/impl.byteKinds"], apart := false, laid := [("loop.example/g00253/impl.byteKinds", laid_loop_example_g00253_impl_byteKinds)], narrowed := true }
def FnExactGoodTextUptoSaid : Prop := fnExactGoodTextUptoRow.holds Tryd.pinned (OpenSpec.upto fnExactGoodTextSpec)

/-- 'laws.FnExactGoodDoc', WHERE WHAT IT READS IS OF BULK AT MOST 1048576: true; the input reads as it did. -/
def fnExactGoodDocUptoRow : OpenClaim := { program := "ytbmnciejaknonardoor", sum := "8468bf0b0ea89b922b4cd06696f24736cb0dc2140491e7a0371841b7f612f4a5", func := "loop.example/g00253/laws.FnExactGoodDoc", spec := "fnExactGoodDoc", named := ["loop.example/g00253/impl.byteKinds"], apart := false, laid := [("loop.example/g00253/impl.byteKinds", laid_loop_example_g00253_impl_byteKinds)], narrowed := true }
def FnExactGoodDocUptoSaid : Prop := fnExactGoodDocUptoRow.holds Tryd.pinned (OpenSpec.upto fnExactGoodDocSpec)

/-- 'laws.FnExactDepthAt', WHERE WHAT IT READS IS OF BULK AT MOST 1048576: true; the input reads as it did. -/
def fnExactDepthAtUptoRow : OpenClaim := { program := "ytbmnciejaknonardoor", sum := "8468bf0b0ea89b922b4cd06696f24736cb0dc2140491e7a0371841b7f612f4a5", func := "loop.example/g00253/laws.FnExactDepthAt", spec := "fnExactDepthAt", named := ["loop.example/g00253/impl.byteKinds"], apart := false, laid := [("loop.example/g00253/impl.byteKinds", laid_loop_example_g00253_impl_byteKinds)], narrowed := true }
def FnExactDepthAtUptoSaid : Prop := fnExactDepthAtUptoRow.holds Tryd.pinned (OpenSpec.upto fnExactDepthAtSpec)

/-- 'laws.FnExactMatchOf', WHERE WHAT IT READS IS OF BULK AT MOST 1048576: true; the input reads as it did. -/
def fnExactMatchOfUptoRow : OpenClaim := { program := "ytbmnciejaknonardoor", sum := "8468bf0b0ea89b922b4cd06696f24736cb0dc2140491e7a0371841b7f612f4a5", func := "loop.example/g00253/laws.FnExactMatchOf", spec := "fnExactMatchOf", named := ["loop.example/g00253/impl.byteKinds"], apart := false, laid := [("loop.example/g00253/impl.byteKinds", laid_loop_example_g00253_impl_byteKinds)], narrowed := true }
def FnExactMatchOfUptoSaid : Prop := fnExactMatchOfUptoRow.holds Tryd.pinned (OpenSpec.upto fnExactMatchOfSpec)

end Rows
end Go.Proofs.YtbmnciejaknonarDoor
