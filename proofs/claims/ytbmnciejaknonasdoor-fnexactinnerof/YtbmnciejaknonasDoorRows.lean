/-
  NARROWER THAN 'FOR EVERY INPUT', by the rows' own cells (each row's printed sentence says how): FnExactPlainOf: laid · FnExactOutlineOf: laid · FnExactCountOf: laid · FnExactInnerOf: laid · FnExactSafePlace: laid · FnExactTreeOf: laid.
  DERIVED. THE GIVEN ROWS OF THIS SEAT. 6 by the template 'for every input the law returns true; each argument reads behind the call as it read before'; 0 by the template 'total and deterministic' (their statements: YtbmnciejaknonasDoorTotals.lean).
  GIVEN WITH THE SEED: the statements are not yours to turn. If you find one false, say at which input.
  Laid BY PROGRAM, IN A SANDBOX (cutbox-rows.mjs): the forced cells as the released guide's own fill.sh prints them over the translation 371918ab05c478e6… (all of the seat's roots in one cut). By AI agents, Wed Nov 11 2026. No macro, syntax, notation, axiom, sorry.
-/
import Derived.Test.YtbmnciejaknonasDoorChecked
import GoSem.Claim
import GoSem.ClaimJoined
import GoSem.ClaimMapViews
import Derived.JoinedTies
import Derived.KernelRfl
namespace Go.Proofs.YtbmnciejaknonasDoor
/- THE CELL 'sum', in the pinned program and in every row, IS THE sha256 OF THE DUMP (.gsa) THAT YtbmnciejaknonasDoorProg.lean LOADS. Nothing in Lean hashes anything: it is a label: what it is worth is what the hold of that sum in a sandbox is worth. -/
noncomputable def Tryd.pinned : Pinned := { name := "ytbmnciejaknonasdoor", sum := "371918ab05c478e624d9525049eea7bb2673f5556010a82f8e7057c76b95df05", checked := Tryd.checked }
namespace Rows
def none {H : Type} : Left H := { results := [], args := [] }

/- WHAT THE LISTED PACKAGE-LEVEL VARIABLES READ AS WHEN THE CALL BEGINS. Each datum BY PROGRAM (the guide's laid-datum.mjs) off the statement by which the dump's own 'gosem.cut.vars' lays the variable. In a bare row this is a premise. The card (YtbmnciejaknonasDoorCards.lean) ties it to the program's text. -/
def laid_loop_example_g00253_impl_byteKinds {H : Type} : DataW H := .agg [.lit (.int .u8 0), .lit (.int .u8 0), .lit (.int .u8 0), .lit (.int .u8 0), .lit (.int .u8 0), .lit (.int .u8 0), .lit (.int .u8 0), .lit (.int .u8 0), .lit (.int .u8 0), .lit (.int .u8 0), .lit (.int .u8 0), .lit (.int .u8 0), .lit (.int .u8 0), .lit (.int .u8 0), .lit (.int .u8 0), .lit (.int .u8 0), .lit (.int .u8 0), .lit (.int .u8 0), .lit (.int .u8 0), .lit (.int .u8 0), .lit (.int .u8 0), .lit (.int .u8 0), .lit (.int .u8 0), .lit (.int .u8 0), .lit (.int .u8 0), .lit (.int .u8 0), .lit (.int .u8 0), .lit (.int .u8 0), .lit (.int .u8 0), .lit (.int .u8 0), .lit (.int .u8 0), .lit (.int .u8 0), .lit (.int .u8 1), .lit (.int .u8 0), .lit (.int .u8 0), .lit (.int .u8 0), .lit (.int .u8 0), .lit (.int .u8 0), .lit (.int .u8 0), .lit (.int .u8 0), .lit (.int .u8 0), .lit (.int .u8 0), .lit (.int .u8 0), .lit (.int .u8 0), .lit (.int .u8 1), .lit (.int .u8 0), .lit (.int .u8 1), .lit (.int .u8 3), .lit (.int .u8 1), .lit (.int .u8 1), .lit (.int .u8 1), .lit (.int .u8 1), .lit (.int .u8 1), .lit (.int .u8 1), .lit (.int .u8 1), .lit (.int .u8 1), .lit (.int .u8 1), .lit (.int .u8 1), .lit (.int .u8 0), .lit (.int .u8 0), .lit (.int .u8 0), .lit (.int .u8 0), .lit (.int .u8 0), .lit (.int .u8 0), .lit (.int .u8 0), .lit (.int .u8 2), .lit (.int .u8 2), .lit (.int .u8 2), .lit (.int .u8 2), .lit (.int .u8 2), .lit (.int .u8 2), .lit (.int .u8 0), .lit (.int .u8 0), .lit (.int .u8 0), .lit (.int .u8 0), .lit (.int .u8 0), .lit (.int .u8 0), .lit (.int .u8 0), .lit (.int .u8 0), .lit (.int .u8 0), .lit (.int .u8 0), .lit (.int .u8 0), .lit (.int .u8 0), .lit (.int .u8 0), .lit (.int .u8 0), .lit (.int .u8 0), .lit (.int .u8 0), .lit (.int .u8 0), .lit (.int .u8 0), .lit (.int .u8 0), .lit (.int .u8 0), .lit (.int .u8 0), .lit (.int .u8 0), .lit (.int .u8 0), .lit (.int .u8 0), .lit (.int .u8 0), .lit (.int .u8 0), .lit (.int .u8 1), .lit (.int .u8 1), .lit (.int .u8 1), .lit (.int .u8 1), .lit (.int .u8 1), .lit (.int .u8 1), .lit (.int .u8 1), .lit (.int .u8 1), .lit (.int .u8 1), .lit (.int .u8 1), .lit (.int .u8 1), .lit (.int .u8 1), .lit (.int .u8 1), .lit (.int .u8 1), .lit (.int .u8 1), .lit (.int .u8 1), .lit (.int .u8 1), .lit (.int .u8 1), .lit (.int .u8 1), .lit (.int .u8 1), .lit (.int .u8 1), .lit (.int .u8 1), .lit (.int .u8 1), .lit (.int .u8 1), .lit (.int .u8 1), .lit (.int .u8 1)]

/-- 'laws.FnExactPlainOf': WHATEVER THE INPUT: true; the input reads as it did. -/
def fnExactPlainOfSpec : ChangeSpec := { name := "fnExactPlainOf", vars := ["loop.example/g00253/impl.byteKinds"], fn := fun _ => fun
  | [d, g1] => { results := [.lit (.bool true)], args := [d], vars := [g1] }
  | _ => none }
def fnExactPlainOfRow : OpenClaim := { program := "ytbmnciejaknonasdoor", sum := "371918ab05c478e624d9525049eea7bb2673f5556010a82f8e7057c76b95df05", func := "loop.example/g00253/laws.FnExactPlainOf", spec := "fnExactPlainOf", named := ["loop.example/g00253/impl.byteKinds"], apart := false, laid := [("loop.example/g00253/impl.byteKinds", laid_loop_example_g00253_impl_byteKinds)] }
def FnExactPlainOfSaid : Prop := fnExactPlainOfRow.holds Tryd.pinned (OpenSpec.ofChange fnExactPlainOfSpec)

/-- ITS FALSE NEIGHBOUR: 'it returns false'. Refute it at one input. -/
def fnExactPlainOfWrong : ChangeSpec := { name := "fnExactPlainOf", vars := ["loop.example/g00253/impl.byteKinds"], fn := fun _ => fun
  | [d, g1] => { results := [.lit (.bool false)], args := [d], vars := [g1] }
  | _ => none }
def FnExactPlainOfWrongFalsely : Prop := fnExactPlainOfRow.holds Tryd.pinned (OpenSpec.ofChange fnExactPlainOfWrong)

/-- 'laws.FnExactOutlineOf': WHATEVER THE INPUT: true; the input reads as it did. -/
def fnExactOutlineOfSpec : ChangeSpec := { name := "fnExactOutlineOf", vars := ["loop.example/g00253/impl.byteKinds"], fn := fun _ => fun
  | [d, g1] => { results := [.lit (.bool true)], args := [d], vars := [g1] }
  | _ => none }
def fnExactOutlineOfRow : OpenClaim := { program := "ytbmnciejaknonasdoor", sum := "371918ab05c478e624d9525049eea7bb2673f5556010a82f8e7057c76b95df05", func := "loop.example/g00253/laws.FnExactOutlineOf", spec := "fnExactOutlineOf", named := ["loop.example/g00253/impl.byteKinds"], apart := false, laid := [("loop.example/g00253/impl.byteKinds", laid_loop_example_g00253_impl_byteKinds)] }
def FnExactOutlineOfSaid : Prop := fnExactOutlineOfRow.holds Tryd.pinned (OpenSpec.ofChange fnExactOutlineOfSpec)

/-- ITS FALSE NEIGHBOUR: 'it returns false'. Refute it at one input. -/
def fnExactOutlineOfWrong : ChangeSpec := { name := "fnExactOutlineOf", vars := ["loop.example/g00253/impl.byteKinds"], fn := fun _ => fun
  | [d, g1] => { results := [.lit (.bool false)], args := [d], vars := [g1] }
  | _ => none }
def FnExactOutlineOfWrongFalsely : Prop := fnExactOutlineOfRow.holds Tryd.pinned (OpenSpec.ofChange fnExactOutlineOfWrong)

/-- 'laws.FnExactCountOf': WHATEVER THE INPUT: true; the input reads as it did. -/
def fnExactCountOfSpec : ChangeSpec := { name := "fnExactCountOf", vars := ["loop.example/g00253/impl.byteKinds"], fn := fun _ => fun
  | [d1, d2, g1] => { results := [.lit (.bool true)], args := [d1, d2], vars := [g1] }
  | _ => none }
def fnExactCountOfRow : OpenClaim := { program := "ytbmnciejaknonasdoor", sum := "371918ab05c478e624d9525049eea7bb2673f5556010a82f8e7057c76b95df05", func := "loop.example/g00253/laws.FnExactCountOf", spec := "fnExactCountOf", inPlace := ["internal/bytealg.CountString", "internal/bytealg.IndexByteString", "internal/bytealg.IndexString"], named := ["loop.example/g00253/impl.byteKinds", "internal/bytealg.MaxLen"], apart := false, laid := [("loop.example/g00253/impl.byteKinds", laid_loop_example_g00253_impl_byteKinds)] }
def FnExactCountOfSaid : Prop := fnExactCountOfRow.holds Tryd.pinned (OpenSpec.ofChange fnExactCountOfSpec)

/-- ITS FALSE NEIGHBOUR: 'it returns false'. Refute it at one input. -/
def fnExactCountOfWrong : ChangeSpec := { name := "fnExactCountOf", vars := ["loop.example/g00253/impl.byteKinds"], fn := fun _ => fun
  | [d1, d2, g1] => { results := [.lit (.bool false)], args := [d1, d2], vars := [g1] }
  | _ => none }
def FnExactCountOfWrongFalsely : Prop := fnExactCountOfRow.holds Tryd.pinned (OpenSpec.ofChange fnExactCountOfWrong)

/-- 'laws.FnExactInnerOf': WHATEVER THE INPUT: true; the input reads as it did. -/
def fnExactInnerOfSpec : ChangeSpec := { name := "fnExactInnerOf", vars := ["loop.example/g00253/impl.byteKinds"], fn := fun _ => fun
  | [d1, d2, g1] => { results := [.lit (.bool true)], args := [d1, d2], vars := [g1] }
  | _ => none }
def fnExactInnerOfRow : OpenClaim := { program := "ytbmnciejaknonasdoor", sum := "371918ab05c478e624d9525049eea7bb2673f5556010a82f8e7057c76b95df05", func := "loop.example/g00253/laws.FnExactInnerOf", spec := "fnExactInnerOf", named := ["loop.example/g00253/impl.byteKinds"], apart := false, laid := [("loop.example/g00253/impl.byteKinds", laid_loop_example_g00253_impl_byteKinds)] }
def FnExactInnerOfSaid : Prop := fnExactInnerOfRow.holds Tryd.pinned (OpenSpec.ofChange fnExactInnerOfSpec)

/-- ITS FALSE NEIGHBOUR: 'it returns false'. Refute it at one input. -/
def fnExactInnerOfWrong : ChangeSpec := { name := "fnExactInnerOf", vars := ["loop.example/g00253/impl.byteKinds"], fn := fun _ => fun
  | [d1, d2, g1] => { results := [.lit (.bool false)], args := [d1, d2], vars := [g1] }
  | _ => none }
def FnExactInnerOfWrongFalsely : Prop := fnExactInnerOfRow.holds Tryd.pinned (OpenSpec.ofChange fnExactInnerOfWrong)

/-- 'laws.FnExactSafePlace': WHATEVER THE INPUT: true; the input reads as it did. -/
def fnExactSafePlaceSpec : ChangeSpec := { name := "fnExactSafePlace", vars := ["loop.example/g00253/impl.byteKinds"], fn := fun _ => fun
  | [d1, d2, d3, g1] => { results := [.lit (.bool true)], args := [d1, d2, d3], vars := [g1] }
  | _ => none }
def fnExactSafePlaceRow : OpenClaim := { program := "ytbmnciejaknonasdoor", sum := "371918ab05c478e624d9525049eea7bb2673f5556010a82f8e7057c76b95df05", func := "loop.example/g00253/laws.FnExactSafePlace", spec := "fnExactSafePlace", named := ["loop.example/g00253/impl.byteKinds"], apart := false, laid := [("loop.example/g00253/impl.byteKinds", laid_loop_example_g00253_impl_byteKinds)] }
def FnExactSafePlaceSaid : Prop := fnExactSafePlaceRow.holds Tryd.pinned (OpenSpec.ofChange fnExactSafePlaceSpec)

/-- ITS FALSE NEIGHBOUR: 'it returns false'. Refute it at one input. -/
def fnExactSafePlaceWrong : ChangeSpec := { name := "fnExactSafePlace", vars := ["loop.example/g00253/impl.byteKinds"], fn := fun _ => fun
  | [d1, d2, d3, g1] => { results := [.lit (.bool false)], args := [d1, d2, d3], vars := [g1] }
  | _ => none }
def FnExactSafePlaceWrongFalsely : Prop := fnExactSafePlaceRow.holds Tryd.pinned (OpenSpec.ofChange fnExactSafePlaceWrong)

/-- 'laws.FnExactTreeOf': WHATEVER THE INPUT: true; the input reads as it did. -/
def fnExactTreeOfSpec : ChangeSpec := { name := "fnExactTreeOf", vars := ["loop.example/g00253/impl.byteKinds"], fn := fun _ => fun
  | [d, g1] => { results := [.lit (.bool true)], args := [d], vars := [g1] }
  | _ => none }
def fnExactTreeOfRow : OpenClaim := { program := "ytbmnciejaknonasdoor", sum := "371918ab05c478e624d9525049eea7bb2673f5556010a82f8e7057c76b95df05", func := "loop.example/g00253/laws.FnExactTreeOf", spec := "fnExactTreeOf", recurses := true, named := ["loop.example/g00253/impl.byteKinds"], apart := false, laid := [("loop.example/g00253/impl.byteKinds", laid_loop_example_g00253_impl_byteKinds)] }
def FnExactTreeOfSaid : Prop := fnExactTreeOfRow.holds Tryd.pinned (OpenSpec.ofChange fnExactTreeOfSpec)

/-- ITS FALSE NEIGHBOUR: 'it returns false'. Refute it at one input. -/
def fnExactTreeOfWrong : ChangeSpec := { name := "fnExactTreeOf", vars := ["loop.example/g00253/impl.byteKinds"], fn := fun _ => fun
  | [d, g1] => { results := [.lit (.bool false)], args := [d], vars := [g1] }
  | _ => none }
def FnExactTreeOfWrongFalsely : Prop := fnExactTreeOfRow.holds Tryd.pinned (OpenSpec.ofChange fnExactTreeOfWrong)

/- THE SECOND FORM. 'bulk': how many values and letters a reading holds, each counted each time it is reached (what is shared counts as often as it is met; a slice's spare places count too). A statement '..UptoSaid' is the law's where the arguments, and the package variables that the reading takes, are together of bulk at most 1048576: NARROWER than '..Said'. Prove '..Said' where nothing that the law and all that it calls make is longer than what came in: it says more and counts as full. Else prove '..UptoSaid'. A law counts once. -/
mutual
def uptoBulk {H : Type} : DataW H → Nat
  | .lit (.string bytes) => bytes.length + 1
  | .lit _ => 1
  | .nil => 1
  | .ptr d => uptoBulk d + 1
  | .slice elems spare => uptoBulkAll elems + uptoBulkAll spare + 1
  | .agg parts => uptoBulkAll parts + 1
  | .iface _ d => uptoBulk d + 1
  | .map entries => uptoBulkEntries entries + 1
  | .held _ => 1
def uptoBulkAll {H : Type} : List (DataW H) → Nat
  | [] => 0
  | d :: r => uptoBulk d + uptoBulkAll r
def uptoBulkEntries {H : Type} : List (Lit × DataW H) → Nat
  | [] => 0
  | x :: r => uptoBulkEntry x + uptoBulkEntries r
def uptoBulkEntry {H : Type} : Lit × DataW H → Nat
  | (.string bytes, d) => bytes.length + uptoBulk d + 1
  | (_, d) => uptoBulk d + 1
 end
def uptoSmall : (H : Type) → List (DataW H) → Bool := fun _ ds => decide (uptoBulkAll ds ≤ 1048576)
def OpenSpec.upto (s : _root_.Go.ChangeSpec) : _root_.Go.OpenSpec := { _root_.Go.OpenSpec.ofChange s with cond := some uptoSmall }

/-- 'laws.FnExactPlainOf', WHERE WHAT IT READS IS OF BULK AT MOST 1048576: true; the input reads as it did. -/
def fnExactPlainOfUptoRow : OpenClaim := { program := "ytbmnciejaknonasdoor", sum := "371918ab05c478e624d9525049eea7bb2673f5556010a82f8e7057c76b95df05", func := "loop.example/g00253/laws.FnExactPlainOf", spec := "fnExactPlainOf", named := ["loop.example/g00253/impl.byteKinds"], apart := false, laid := [("loop.example/g00253/impl.byteKinds", laid_loop_example_g00253_impl_byteKinds)], narrowed := true }
def FnExactPlainOfUptoSaid : Prop := fnExactPlainOfUptoRow.holds Tryd.pinned (OpenSpec.upto fnExactPlainOfSpec)

/-- 'laws.FnExactOutlineOf', WHERE WHAT IT READS IS OF BULK AT MOST 1048576: true; the input reads as it did. -/
def fnExactOutlineOfUptoRow : OpenClaim := { program := "ytbmnciejaknonasdoor", sum := "371918ab05c478e624d9525049eea7bb2673f5556010a82f8e7057c76b95df05", func := "loop.example/g00253/laws.FnExactOutlineOf", spec := "fnExactOutlineOf", named := ["loop.example/g00253/impl.byteKinds"], apart := false, laid := [("loop.example/g00253/impl.byteKinds", laid_loop_example_g00253_impl_byteKinds)], narrowed := true }
def FnExactOutlineOfUptoSaid : Prop := fnExactOutlineOfUptoRow.holds Tryd.pinned (OpenSpec.upto fnExactOutlineOfSpec)

/-- 'laws.FnExactCountOf', WHERE WHAT IT READS IS OF BULK AT MOST 1048576: true; the input reads as it did. -/
def fnExactCountOfUptoRow : OpenClaim := { program := "ytbmnciejaknonasdoor", sum := "371918ab05c478e624d9525049eea7bb2673f5556010a82f8e7057c76b95df05", func := "loop.example/g00253/laws.FnExactCountOf", spec := "fnExactCountOf", inPlace := ["internal/bytealg.CountString", "internal/bytealg.IndexByteString", "internal/bytealg.IndexString"], named := ["loop.example/g00253/impl.byteKinds", "internal/bytealg.MaxLen"], apart := false, laid := [("loop.example/g00253/impl.byteKinds", laid_loop_example_g00253_impl_byteKinds)], narrowed := true }
def FnExactCountOfUptoSaid : Prop := fnExactCountOfUptoRow.holds Tryd.pinned (OpenSpec.upto fnExactCountOfSpec)

/-- 'laws.FnExactInnerOf', WHERE WHAT IT READS IS OF BULK AT MOST 1048576: true; the input reads as it did. -/
def fnExactInnerOfUptoRow : OpenClaim := { program := "ytbmnciejaknonasdoor", sum := "371918ab05c478e624d9525049eea7bb2673f5556010a82f8e7057c76b95df05", func := "loop.example/g00253/laws.FnExactInnerOf", spec := "fnExactInnerOf", named := ["loop.example/g00253/impl.byteKinds"], apart := false, laid := [("loop.example/g00253/impl.byteKinds", laid_loop_example_g00253_impl_byteKinds)], narrowed := true }
def FnExactInnerOfUptoSaid : Prop := fnExactInnerOfUptoRow.holds Tryd.pinned (OpenSpec.upto fnExactInnerOfSpec)

/-- 'laws.FnExactSafePlace', WHERE WHAT IT READS IS OF BULK AT MOST 1048576: true; the input reads as it did. -/
def fnExactSafePlaceUptoRow : OpenClaim := { program := "ytbmnciejaknonasdoor", sum := "371918ab05c478e624d9525049eea7bb2673f5556010a82f8e7057c76b95df05", func := "loop.example/g00253/laws.FnExactSafePlace", spec := "fnExactSafePlace", named := ["loop.example/g00253/impl.byteKinds"], apart := false, laid := [("loop.example/g00253/impl.byteKinds", laid_loop_example_g00253_impl_byteKinds)], narrowed := true }
def FnExactSafePlaceUptoSaid : Prop := fnExactSafePlaceUptoRow.holds Tryd.pinned (OpenSpec.upto fnExactSafePlaceSpec)

/-- 'laws.FnExactTreeOf', WHERE WHAT IT READS IS OF BULK AT MOST 1048576: true; the input reads as it did. -/
def fnExactTreeOfUptoRow : OpenClaim := { program := "ytbmnciejaknonasdoor", sum := "371918ab05c478e624d9525049eea7bb2673f5556010a82f8e7057c76b95df05", func := "loop.example/g00253/laws.FnExactTreeOf", spec := "fnExactTreeOf", recurses := true, named := ["loop.example/g00253/impl.byteKinds"], apart := false, laid := [("loop.example/g00253/impl.byteKinds", laid_loop_example_g00253_impl_byteKinds)], narrowed := true }
def FnExactTreeOfUptoSaid : Prop := fnExactTreeOfUptoRow.holds Tryd.pinned (OpenSpec.upto fnExactTreeOfSpec)

end Rows
end Go.Proofs.YtbmnciejaknonasDoor
