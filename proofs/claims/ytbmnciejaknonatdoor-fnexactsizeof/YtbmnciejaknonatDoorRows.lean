/-
  NARROWER THAN 'FOR EVERY INPUT', by the rows' own cells (each row's printed sentence says how): FnExactGoodTree: laid · FnExactFlatOf: laid · FnExactPathOf: laid · FnExactPlaceOf: laid · FnExactKidsOf: laid · FnExactSizeOf: laid.
  DERIVED. THE GIVEN ROWS OF THIS SEAT. 6 by the template 'for every input the law returns true; each argument reads behind the call as it read before'; 0 by the template 'total and deterministic' (their statements: YtbmnciejaknonatDoorTotals.lean).
  GIVEN WITH THE SEED: the statements are not yours to turn. If you find one false, say at which input.
  Laid BY PROGRAM, IN A SANDBOX (cutbox-rows.mjs): the forced cells as the released guide's own fill.sh prints them over the translation d789d29ab1671b9b… (all of the seat's roots in one cut). By AI agents, Wed Nov 11 2026. No macro, syntax, notation, axiom, sorry.
-/
import Derived.Test.YtbmnciejaknonatDoorChecked
import GoSem.Claim
import GoSem.ClaimJoined
import GoSem.ClaimMapViews
import Derived.JoinedTies
import Derived.KernelRfl
namespace Go.Proofs.YtbmnciejaknonatDoor
/- THE CELL 'sum', in the pinned program and in every row, IS THE sha256 OF THE DUMP (.gsa) THAT YtbmnciejaknonatDoorProg.lean LOADS. Nothing in Lean hashes anything: it is a label: what it is worth is what the hold of that sum in a sandbox is worth. -/
noncomputable def Tryd.pinned : Pinned := { name := "ytbmnciejaknonatdoor", sum := "d789d29ab1671b9b2c06b9761adda022485d5258b1749ac24bc5040d0a81a289", checked := Tryd.checked }
namespace Rows
def none {H : Type} : Left H := { results := [], args := [] }

/- WHAT THE LISTED PACKAGE-LEVEL VARIABLES READ AS WHEN THE CALL BEGINS. Each datum BY PROGRAM (the guide's laid-datum.mjs) off the statement by which the dump's own 'gosem.cut.vars' lays the variable. In a bare row this is a premise. The card (YtbmnciejaknonatDoorCards.lean) ties it to the program's text. -/
def laid_loop_example_g00253_impl_byteKinds {H : Type} : DataW H := .agg [.lit (.int .u8 0), .lit (.int .u8 0), .lit (.int .u8 0), .lit (.int .u8 0), .lit (.int .u8 0), .lit (.int .u8 0), .lit (.int .u8 0), .lit (.int .u8 0), .lit (.int .u8 0), .lit (.int .u8 0), .lit (.int .u8 0), .lit (.int .u8 0), .lit (.int .u8 0), .lit (.int .u8 0), .lit (.int .u8 0), .lit (.int .u8 0), .lit (.int .u8 0), .lit (.int .u8 0), .lit (.int .u8 0), .lit (.int .u8 0), .lit (.int .u8 0), .lit (.int .u8 0), .lit (.int .u8 0), .lit (.int .u8 0), .lit (.int .u8 0), .lit (.int .u8 0), .lit (.int .u8 0), .lit (.int .u8 0), .lit (.int .u8 0), .lit (.int .u8 0), .lit (.int .u8 0), .lit (.int .u8 0), .lit (.int .u8 1), .lit (.int .u8 0), .lit (.int .u8 0), .lit (.int .u8 0), .lit (.int .u8 0), .lit (.int .u8 0), .lit (.int .u8 0), .lit (.int .u8 0), .lit (.int .u8 0), .lit (.int .u8 0), .lit (.int .u8 0), .lit (.int .u8 0), .lit (.int .u8 1), .lit (.int .u8 0), .lit (.int .u8 1), .lit (.int .u8 3), .lit (.int .u8 1), .lit (.int .u8 1), .lit (.int .u8 1), .lit (.int .u8 1), .lit (.int .u8 1), .lit (.int .u8 1), .lit (.int .u8 1), .lit (.int .u8 1), .lit (.int .u8 1), .lit (.int .u8 1), .lit (.int .u8 0), .lit (.int .u8 0), .lit (.int .u8 0), .lit (.int .u8 0), .lit (.int .u8 0), .lit (.int .u8 0), .lit (.int .u8 0), .lit (.int .u8 2), .lit (.int .u8 2), .lit (.int .u8 2), .lit (.int .u8 2), .lit (.int .u8 2), .lit (.int .u8 2), .lit (.int .u8 0), .lit (.int .u8 0), .lit (.int .u8 0), .lit (.int .u8 0), .lit (.int .u8 0), .lit (.int .u8 0), .lit (.int .u8 0), .lit (.int .u8 0), .lit (.int .u8 0), .lit (.int .u8 0), .lit (.int .u8 0), .lit (.int .u8 0), .lit (.int .u8 0), .lit (.int .u8 0), .lit (.int .u8 0), .lit (.int .u8 0), .lit (.int .u8 0), .lit (.int .u8 0), .lit (.int .u8 0), .lit (.int .u8 0), .lit (.int .u8 0), .lit (.int .u8 0), .lit (.int .u8 0), .lit (.int .u8 0), .lit (.int .u8 0), .lit (.int .u8 0), .lit (.int .u8 1), .lit (.int .u8 1), .lit (.int .u8 1), .lit (.int .u8 1), .lit (.int .u8 1), .lit (.int .u8 1), .lit (.int .u8 1), .lit (.int .u8 1), .lit (.int .u8 1), .lit (.int .u8 1), .lit (.int .u8 1), .lit (.int .u8 1), .lit (.int .u8 1), .lit (.int .u8 1), .lit (.int .u8 1), .lit (.int .u8 1), .lit (.int .u8 1), .lit (.int .u8 1), .lit (.int .u8 1), .lit (.int .u8 1), .lit (.int .u8 1), .lit (.int .u8 1), .lit (.int .u8 1), .lit (.int .u8 1), .lit (.int .u8 1), .lit (.int .u8 1)]

/-- 'laws.FnExactGoodTree': WHATEVER THE INPUT: true; the input reads as it did. -/
def fnExactGoodTreeSpec : ChangeSpec := { name := "fnExactGoodTree", vars := ["loop.example/g00253/impl.byteKinds"], fn := fun _ => fun
  | [d, g1] => { results := [.lit (.bool true)], args := [d], vars := [g1] }
  | _ => none }
def fnExactGoodTreeRow : OpenClaim := { program := "ytbmnciejaknonatdoor", sum := "d789d29ab1671b9b2c06b9761adda022485d5258b1749ac24bc5040d0a81a289", func := "loop.example/g00253/laws.FnExactGoodTree", spec := "fnExactGoodTree", unfollowed := true, recurses := true, named := ["loop.example/g00253/impl.byteKinds"], apart := false, laid := [("loop.example/g00253/impl.byteKinds", laid_loop_example_g00253_impl_byteKinds)] }
def FnExactGoodTreeSaid : Prop := fnExactGoodTreeRow.holds Tryd.pinned (OpenSpec.ofChange fnExactGoodTreeSpec)

/-- ITS FALSE NEIGHBOUR: 'it returns false'. Refute it at one input. -/
def fnExactGoodTreeWrong : ChangeSpec := { name := "fnExactGoodTree", vars := ["loop.example/g00253/impl.byteKinds"], fn := fun _ => fun
  | [d, g1] => { results := [.lit (.bool false)], args := [d], vars := [g1] }
  | _ => none }
def FnExactGoodTreeWrongFalsely : Prop := fnExactGoodTreeRow.holds Tryd.pinned (OpenSpec.ofChange fnExactGoodTreeWrong)

/-- 'laws.FnExactFlatOf': WHATEVER THE INPUT: true; the input reads as it did. -/
def fnExactFlatOfSpec : ChangeSpec := { name := "fnExactFlatOf", vars := ["loop.example/g00253/impl.byteKinds"], fn := fun _ => fun
  | [d, g1] => { results := [.lit (.bool true)], args := [d], vars := [g1] }
  | _ => none }
def fnExactFlatOfRow : OpenClaim := { program := "ytbmnciejaknonatdoor", sum := "d789d29ab1671b9b2c06b9761adda022485d5258b1749ac24bc5040d0a81a289", func := "loop.example/g00253/laws.FnExactFlatOf", spec := "fnExactFlatOf", unfollowed := true, recurses := true, named := ["loop.example/g00253/impl.byteKinds"], apart := false, laid := [("loop.example/g00253/impl.byteKinds", laid_loop_example_g00253_impl_byteKinds)] }
def FnExactFlatOfSaid : Prop := fnExactFlatOfRow.holds Tryd.pinned (OpenSpec.ofChange fnExactFlatOfSpec)

/-- ITS FALSE NEIGHBOUR: 'it returns false'. Refute it at one input. -/
def fnExactFlatOfWrong : ChangeSpec := { name := "fnExactFlatOf", vars := ["loop.example/g00253/impl.byteKinds"], fn := fun _ => fun
  | [d, g1] => { results := [.lit (.bool false)], args := [d], vars := [g1] }
  | _ => none }
def FnExactFlatOfWrongFalsely : Prop := fnExactFlatOfRow.holds Tryd.pinned (OpenSpec.ofChange fnExactFlatOfWrong)

/-- 'laws.FnExactPathOf': WHATEVER THE INPUT: true; the input reads as it did. -/
def fnExactPathOfSpec : ChangeSpec := { name := "fnExactPathOf", vars := ["loop.example/g00253/impl.byteKinds"], fn := fun _ => fun
  | [d1, d2, g1] => { results := [.lit (.bool true)], args := [d1, d2], vars := [g1] }
  | _ => none }
def fnExactPathOfRow : OpenClaim := { program := "ytbmnciejaknonatdoor", sum := "d789d29ab1671b9b2c06b9761adda022485d5258b1749ac24bc5040d0a81a289", func := "loop.example/g00253/laws.FnExactPathOf", spec := "fnExactPathOf", named := ["loop.example/g00253/impl.byteKinds"], apart := false, laid := [("loop.example/g00253/impl.byteKinds", laid_loop_example_g00253_impl_byteKinds)] }
def FnExactPathOfSaid : Prop := fnExactPathOfRow.holds Tryd.pinned (OpenSpec.ofChange fnExactPathOfSpec)

/-- ITS FALSE NEIGHBOUR: 'it returns false'. Refute it at one input. -/
def fnExactPathOfWrong : ChangeSpec := { name := "fnExactPathOf", vars := ["loop.example/g00253/impl.byteKinds"], fn := fun _ => fun
  | [d1, d2, g1] => { results := [.lit (.bool false)], args := [d1, d2], vars := [g1] }
  | _ => none }
def FnExactPathOfWrongFalsely : Prop := fnExactPathOfRow.holds Tryd.pinned (OpenSpec.ofChange fnExactPathOfWrong)

/-- 'laws.FnExactPlaceOf': WHATEVER THE INPUT: true; the input reads as it did. -/
def fnExactPlaceOfSpec : ChangeSpec := { name := "fnExactPlaceOf", vars := ["loop.example/g00253/impl.byteKinds"], fn := fun _ => fun
  | [d1, d2, g1] => { results := [.lit (.bool true)], args := [d1, d2], vars := [g1] }
  | _ => none }
def fnExactPlaceOfRow : OpenClaim := { program := "ytbmnciejaknonatdoor", sum := "d789d29ab1671b9b2c06b9761adda022485d5258b1749ac24bc5040d0a81a289", func := "loop.example/g00253/laws.FnExactPlaceOf", spec := "fnExactPlaceOf", named := ["loop.example/g00253/impl.byteKinds"], apart := false, laid := [("loop.example/g00253/impl.byteKinds", laid_loop_example_g00253_impl_byteKinds)] }
def FnExactPlaceOfSaid : Prop := fnExactPlaceOfRow.holds Tryd.pinned (OpenSpec.ofChange fnExactPlaceOfSpec)

/-- ITS FALSE NEIGHBOUR: 'it returns false'. Refute it at one input. -/
def fnExactPlaceOfWrong : ChangeSpec := { name := "fnExactPlaceOf", vars := ["loop.example/g00253/impl.byteKinds"], fn := fun _ => fun
  | [d1, d2, g1] => { results := [.lit (.bool false)], args := [d1, d2], vars := [g1] }
  | _ => none }
def FnExactPlaceOfWrongFalsely : Prop := fnExactPlaceOfRow.holds Tryd.pinned (OpenSpec.ofChange fnExactPlaceOfWrong)

/-- 'laws.FnExactKidsOf': WHATEVER THE INPUT: true; the input reads as it did. -/
def fnExactKidsOfSpec : ChangeSpec := { name := "fnExactKidsOf", vars := ["loop.example/g00253/impl.byteKinds"], fn := fun _ => fun
  | [d1, d2, g1] => { results := [.lit (.bool true)], args := [d1, d2], vars := [g1] }
  | _ => none }
def fnExactKidsOfRow : OpenClaim := { program := "ytbmnciejaknonatdoor", sum := "d789d29ab1671b9b2c06b9761adda022485d5258b1749ac24bc5040d0a81a289", func := "loop.example/g00253/laws.FnExactKidsOf", spec := "fnExactKidsOf", unfollowed := true, recurses := true, named := ["loop.example/g00253/impl.byteKinds"], apart := false, laid := [("loop.example/g00253/impl.byteKinds", laid_loop_example_g00253_impl_byteKinds)] }
def FnExactKidsOfSaid : Prop := fnExactKidsOfRow.holds Tryd.pinned (OpenSpec.ofChange fnExactKidsOfSpec)

/-- ITS FALSE NEIGHBOUR: 'it returns false'. Refute it at one input. -/
def fnExactKidsOfWrong : ChangeSpec := { name := "fnExactKidsOf", vars := ["loop.example/g00253/impl.byteKinds"], fn := fun _ => fun
  | [d1, d2, g1] => { results := [.lit (.bool false)], args := [d1, d2], vars := [g1] }
  | _ => none }
def FnExactKidsOfWrongFalsely : Prop := fnExactKidsOfRow.holds Tryd.pinned (OpenSpec.ofChange fnExactKidsOfWrong)

/-- 'laws.FnExactSizeOf': WHATEVER THE INPUT: true; the input reads as it did. -/
def fnExactSizeOfSpec : ChangeSpec := { name := "fnExactSizeOf", vars := ["loop.example/g00253/impl.byteKinds"], fn := fun _ => fun
  | [d1, d2, g1] => { results := [.lit (.bool true)], args := [d1, d2], vars := [g1] }
  | _ => none }
def fnExactSizeOfRow : OpenClaim := { program := "ytbmnciejaknonatdoor", sum := "d789d29ab1671b9b2c06b9761adda022485d5258b1749ac24bc5040d0a81a289", func := "loop.example/g00253/laws.FnExactSizeOf", spec := "fnExactSizeOf", unfollowed := true, recurses := true, named := ["loop.example/g00253/impl.byteKinds"], apart := false, laid := [("loop.example/g00253/impl.byteKinds", laid_loop_example_g00253_impl_byteKinds)] }
def FnExactSizeOfSaid : Prop := fnExactSizeOfRow.holds Tryd.pinned (OpenSpec.ofChange fnExactSizeOfSpec)

/-- ITS FALSE NEIGHBOUR: 'it returns false'. Refute it at one input. -/
def fnExactSizeOfWrong : ChangeSpec := { name := "fnExactSizeOf", vars := ["loop.example/g00253/impl.byteKinds"], fn := fun _ => fun
  | [d1, d2, g1] => { results := [.lit (.bool false)], args := [d1, d2], vars := [g1] }
  | _ => none }
def FnExactSizeOfWrongFalsely : Prop := fnExactSizeOfRow.holds Tryd.pinned (OpenSpec.ofChange fnExactSizeOfWrong)

/- THE SECOND FORM. 'bulk': how many values and letters a reading holds, each counted each time it is reached (what is shared counts as often as it is met; a slice's spare places count too). A statement '..UptoSaid' is the law's where the arguments, and the package variables that the reading takes, are together of bulk at most 1048576: NARROWER than '..Said'. Prove '..Said' where nothing that the law and all that it calls make is longer than what came in: it says more and counts as full. Else prove '..UptoSaid'. A law counts once. -/
mutual
def uptoBulk {H : Type} : DataW H → Nat
  | .lit (.string bytes) => bytes.length + 1
  | .lit _ => 1
  | .nil => 1
  | .ptr d => uptoBulk d + 1
  | .slice elems spare => uptoBulkAll elems + uptoBulkAll spare + 1
  | .agg parts => uptoBulkAll parts + 1
  | .iface _ d => uptoBulk d + 1
  | .map entries => uptoBulkEntries entries + 1
  | .held _ => 1
def uptoBulkAll {H : Type} : List (DataW H) → Nat
  | [] => 0
  | d :: r => uptoBulk d + uptoBulkAll r
def uptoBulkEntries {H : Type} : List (Lit × DataW H) → Nat
  | [] => 0
  | x :: r => uptoBulkEntry x + uptoBulkEntries r
def uptoBulkEntry {H : Type} : Lit × DataW H → Nat
  | (.string bytes, d) => bytes.length + uptoBulk d + 1
  | (_, d) => uptoBulk d + 1
 end
def uptoSmall : (H : Type) → List (DataW H) → Bool := fun _ ds => decide (uptoBulkAll ds ≤ 1048576)
def OpenSpec.upto (s : _root_.Go.ChangeSpec) : _root_.Go.OpenSpec := { _root_.Go.OpenSpec.ofChange s with cond := some uptoSmall }

/-- 'laws.FnExactGoodTree', WHERE WHAT IT READS IS OF BULK AT MOST 1048576: true; the input reads as it did. -/
def fnExactGoodTreeUptoRow : OpenClaim := { program := "ytbmnciejaknonatdoor", sum := "d789d29ab1671b9b2c06b9761adda022485d5258b1749ac24bc5040d0a81a289", func := "loop.example/g00253/laws.FnExactGoodTree", spec := "fnExactGoodTree", unfollowed := true, recurses := true, named := ["loop.example/g00253/impl.byteKinds"], apart := false, laid := [("loop.example/g00253/impl.byteKinds", laid_loop_example_g00253_impl_byteKinds)], narrowed := true }
def FnExactGoodTreeUptoSaid : Prop := fnExactGoodTreeUptoRow.holds Tryd.pinned (OpenSpec.upto fnExactGoodTreeSpec)

/-- 'laws.FnExactFlatOf', WHERE WHAT IT READS IS OF BULK AT MOST 1048576: true; the input reads as it did. -/
def fnExactFlatOfUptoRow : OpenClaim := { program := "ytbmnciejaknonatdoor", sum := "d789d29ab1671b9b2c06b9761adda022485d5258b1749ac24bc5040d0a81a289", func := "loop.example/g00253/laws.FnExactFlatOf", spec := "fnExactFlatOf", unfollowed := true, recurses := true, named := ["loop.example/g00253/impl.byteKinds"], apart := false, laid := [("loop.example/g00253/impl.byteKinds", laid_loop_example_g00253_impl_byteKinds)], narrowed := true }
def FnExactFlatOfUptoSaid : Prop := fnExactFlatOfUptoRow.holds Tryd.pinned (OpenSpec.upto fnExactFlatOfSpec)

/-- 'laws.FnExactPathOf', WHERE WHAT IT READS IS OF BULK AT MOST 1048576: true; the input reads as it did. -/
def fnExactPathOfUptoRow : OpenClaim := { program := "ytbmnciejaknonatdoor", sum := "d789d29ab1671b9b2c06b9761adda022485d5258b1749ac24bc5040d0a81a289", func := "loop.example/g00253/laws.FnExactPathOf", spec := "fnExactPathOf", named := ["loop.example/g00253/impl.byteKinds"], apart := false, laid := [("loop.example/g00253/impl.byteKinds", laid_loop_example_g00253_impl_byteKinds)], narrowed := true }
def FnExactPathOfUptoSaid : Prop := fnExactPathOfUptoRow.holds Tryd.pinned (OpenSpec.upto fnExactPathOfSpec)

/-- 'laws.FnExactPlaceOf', WHERE WHAT IT READS IS OF BULK AT MOST 1048576: true; the input reads as it did. -/
def fnExactPlaceOfUptoRow : OpenClaim := { program := "ytbmnciejaknonatdoor", sum := "d789d29ab1671b9b2c06b9761adda022485d5258b1749ac24bc5040d0a81a289", func := "loop.example/g00253/laws.FnExactPlaceOf", spec := "fnExactPlaceOf", named := ["loop.example/g00253/impl.byteKinds"], apart := false, laid := [("loop.example/g00253/impl.byteKinds", laid_loop_example_g00253_impl_byteKinds)], narrowed := true }
def FnExactPlaceOfUptoSaid : Prop := fnExactPlaceOfUptoRow.holds Tryd.pinned (OpenSpec.upto fnExactPlaceOfSpec)

/-- 'laws.FnExactKidsOf', WHERE WHAT IT READS IS OF BULK AT MOST 1048576: true; the input reads as it did. -/
def fnExactKidsOfUptoRow : OpenClaim := { program := "ytbmnciejaknonatdoor", sum := "d789d29ab1671b9b2c06b9761adda022485d5258b1749ac24bc5040d0a81a289", func := "loop.example/g00253/laws.FnExactKidsOf", spec := "fnExactKidsOf", unfollowed := true, recurses := true, named := ["loop.example/g00253/impl.byteKinds"], apart := false, laid := [("loop.example/g00253/impl.byteKinds", laid_loop_example_g00253_impl_byteKinds)], narrowed := true }
def FnExactKidsOfUptoSaid : Prop := fnExactKidsOfUptoRow.holds Tryd.pinned (OpenSpec.upto fnExactKidsOfSpec)

/-- 'laws.FnExactSizeOf', WHERE WHAT IT READS IS OF BULK AT MOST 1048576: true; the input reads as it did. -/
def fnExactSizeOfUptoRow : OpenClaim := { program := "ytbmnciejaknonatdoor", sum := "d789d29ab1671b9b2c06b9761adda022485d5258b1749ac24bc5040d0a81a289", func := "loop.example/g00253/laws.FnExactSizeOf", spec := "fnExactSizeOf", unfollowed := true, recurses := true, named := ["loop.example/g00253/impl.byteKinds"], apart := false, laid := [("loop.example/g00253/impl.byteKinds", laid_loop_example_g00253_impl_byteKinds)], narrowed := true }
def FnExactSizeOfUptoSaid : Prop := fnExactSizeOfUptoRow.holds Tryd.pinned (OpenSpec.upto fnExactSizeOfSpec)

end Rows
end Go.Proofs.YtbmnciejaknonatDoor
