/-
  NARROWER THAN 'FOR EVERY INPUT', by the rows' own cells (each row's printed sentence says how): FnSeqs: laid · FnPut: laid · FnExactGoodSeq: laid · FnExactTextOfSeq: laid · FnExactPutAtom: laid · FnExactDropAtom: laid.
  DERIVED. THE GIVEN ROWS OF THIS SEAT. 6 by the template 'for every input the law returns true; each argument reads behind the call as it read before'; 0 by the template 'total and deterministic' (their statements: YtnhooalibadeeaaDoorTotals.lean).
  GIVEN WITH THE SEED: the statements are not yours to turn. If you find one false, say at which input.
  Laid BY PROGRAM, IN A SANDBOX (cutbox-rows.mjs): the forced cells as the released guide's own fill.sh prints them over the translation 5dace1ecefc27f40… (all of the seat's roots in one cut). By AI agents, Wed Nov 11 2026. No macro, syntax, notation, axiom, sorry.
-/
import Derived.Test.YtnhooalibadeeaaDoorChecked
import GoSem.Claim
import GoSem.ClaimJoined
import GoSem.ClaimMapViews
import Derived.JoinedTies
import Derived.KernelRfl
namespace Go.Proofs.YtnhooalibadeeaaDoor
/- THE CELL 'sum', in the pinned program and in every row, IS THE sha256 OF THE DUMP (.gsa) THAT YtnhooalibadeeaaDoorProg.lean LOADS. Nothing in Lean hashes anything: it is a label: what it is worth is what the hold of that sum in a sandbox is worth. -/
noncomputable def Tryd.pinned : Pinned := { name := "ytnhooalibadeeaadoor", sum := "5dace1ecefc27f40787aaca7c252510b05a26801dd88b50c5118d9f344934b25", checked := Tryd.checked }
namespace Rows
def none {H : Type} : Left H := { results := [], args := [] }

/- WHAT THE LISTED PACKAGE-LEVEL VARIABLES READ AS WHEN THE CALL BEGINS. Each datum BY PROGRAM (the guide's laid-datum.mjs) off the statement by which the dump's own 'gosem.cut.vars' lays the variable. In a bare row this is a premise. The card (YtnhooalibadeeaaDoorCards.lean) ties it to the program's text. -/
def laid_loop_example_g00253_impl_byteKinds {H : Type} : DataW H := .agg [.lit (.int .u8 0), .lit (.int .u8 0), .lit (.int .u8 0), .lit (.int .u8 0), .lit (.int .u8 0), .lit (.int .u8 0), .lit (.int .u8 0), .lit (.int .u8 0), .lit (.int .u8 0), .lit (.int .u8 0), .lit (.int .u8 0), .lit (.int .u8 0), .lit (.int .u8 0), .lit (.int .u8 0), .lit (.int .u8 0), .lit (.int .u8 0), .lit (.int .u8 0), .lit (.int .u8 0), .lit (.int .u8 0), .lit (.int .u8 0), .lit (.int .u8 0), .lit (.int .u8 0), .lit (.int .u8 0), .lit (.int .u8 0), .lit (.int .u8 0), .lit (.int .u8 0), .lit (.int .u8 0), .lit (.int .u8 0), .lit (.int .u8 0), .lit (.int .u8 0), .lit (.int .u8 0), .lit (.int .u8 0), .lit (.int .u8 1), .lit (.int .u8 0), .lit (.int .u8 0), .lit (.int .u8 0), .lit (.int .u8 0), .lit (.int .u8 0), .lit (.int .u8 0), .lit (.int .u8 0), .lit (.int .u8 0), .lit (.int .u8 0), .lit (.int .u8 0), .lit (.int .u8 0), .lit (.int .u8 1), .lit (.int .u8 0), .lit (.int .u8 1), .lit (.int .u8 3), .lit (.int .u8 1), .lit (.int .u8 1), .lit (.int .u8 1), .lit (.int .u8 1), .lit (.int .u8 1), .lit (.int .u8 1), .lit (.int .u8 1), .lit (.int .u8 1), .lit (.int .u8 1), .lit (.int .u8 1), .lit (.int .u8 0), .lit (.int .u8 0), .lit (.int .u8 0), .lit (.int .u8 0), .lit (.int .u8 0), .lit (.int .u8 0), .lit (.int .u8 0), .lit (.int .u8 2), .lit (.int .u8 2), .lit (.int .u8 2), .lit (.int .u8 2), .lit (.int .u8 2), .lit (.int .u8 2), .lit (.int .u8 0), .lit (.int .u8 0), .lit (.int .u8 0), .lit (.int .u8 0), .lit (.int .u8 0), .lit (.int .u8 0), .lit (.int .u8 0), .lit (.int .u8 0), .lit (.int .u8 0), .lit (.int .u8 0), .lit (.int .u8 0), .lit (.int .u8 0), .lit (.int .u8 0), .lit (.int .u8 0), .lit (.int .u8 0), .lit (.int .u8 0), .lit (.int .u8 0), .lit (.int .u8 0), .lit (.int .u8 0), .lit (.int .u8 0), .lit (.int .u8 0), .lit (.int .u8 0), .lit (.int .u8 0), .lit (.int .u8 0), .lit (.int .u8 0), .lit (.int .u8 0), .lit (.int .u8 1), .lit (.int .u8 1), .lit (.int .u8 1), .lit (.int .u8 1), .lit (.int .u8 1), .lit (.int .u8 1), .lit (.int .u8 1), .lit (.int .u8 1), .lit (.int .u8 1), .lit (.int .u8 1), .lit (.int .u8 1), .lit (.int .u8 1), .lit (.int .u8 1), .lit (.int .u8 1), .lit (.int .u8 1), .lit (.int .u8 1), .lit (.int .u8 1), .lit (.int .u8 1), .lit (.int .u8 1), .lit (.int .u8 1), .lit (.int .u8 1), .lit (.int .u8 1), .lit (.int .u8 1), .lit (.int .u8 1), .lit (.int .u8 1), .lit (.int .u8 1)]

/-- 'laws.FnSeqs': WHATEVER THE INPUT: true; the input reads as it did. -/
def fnSeqsSpec : ChangeSpec := { name := "fnSeqs", vars := ["loop.example/g00253/impl.byteKinds"], fn := fun _ => fun
  | [d1, d2, g1] => { results := [.lit (.bool true)], args := [d1, d2], vars := [g1] }
  | _ => none }
def fnSeqsRow : OpenClaim := { program := "ytnhooalibadeeaadoor", sum := "5dace1ecefc27f40787aaca7c252510b05a26801dd88b50c5118d9f344934b25", func := "loop.example/g00253/laws.FnSeqs", spec := "fnSeqs", unfollowed := true, recurses := true, named := ["loop.example/g00253/impl.byteKinds"], apart := false, laid := [("loop.example/g00253/impl.byteKinds", laid_loop_example_g00253_impl_byteKinds)] }
def FnSeqsSaid : Prop := fnSeqsRow.holds Tryd.pinned (OpenSpec.ofChange fnSeqsSpec)

/-- ITS FALSE NEIGHBOUR: 'it returns false'. Refute it at one input. -/
def fnSeqsWrong : ChangeSpec := { name := "fnSeqs", vars := ["loop.example/g00253/impl.byteKinds"], fn := fun _ => fun
  | [d1, d2, g1] => { results := [.lit (.bool false)], args := [d1, d2], vars := [g1] }
  | _ => none }
def FnSeqsWrongFalsely : Prop := fnSeqsRow.holds Tryd.pinned (OpenSpec.ofChange fnSeqsWrong)

/-- 'laws.FnPut': WHATEVER THE INPUT: true; the input reads as it did. -/
def fnPutSpec : ChangeSpec := { name := "fnPut", vars := ["loop.example/g00253/impl.byteKinds"], fn := fun _ => fun
  | [d1, d2, g1] => { results := [.lit (.bool true)], args := [d1, d2], vars := [g1] }
  | _ => none }
def fnPutRow : OpenClaim := { program := "ytnhooalibadeeaadoor", sum := "5dace1ecefc27f40787aaca7c252510b05a26801dd88b50c5118d9f344934b25", func := "loop.example/g00253/laws.FnPut", spec := "fnPut", inPlace := ["slices.overlaps[int]", "internal/abi.NoEscape"], unfollowed := true, recurses := true, named := ["loop.example/g00253/impl.byteKinds"], apart := false, laid := [("loop.example/g00253/impl.byteKinds", laid_loop_example_g00253_impl_byteKinds)] }
def FnPutSaid : Prop := fnPutRow.holds Tryd.pinned (OpenSpec.ofChange fnPutSpec)

/-- ITS FALSE NEIGHBOUR: 'it returns false'. Refute it at one input. -/
def fnPutWrong : ChangeSpec := { name := "fnPut", vars := ["loop.example/g00253/impl.byteKinds"], fn := fun _ => fun
  | [d1, d2, g1] => { results := [.lit (.bool false)], args := [d1, d2], vars := [g1] }
  | _ => none }
def FnPutWrongFalsely : Prop := fnPutRow.holds Tryd.pinned (OpenSpec.ofChange fnPutWrong)

/-- 'laws.FnExactGoodSeq': WHATEVER THE INPUT: true; the input reads as it did. -/
def fnExactGoodSeqSpec : ChangeSpec := { name := "fnExactGoodSeq", vars := ["loop.example/g00253/impl.byteKinds"], fn := fun _ => fun
  | [d, g1] => { results := [.lit (.bool true)], args := [d], vars := [g1] }
  | _ => none }
def fnExactGoodSeqRow : OpenClaim := { program := "ytnhooalibadeeaadoor", sum := "5dace1ecefc27f40787aaca7c252510b05a26801dd88b50c5118d9f344934b25", func := "loop.example/g00253/laws.FnExactGoodSeq", spec := "fnExactGoodSeq", unfollowed := true, recurses := true, named := ["loop.example/g00253/impl.byteKinds"], apart := false, laid := [("loop.example/g00253/impl.byteKinds", laid_loop_example_g00253_impl_byteKinds)] }
def FnExactGoodSeqSaid : Prop := fnExactGoodSeqRow.holds Tryd.pinned (OpenSpec.ofChange fnExactGoodSeqSpec)

/-- ITS FALSE NEIGHBOUR: 'it returns false'. Refute it at one input. -/
def fnExactGoodSeqWrong : ChangeSpec := { name := "fnExactGoodSeq", vars := ["loop.example/g00253/impl.byteKinds"], fn := fun _ => fun
  | [d, g1] => { results := [.lit (.bool false)], args := [d], vars := [g1] }
  | _ => none }
def FnExactGoodSeqWrongFalsely : Prop := fnExactGoodSeqRow.holds Tryd.pinned (OpenSpec.ofChange fnExactGoodSeqWrong)

/-- 'laws.FnExactTextOfSeq': WHATEVER THE INPUT: true; the input reads as it did. -/
def fnExactTextOfSeqSpec : ChangeSpec := { name := "fnExactTextOfSeq", vars := ["loop.example/g00253/impl.byteKinds"], fn := fun _ => fun
  | [d, g1] => { results := [.lit (.bool true)], args := [d], vars := [g1] }
  | _ => none }
def fnExactTextOfSeqRow : OpenClaim := { program := "ytnhooalibadeeaadoor", sum := "5dace1ecefc27f40787aaca7c252510b05a26801dd88b50c5118d9f344934b25", func := "loop.example/g00253/laws.FnExactTextOfSeq", spec := "fnExactTextOfSeq", inPlace := ["slices.overlaps[int]", "internal/abi.NoEscape"], unfollowed := true, recurses := true, named := ["loop.example/g00253/impl.byteKinds"], apart := false, laid := [("loop.example/g00253/impl.byteKinds", laid_loop_example_g00253_impl_byteKinds)] }
def FnExactTextOfSeqSaid : Prop := fnExactTextOfSeqRow.holds Tryd.pinned (OpenSpec.ofChange fnExactTextOfSeqSpec)

/-- ITS FALSE NEIGHBOUR: 'it returns false'. Refute it at one input. -/
def fnExactTextOfSeqWrong : ChangeSpec := { name := "fnExactTextOfSeq", vars := ["loop.example/g00253/impl.byteKinds"], fn := fun _ => fun
  | [d, g1] => { results := [.lit (.bool false)], args := [d], vars := [g1] }
  | _ => none }
def FnExactTextOfSeqWrongFalsely : Prop := fnExactTextOfSeqRow.holds Tryd.pinned (OpenSpec.ofChange fnExactTextOfSeqWrong)

/-- 'laws.FnExactPutAtom': WHATEVER THE INPUT: true; the input reads as it did. -/
def fnExactPutAtomSpec : ChangeSpec := { name := "fnExactPutAtom", vars := ["loop.example/g00253/impl.byteKinds"], fn := fun _ => fun
  | [d1, d2, d3, d4, g1] => { results := [.lit (.bool true)], args := [d1, d2, d3, d4], vars := [g1] }
  | _ => none }
def fnExactPutAtomRow : OpenClaim := { program := "ytnhooalibadeeaadoor", sum := "5dace1ecefc27f40787aaca7c252510b05a26801dd88b50c5118d9f344934b25", func := "loop.example/g00253/laws.FnExactPutAtom", spec := "fnExactPutAtom", inPlace := ["slices.overlaps[int]"], unfollowed := true, recurses := true, named := ["loop.example/g00253/impl.byteKinds"], apart := false, laid := [("loop.example/g00253/impl.byteKinds", laid_loop_example_g00253_impl_byteKinds)] }
def FnExactPutAtomSaid : Prop := fnExactPutAtomRow.holds Tryd.pinned (OpenSpec.ofChange fnExactPutAtomSpec)

/-- ITS FALSE NEIGHBOUR: 'it returns false'. Refute it at one input. -/
def fnExactPutAtomWrong : ChangeSpec := { name := "fnExactPutAtom", vars := ["loop.example/g00253/impl.byteKinds"], fn := fun _ => fun
  | [d1, d2, d3, d4, g1] => { results := [.lit (.bool false)], args := [d1, d2, d3, d4], vars := [g1] }
  | _ => none }
def FnExactPutAtomWrongFalsely : Prop := fnExactPutAtomRow.holds Tryd.pinned (OpenSpec.ofChange fnExactPutAtomWrong)

/-- 'laws.FnExactDropAtom': WHATEVER THE INPUT: true; the input reads as it did. -/
def fnExactDropAtomSpec : ChangeSpec := { name := "fnExactDropAtom", vars := ["loop.example/g00253/impl.byteKinds"], fn := fun _ => fun
  | [d1, d2, g1] => { results := [.lit (.bool true)], args := [d1, d2], vars := [g1] }
  | _ => none }
def fnExactDropAtomRow : OpenClaim := { program := "ytnhooalibadeeaadoor", sum := "5dace1ecefc27f40787aaca7c252510b05a26801dd88b50c5118d9f344934b25", func := "loop.example/g00253/laws.FnExactDropAtom", spec := "fnExactDropAtom", inPlace := ["slices.overlaps[int]"], unfollowed := true, recurses := true, named := ["loop.example/g00253/impl.byteKinds"], apart := false, laid := [("loop.example/g00253/impl.byteKinds", laid_loop_example_g00253_impl_byteKinds)] }
def FnExactDropAtomSaid : Prop := fnExactDropAtomRow.holds Tryd.pinned (OpenSpec.ofChange fnExactDropAtomSpec)

/-- ITS FALSE NEIGHBOUR: 'it returns false'. Refute it at one input. -/
def fnExactDropAtomWrong : ChangeSpec := { name := "fnExactDropAtom", vars := ["loop.example/g00253/impl.byteKinds"], fn := fun _ => fun
  | [d1, d2, g1] => { results := [.lit (.bool false)], args := [d1, d2], vars := [g1] }
  | _ => none }
def FnExactDropAtomWrongFalsely : Prop := fnExactDropAtomRow.holds Tryd.pinned (OpenSpec.ofChange fnExactDropAtomWrong)

/- THE SECOND FORM. 'bulk': how many values and letters a reading holds, each counted each time it is reached (what is shared counts as often as it is met; a slice's spare places count too). A statement '..UptoSaid' is the law's where the arguments, and the package variables that the reading takes, are together of bulk at most 1048576: NARROWER than '..Said'. Prove '..Said' where nothing that the law and all that it calls make is longer than what came in: it says more and counts as full. Else prove '..UptoSaid'. A law counts once. -/
mutual
def uptoBulk {H : Type} : DataW H → Nat
  | .lit (.string bytes) => bytes.length + 1
  | .lit _ => 1
  | .nil => 1
  | .ptr d => uptoBulk d + 1
  | .slice elems spare => uptoBulkAll elems + uptoBulkAll spare + 1
  | .agg parts => uptoBulkAll parts + 1
  | .iface _ d => uptoBulk d + 1
  | .map entries => uptoBulkEntries entries + 1
  | .held _ => 1
def uptoBulkAll {H : Type} : List (DataW H) → Nat
  | [] => 0
  | d :: r => uptoBulk d + uptoBulkAll r
def uptoBulkEntries {H : Type} : List (Lit × DataW H) → Nat
  | [] => 0
  | x :: r => uptoBulkEntry x + uptoBulkEntries r
def uptoBulkEntry {H : Type} : Lit × DataW H → Nat
  | (.string bytes, d) => bytes.length + uptoBulk d + 1
  | (_, d) => uptoBulk d + 1
 end
def uptoSmall : (H : Type) → List (DataW H) → Bool := fun _ ds => decide (uptoBulkAll ds ≤ 1048576)
def OpenSpec.upto (s : _root_.Go.ChangeSpec) : _root_.Go.OpenSpec := { _root_.Go.OpenSpec.ofChange s with cond := some uptoSmall }

/-- 'laws.FnSeqs', WHERE WHAT IT READS IS OF BULK AT MOST 1048576: true; the input reads as it did. -/
def fnSeqsUptoRow : OpenClaim := { program := "ytnhooalibadeeaadoor", sum := "5dace1ecefc27f40787aaca7c252510b05a26801dd88b50c5118d9f344934b25", func := "loop.example/g00253/laws.FnSeqs", spec := "fnSeqs", unfollowed := true, recurses := true, named := ["loop.example/g00253/impl.byteKinds"], apart := false, laid := [("loop.example/g00253/impl.byteKinds", laid_loop_example_g00253_impl_byteKinds)], narrowed := true }
def FnSeqsUptoSaid : Prop := fnSeqsUptoRow.holds Tryd.pinned (OpenSpec.upto fnSeqsSpec)

/-- 'laws.FnPut', WHERE WHAT IT READS IS OF BULK AT MOST 1048576: true; the input reads as it did. -/
def fnPutUptoRow : OpenClaim := { program := "ytnhooalibadeeaadoor", sum := "5dace1ecefc27f40787aaca7c252510b05a26801dd88b50c5118d9f344934b25", func := "loop.example/g00253/laws.FnPut", spec := "fnPut", inPlace := ["slices.overlaps[int]", "internal/abi.NoEscape"], unfollowed := true, recurses := true, named := ["loop.example/g00253/impl.byteKinds"], apart := false, laid := [("loop.example/g00253/impl.byteKinds", laid_loop_example_g00253_impl_byteKinds)], narrowed := true }
def FnPutUptoSaid : Prop := fnPutUptoRow.holds Tryd.pinned (OpenSpec.upto fnPutSpec)

/-- 'laws.FnExactGoodSeq', WHERE WHAT IT READS IS OF BULK AT MOST 1048576: true; the input reads as it did. -/
def fnExactGoodSeqUptoRow : OpenClaim := { program := "ytnhooalibadeeaadoor", sum := "5dace1ecefc27f40787aaca7c252510b05a26801dd88b50c5118d9f344934b25", func := "loop.example/g00253/laws.FnExactGoodSeq", spec := "fnExactGoodSeq", unfollowed := true, recurses := true, named := ["loop.example/g00253/impl.byteKinds"], apart := false, laid := [("loop.example/g00253/impl.byteKinds", laid_loop_example_g00253_impl_byteKinds)], narrowed := true }
def FnExactGoodSeqUptoSaid : Prop := fnExactGoodSeqUptoRow.holds Tryd.pinned (OpenSpec.upto fnExactGoodSeqSpec)

/-- 'laws.FnExactTextOfSeq', WHERE WHAT IT READS IS OF BULK AT MOST 1048576: true; the input reads as it did. -/
def fnExactTextOfSeqUptoRow : OpenClaim := { program := "ytnhooalibadeeaadoor", sum := "5dace1ecefc27f40787aaca7c252510b05a26801dd88b50c5118d9f344934b25", func := "loop.example/g00253/laws.FnExactTextOfSeq", spec := "fnExactTextOfSeq", inPlace := ["slices.overlaps[int]", "internal/abi.NoEscape"], unfollowed := true, recurses := true, named := ["loop.example/g00253/impl.byteKinds"], apart := false, laid := [("loop.example/g00253/impl.byteKinds", laid_loop_example_g00253_impl_byteKinds)], narrowed := true }
def FnExactTextOfSeqUptoSaid : Prop := fnExactTextOfSeqUptoRow.holds Tryd.pinned (OpenSpec.upto fnExactTextOfSeqSpec)

/-- 'laws.FnExactPutAtom', WHERE WHAT IT READS IS OF BULK AT MOST 1048576: true; the input reads as it did. -/
def fnExactPutAtomUptoRow : OpenClaim := { program := "ytnhooalibadeeaadoor", sum := "5dace1ecefc27f40787aaca7c252510b05a26801dd88b50c5118d9f344934b25", func := "loop.example/g00253/laws.FnExactPutAtom", spec := "fnExactPutAtom", inPlace := ["slices.overlaps[int]"], unfollowed := true, recurses := true, named := ["loop.example/g00253/impl.byteKinds"], apart := false, laid := [("loop.example/g00253/impl.byteKinds", laid_loop_example_g00253_impl_byteKinds)], narrowed := true }
def FnExactPutAtomUptoSaid : Prop := fnExactPutAtomUptoRow.holds Tryd.pinned (OpenSpec.upto fnExactPutAtomSpec)

/-- 'laws.FnExactDropAtom', WHERE WHAT IT READS IS OF BULK AT MOST 1048576: true; the input reads as it did. -/
def fnExactDropAtomUptoRow : OpenClaim := { program := "ytnhooalibadeeaadoor", sum := "5dace1ecefc27f40787aaca7c252510b05a26801dd88b50c5118d9f344934b25", func := "loop.example/g00253/laws.FnExactDropAtom", spec := "fnExactDropAtom", inPlace := ["slices.overlaps[int]"], unfollowed := true, recurses := true, named := ["loop.example/g00253/impl.byteKinds"], apart := false, laid := [("loop.example/g00253/impl.byteKinds", laid_loop_example_g00253_impl_byteKinds)], narrowed := true }
def FnExactDropAtomUptoSaid : Prop := fnExactDropAtomUptoRow.holds Tryd.pinned (OpenSpec.upto fnExactDropAtomSpec)

end Rows
end Go.Proofs.YtnhooalibadeeaaDoor
