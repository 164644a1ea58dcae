/-
  No cell of these rows narrows 'for every input' (looked for: loops, veiled, ifaces, maps, wideKeys, modest, calm, conditions, laid).
  DERIVED. THE GIVEN ROWS OF THIS SEAT. 6 by the template 'for every input the law returns true; each argument reads behind the call as it read before'; 0 by the template 'total and deterministic' (their statements: YtknodkdlphngmaxTotals.lean).
  GIVEN WITH THE SEED: the statements are not yours to turn. If you find one false, say at which input.
  Laid BY PROGRAM, IN A SANDBOX (cutbox-rows.mjs): the forced cells as the released guide's own fill.sh prints them over the translation 6508f9555970728b… (all of the seat's roots in one cut). By AI agents, Wed Nov 11 2026. No macro, syntax, notation, axiom, sorry.
-/
import Derived.Test.YtknodkdlphngmaxChecked
import GoSem.Claim
import GoSem.ClaimJoined
import GoSem.ClaimMapViews
import Derived.JoinedTies
import Derived.KernelRfl
namespace Go.Proofs.Ytknodkdlphngmax
/- THE CELL 'sum', in the pinned program and in every row, IS THE sha256 OF THE DUMP (.gsa) THAT YtknodkdlphngmaxProg.lean LOADS. Nothing in Lean hashes anything: it is a label: what it is worth is what the hold of that sum in a sandbox is worth. -/
noncomputable def Try.pinned : Pinned := { name := "ytknodkdlphngmax", sum := "6508f9555970728b7e098b6929fd2b075164f3ff99704157a121ee51a9ad4985", checked := Try.checked }
namespace Rows
def none {H : Type} : Left H := { results := [], args := [] }

/-- 'laws.FnExactCutMarks': WHATEVER THE INPUT: true; the input reads as it did. -/
def fnExactCutMarksSpec : ChangeSpec := { name := "fnExactCutMarks", fn := fun _ => fun
  | [d1, d2, d3, d4, d5] => { results := [.lit (.bool true)], args := [d1, d2, d3, d4, d5] }
  | _ => none }
def fnExactCutMarksRow : OpenClaim := { program := "ytknodkdlphngmax", sum := "6508f9555970728b7e098b6929fd2b075164f3ff99704157a121ee51a9ad4985", func := "loop.example/g00253/laws.FnExactCutMarks", spec := "fnExactCutMarks", unfollowed := true, recurses := true, plainKeys := false, apart := false }
def FnExactCutMarksSaid : Prop := fnExactCutMarksRow.holds Try.pinned (OpenSpec.ofChange fnExactCutMarksSpec)

/-- ITS FALSE NEIGHBOUR: 'it returns false'. Refute it at one input. -/
def fnExactCutMarksWrong : ChangeSpec := { name := "fnExactCutMarks", fn := fun _ => fun
  | [d1, d2, d3, d4, d5] => { results := [.lit (.bool false)], args := [d1, d2, d3, d4, d5] }
  | _ => none }
def FnExactCutMarksWrongFalsely : Prop := fnExactCutMarksRow.holds Try.pinned (OpenSpec.ofChange fnExactCutMarksWrong)

/-- 'laws.FnExactCoveredBy': WHATEVER THE INPUT: true; the input reads as it did. -/
def fnExactCoveredBySpec : ChangeSpec := { name := "fnExactCoveredBy", fn := fun _ => fun
  | [d1, d2, d3] => { results := [.lit (.bool true)], args := [d1, d2, d3] }
  | _ => none }
def fnExactCoveredByRow : OpenClaim := { program := "ytknodkdlphngmax", sum := "6508f9555970728b7e098b6929fd2b075164f3ff99704157a121ee51a9ad4985", func := "loop.example/g00253/laws.FnExactCoveredBy", spec := "fnExactCoveredBy", plainKeys := false, apart := false }
def FnExactCoveredBySaid : Prop := fnExactCoveredByRow.holds Try.pinned (OpenSpec.ofChange fnExactCoveredBySpec)

/-- ITS FALSE NEIGHBOUR: 'it returns false'. Refute it at one input. -/
def fnExactCoveredByWrong : ChangeSpec := { name := "fnExactCoveredBy", fn := fun _ => fun
  | [d1, d2, d3] => { results := [.lit (.bool false)], args := [d1, d2, d3] }
  | _ => none }
def FnExactCoveredByWrongFalsely : Prop := fnExactCoveredByRow.holds Try.pinned (OpenSpec.ofChange fnExactCoveredByWrong)

/-- 'laws.FnExactGoodExpr': WHATEVER THE INPUT: true; the input reads as it did. -/
def fnExactGoodExprSpec : ChangeSpec := { name := "fnExactGoodExpr", fn := fun _ => fun
  | [d] => { results := [.lit (.bool true)], args := [d] }
  | _ => none }
def fnExactGoodExprRow : OpenClaim := { program := "ytknodkdlphngmax", sum := "6508f9555970728b7e098b6929fd2b075164f3ff99704157a121ee51a9ad4985", func := "loop.example/g00253/laws.FnExactGoodExpr", spec := "fnExactGoodExpr", inPlace := ["internal/bytealg.IndexByteString"], recurses := true, plainKeys := false, apart := false }
def FnExactGoodExprSaid : Prop := fnExactGoodExprRow.holds Try.pinned (OpenSpec.ofChange fnExactGoodExprSpec)

/-- ITS FALSE NEIGHBOUR: 'it returns false'. Refute it at one input. -/
def fnExactGoodExprWrong : ChangeSpec := { name := "fnExactGoodExpr", fn := fun _ => fun
  | [d] => { results := [.lit (.bool false)], args := [d] }
  | _ => none }
def FnExactGoodExprWrongFalsely : Prop := fnExactGoodExprRow.holds Try.pinned (OpenSpec.ofChange fnExactGoodExprWrong)

/-- 'laws.FnExactPlainExpr': WHATEVER THE INPUT: true; the input reads as it did. -/
def fnExactPlainExprSpec : ChangeSpec := { name := "fnExactPlainExpr", fn := fun _ => fun
  | [d] => { results := [.lit (.bool true)], args := [d] }
  | _ => none }
def fnExactPlainExprRow : OpenClaim := { program := "ytknodkdlphngmax", sum := "6508f9555970728b7e098b6929fd2b075164f3ff99704157a121ee51a9ad4985", func := "loop.example/g00253/laws.FnExactPlainExpr", spec := "fnExactPlainExpr", inPlace := ["internal/bytealg.IndexByteString"], recurses := true, plainKeys := false, apart := false }
def FnExactPlainExprSaid : Prop := fnExactPlainExprRow.holds Try.pinned (OpenSpec.ofChange fnExactPlainExprSpec)

/-- ITS FALSE NEIGHBOUR: 'it returns false'. Refute it at one input. -/
def fnExactPlainExprWrong : ChangeSpec := { name := "fnExactPlainExpr", fn := fun _ => fun
  | [d] => { results := [.lit (.bool false)], args := [d] }
  | _ => none }
def FnExactPlainExprWrongFalsely : Prop := fnExactPlainExprRow.holds Try.pinned (OpenSpec.ofChange fnExactPlainExprWrong)

/-- 'laws.FnExactNullableExpr': WHATEVER THE INPUT: true; the input reads as it did. -/
def fnExactNullableExprSpec : ChangeSpec := { name := "fnExactNullableExpr", fn := fun _ => fun
  | [d] => { results := [.lit (.bool true)], args := [d] }
  | _ => none }
def fnExactNullableExprRow : OpenClaim := { program := "ytknodkdlphngmax", sum := "6508f9555970728b7e098b6929fd2b075164f3ff99704157a121ee51a9ad4985", func := "loop.example/g00253/laws.FnExactNullableExpr", spec := "fnExactNullableExpr", inPlace := ["internal/bytealg.IndexByteString"], recurses := true, plainKeys := false, apart := false }
def FnExactNullableExprSaid : Prop := fnExactNullableExprRow.holds Try.pinned (OpenSpec.ofChange fnExactNullableExprSpec)

/-- ITS FALSE NEIGHBOUR: 'it returns false'. Refute it at one input. -/
def fnExactNullableExprWrong : ChangeSpec := { name := "fnExactNullableExpr", fn := fun _ => fun
  | [d] => { results := [.lit (.bool false)], args := [d] }
  | _ => none }
def FnExactNullableExprWrongFalsely : Prop := fnExactNullableExprRow.holds Try.pinned (OpenSpec.ofChange fnExactNullableExprWrong)

/-- 'laws.FnExactDeriveExpr': WHATEVER THE INPUT: true; the input reads as it did. -/
def fnExactDeriveExprSpec : ChangeSpec := { name := "fnExactDeriveExpr", fn := fun _ => fun
  | [d1, d2] => { results := [.lit (.bool true)], args := [d1, d2] }
  | _ => none }
def fnExactDeriveExprRow : OpenClaim := { program := "ytknodkdlphngmax", sum := "6508f9555970728b7e098b6929fd2b075164f3ff99704157a121ee51a9ad4985", func := "loop.example/g00253/laws.FnExactDeriveExpr", spec := "fnExactDeriveExpr", inPlace := ["internal/bytealg.IndexByteString"], recurses := true, plainKeys := false, apart := false }
def FnExactDeriveExprSaid : Prop := fnExactDeriveExprRow.holds Try.pinned (OpenSpec.ofChange fnExactDeriveExprSpec)

/-- ITS FALSE NEIGHBOUR: 'it returns false'. Refute it at one input. -/
def fnExactDeriveExprWrong : ChangeSpec := { name := "fnExactDeriveExpr", fn := fun _ => fun
  | [d1, d2] => { results := [.lit (.bool false)], args := [d1, d2] }
  | _ => none }
def FnExactDeriveExprWrongFalsely : Prop := fnExactDeriveExprRow.holds Try.pinned (OpenSpec.ofChange fnExactDeriveExprWrong)

/- THE SECOND FORM. 'bulk': how many values and letters a reading holds, each counted each time it is reached (what is shared counts as often as it is met; a slice's spare places count too). A statement '..UptoSaid' is the law's where the arguments, and the package variables that the reading takes, are together of bulk at most 1048576: NARROWER than '..Said'. Prove '..Said' where nothing that the law and all that it calls make is longer than what came in: it says more and counts as full. Else prove '..UptoSaid'. A law counts once. -/
mutual
def uptoBulk {H : Type} : DataW H → Nat
  | .lit (.string bytes) => bytes.length + 1
  | .lit _ => 1
  | .nil => 1
  | .ptr d => uptoBulk d + 1
  | .slice elems spare => uptoBulkAll elems + uptoBulkAll spare + 1
  | .agg parts => uptoBulkAll parts + 1
  | .iface _ d => uptoBulk d + 1
  | .map entries => uptoBulkEntries entries + 1
  | .held _ => 1
def uptoBulkAll {H : Type} : List (DataW H) → Nat
  | [] => 0
  | d :: r => uptoBulk d + uptoBulkAll r
def uptoBulkEntries {H : Type} : List (Lit × DataW H) → Nat
  | [] => 0
  | x :: r => uptoBulkEntry x + uptoBulkEntries r
def uptoBulkEntry {H : Type} : Lit × DataW H → Nat
  | (.string bytes, d) => bytes.length + uptoBulk d + 1
  | (_, d) => uptoBulk d + 1
 end
def uptoSmall : (H : Type) → List (DataW H) → Bool := fun _ ds => decide (uptoBulkAll ds ≤ 1048576)
def OpenSpec.upto (s : _root_.Go.ChangeSpec) : _root_.Go.OpenSpec := { _root_.Go.OpenSpec.ofChange s with cond := some uptoSmall }

/-- 'laws.FnExactCutMarks', WHERE WHAT IT READS IS OF BULK AT MOST 1048576: true; the input reads as it did. -/
def fnExactCutMarksUptoRow : OpenClaim := { program := "ytknodkdlphngmax", sum := "6508f9555970728b7e098b6929fd2b075164f3ff99704157a121ee51a9ad4985", func := "loop.example/g00253/laws.FnExactCutMarks", spec := "fnExactCutMarks", unfollowed := true, recurses := true, plainKeys := false, apart := false, narrowed := true }
def FnExactCutMarksUptoSaid : Prop := fnExactCutMarksUptoRow.holds Try.pinned (OpenSpec.upto fnExactCutMarksSpec)

/-- 'laws.FnExactCoveredBy', WHERE WHAT IT READS IS OF BULK AT MOST 1048576: true; the input reads as it did. -/
def fnExactCoveredByUptoRow : OpenClaim := { program := "ytknodkdlphngmax", sum := "6508f9555970728b7e098b6929fd2b075164f3ff99704157a121ee51a9ad4985", func := "loop.example/g00253/laws.FnExactCoveredBy", spec := "fnExactCoveredBy", plainKeys := false, apart := false, narrowed := true }
def FnExactCoveredByUptoSaid : Prop := fnExactCoveredByUptoRow.holds Try.pinned (OpenSpec.upto fnExactCoveredBySpec)

/-- 'laws.FnExactGoodExpr', WHERE WHAT IT READS IS OF BULK AT MOST 1048576: true; the input reads as it did. -/
def fnExactGoodExprUptoRow : OpenClaim := { program := "ytknodkdlphngmax", sum := "6508f9555970728b7e098b6929fd2b075164f3ff99704157a121ee51a9ad4985", func := "loop.example/g00253/laws.FnExactGoodExpr", spec := "fnExactGoodExpr", inPlace := ["internal/bytealg.IndexByteString"], recurses := true, plainKeys := false, apart := false, narrowed := true }
def FnExactGoodExprUptoSaid : Prop := fnExactGoodExprUptoRow.holds Try.pinned (OpenSpec.upto fnExactGoodExprSpec)

/-- 'laws.FnExactPlainExpr', WHERE WHAT IT READS IS OF BULK AT MOST 1048576: true; the input reads as it did. -/
def fnExactPlainExprUptoRow : OpenClaim := { program := "ytknodkdlphngmax", sum := "6508f9555970728b7e098b6929fd2b075164f3ff99704157a121ee51a9ad4985", func := "loop.example/g00253/laws.FnExactPlainExpr", spec := "fnExactPlainExpr", inPlace := ["internal/bytealg.IndexByteString"], recurses := true, plainKeys := false, apart := false, narrowed := true }
def FnExactPlainExprUptoSaid : Prop := fnExactPlainExprUptoRow.holds Try.pinned (OpenSpec.upto fnExactPlainExprSpec)

/-- 'laws.FnExactNullableExpr', WHERE WHAT IT READS IS OF BULK AT MOST 1048576: true; the input reads as it did. -/
def fnExactNullableExprUptoRow : OpenClaim := { program := "ytknodkdlphngmax", sum := "6508f9555970728b7e098b6929fd2b075164f3ff99704157a121ee51a9ad4985", func := "loop.example/g00253/laws.FnExactNullableExpr", spec := "fnExactNullableExpr", inPlace := ["internal/bytealg.IndexByteString"], recurses := true, plainKeys := false, apart := false, narrowed := true }
def FnExactNullableExprUptoSaid : Prop := fnExactNullableExprUptoRow.holds Try.pinned (OpenSpec.upto fnExactNullableExprSpec)

/-- 'laws.FnExactDeriveExpr', WHERE WHAT IT READS IS OF BULK AT MOST 1048576: true; the input reads as it did. -/
def fnExactDeriveExprUptoRow : OpenClaim := { program := "ytknodkdlphngmax", sum := "6508f9555970728b7e098b6929fd2b075164f3ff99704157a121ee51a9ad4985", func := "loop.example/g00253/laws.FnExactDeriveExpr", spec := "fnExactDeriveExpr", inPlace := ["internal/bytealg.IndexByteString"], recurses := true, plainKeys := false, apart := false, narrowed := true }
def FnExactDeriveExprUptoSaid : Prop := fnExactDeriveExprUptoRow.holds Try.pinned (OpenSpec.upto fnExactDeriveExprSpec)

end Rows
end Go.Proofs.Ytknodkdlphngmax
