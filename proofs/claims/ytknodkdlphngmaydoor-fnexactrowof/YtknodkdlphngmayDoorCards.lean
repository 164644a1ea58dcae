/-
  DERIVED. GIVEN WITH THE SEED: THE CARDS: each row of YtknodkdlphngmayDoorRows.lean that lists a variable, with what it lists TIED to the program's text (the seventh form; the later family's looks); each row that meets fmt, with fmt's text TOLD by the authors' own Lean function (tested against real Go, not proved from fmt's source: count such statements apart). THE CARD IS WHAT COUNTS. Prove the row's statement (the work); the ties are given (YtknodkdlphngmayDoorTie.lean); close each card by the builder's one call (the guide's Derived/Test/ToyasCard.lean, 'card_holds'). Laid BY PROGRAM, IN A SANDBOX (cutbox-door.mjs). By AI agents, Wed Nov 11 2026. No macro, syntax, notation, axiom, sorry.
-/
import Derived.Test.YtknodkdlphngmayDoorRows
import GoSem.ClaimSeven
namespace Go.Proofs.YtknodkdlphngmayDoor
namespace Rows

/-- THE TIED CARD OF 'laws.FnExactMatchExpr'. -/
def fnExactMatchExprCard : Claim7 := { stood := { row := fnExactMatchExprRow, standIns := [], harness := (true, "9342145e6d1d35657934f72c1a087f5d27af64d576b20e714617d1c4efe73c3f"), looks := false }, kinds := [], alts := [], laidByText := true, laidKinds := [.data], laidTests := true, laidLooks := .later }
def FnExactMatchExprCardSaid : Prop := Claim7.holds Tryd.pinned (.plain (OpenSpec.ofChange fnExactMatchExprSpec)) fnExactMatchExprCard

/-- THE TIED CARD OF 'laws.FnExactGoodSchema'. -/
def fnExactGoodSchemaCard : Claim7 := { stood := { row := fnExactGoodSchemaRow, standIns := [], harness := (true, "9342145e6d1d35657934f72c1a087f5d27af64d576b20e714617d1c4efe73c3f"), looks := false }, kinds := [], alts := [], laidByText := true, laidKinds := [.data], laidTests := true, laidLooks := .later }
def FnExactGoodSchemaCardSaid : Prop := Claim7.holds Tryd.pinned (.plain (OpenSpec.ofChange fnExactGoodSchemaSpec)) fnExactGoodSchemaCard

/-- THE TIED CARD OF 'laws.FnExactRowOf'. -/
def fnExactRowOfCard : Claim7 := { stood := { row := fnExactRowOfRow, standIns := [], harness := (true, "9342145e6d1d35657934f72c1a087f5d27af64d576b20e714617d1c4efe73c3f"), looks := false }, kinds := [], alts := [], laidByText := true, laidKinds := [.data], laidTests := true, laidLooks := .later }
def FnExactRowOfCardSaid : Prop := Claim7.holds Tryd.pinned (.plain (OpenSpec.ofChange fnExactRowOfSpec)) fnExactRowOfCard

/-- THE SECOND FORM's CARD OF 'laws.FnExactMatchExpr'. -/
def fnExactMatchExprUptoCard : Claim7 := { stood := { row := fnExactMatchExprUptoRow, standIns := [], harness := (true, "9342145e6d1d35657934f72c1a087f5d27af64d576b20e714617d1c4efe73c3f"), looks := false }, kinds := [], alts := [], laidByText := true, laidKinds := [.data], laidTests := true, laidLooks := .later }
def FnExactMatchExprUptoCardSaid : Prop := Claim7.holds Tryd.pinned (.plain (OpenSpec.upto fnExactMatchExprSpec)) fnExactMatchExprUptoCard

/-- THE SECOND FORM's CARD OF 'laws.FnExactGoodSchema'. -/
def fnExactGoodSchemaUptoCard : Claim7 := { stood := { row := fnExactGoodSchemaUptoRow, standIns := [], harness := (true, "9342145e6d1d35657934f72c1a087f5d27af64d576b20e714617d1c4efe73c3f"), looks := false }, kinds := [], alts := [], laidByText := true, laidKinds := [.data], laidTests := true, laidLooks := .later }
def FnExactGoodSchemaUptoCardSaid : Prop := Claim7.holds Tryd.pinned (.plain (OpenSpec.upto fnExactGoodSchemaSpec)) fnExactGoodSchemaUptoCard

/-- THE SECOND FORM's CARD OF 'laws.FnExactRowOf'. -/
def fnExactRowOfUptoCard : Claim7 := { stood := { row := fnExactRowOfUptoRow, standIns := [], harness := (true, "9342145e6d1d35657934f72c1a087f5d27af64d576b20e714617d1c4efe73c3f"), looks := false }, kinds := [], alts := [], laidByText := true, laidKinds := [.data], laidTests := true, laidLooks := .later }
def FnExactRowOfUptoCardSaid : Prop := Claim7.holds Tryd.pinned (.plain (OpenSpec.upto fnExactRowOfSpec)) fnExactRowOfUptoCard
end Rows
end Go.Proofs.YtknodkdlphngmayDoor
