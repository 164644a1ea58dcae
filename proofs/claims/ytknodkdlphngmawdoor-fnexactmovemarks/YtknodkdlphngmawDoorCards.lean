/-
  DERIVED. GIVEN WITH THE SEED: THE CARDS: each row of YtknodkdlphngmawDoorRows.lean that lists a variable, with what it lists TIED to the program's text (the seventh form; the later family's looks); each row that meets fmt, with fmt's text TOLD by the authors' own Lean function (tested against real Go, not proved from fmt's source: count such statements apart). THE CARD IS WHAT COUNTS. Prove the row's statement (the work); the ties are given (YtknodkdlphngmawDoorTie.lean); close each card by the builder's one call (the guide's Derived/Test/ToyasCard.lean, 'card_holds'). Laid BY PROGRAM, IN A SANDBOX (cutbox-door.mjs). By AI agents, Wed Nov 11 2026. No macro, syntax, notation, axiom, sorry.
-/
import Derived.Test.YtknodkdlphngmawDoorRows
import GoSem.ClaimSeven
namespace Go.Proofs.YtknodkdlphngmawDoor
namespace Rows

/-- THE TIED CARD OF 'laws.FnExactSameTexts'. -/
def fnExactSameTextsCard : Claim7 := { stood := { row := fnExactSameTextsRow, standIns := [], harness := (true, "4cd225e40a64c44441d73f353d86684ac388b689e24714e04fdeeaf5ef0a95a8"), looks := false }, kinds := [], alts := [], laidByText := true, laidKinds := [.data], laidTests := true, laidLooks := .later }
def FnExactSameTextsCardSaid : Prop := Claim7.holds Tryd.pinned (.plain (OpenSpec.ofChange fnExactSameTextsSpec)) fnExactSameTextsCard

/-- THE TIED CARD OF 'laws.FnExactMovePlace'. -/
def fnExactMovePlaceCard : Claim7 := { stood := { row := fnExactMovePlaceRow, standIns := [], harness := (true, "4cd225e40a64c44441d73f353d86684ac388b689e24714e04fdeeaf5ef0a95a8"), looks := false }, kinds := [], alts := [], laidByText := true, laidKinds := [.data], laidTests := true, laidLooks := .later }
def FnExactMovePlaceCardSaid : Prop := Claim7.holds Tryd.pinned (.plain (OpenSpec.ofChange fnExactMovePlaceSpec)) fnExactMovePlaceCard

/-- THE TIED CARD OF 'laws.FnExactMoveMarks'. -/
def fnExactMoveMarksCard : Claim7 := { stood := { row := fnExactMoveMarksRow, standIns := [], harness := (true, "4cd225e40a64c44441d73f353d86684ac388b689e24714e04fdeeaf5ef0a95a8"), looks := false }, kinds := [], alts := [], laidByText := true, laidKinds := [.data], laidTests := true, laidLooks := .later }
def FnExactMoveMarksCardSaid : Prop := Claim7.holds Tryd.pinned (.plain (OpenSpec.ofChange fnExactMoveMarksSpec)) fnExactMoveMarksCard

/-- THE SECOND FORM's CARD OF 'laws.FnExactSameTexts'. -/
def fnExactSameTextsUptoCard : Claim7 := { stood := { row := fnExactSameTextsUptoRow, standIns := [], harness := (true, "4cd225e40a64c44441d73f353d86684ac388b689e24714e04fdeeaf5ef0a95a8"), looks := false }, kinds := [], alts := [], laidByText := true, laidKinds := [.data], laidTests := true, laidLooks := .later }
def FnExactSameTextsUptoCardSaid : Prop := Claim7.holds Tryd.pinned (.plain (OpenSpec.upto fnExactSameTextsSpec)) fnExactSameTextsUptoCard

/-- THE SECOND FORM's CARD OF 'laws.FnExactMovePlace'. -/
def fnExactMovePlaceUptoCard : Claim7 := { stood := { row := fnExactMovePlaceUptoRow, standIns := [], harness := (true, "4cd225e40a64c44441d73f353d86684ac388b689e24714e04fdeeaf5ef0a95a8"), looks := false }, kinds := [], alts := [], laidByText := true, laidKinds := [.data], laidTests := true, laidLooks := .later }
def FnExactMovePlaceUptoCardSaid : Prop := Claim7.holds Tryd.pinned (.plain (OpenSpec.upto fnExactMovePlaceSpec)) fnExactMovePlaceUptoCard

/-- THE SECOND FORM's CARD OF 'laws.FnExactMoveMarks'. -/
def fnExactMoveMarksUptoCard : Claim7 := { stood := { row := fnExactMoveMarksUptoRow, standIns := [], harness := (true, "4cd225e40a64c44441d73f353d86684ac388b689e24714e04fdeeaf5ef0a95a8"), looks := false }, kinds := [], alts := [], laidByText := true, laidKinds := [.data], laidTests := true, laidLooks := .later }
def FnExactMoveMarksUptoCardSaid : Prop := Claim7.holds Tryd.pinned (.plain (OpenSpec.upto fnExactMoveMarksSpec)) fnExactMoveMarksUptoCard
end Rows
end Go.Proofs.YtknodkdlphngmawDoor
