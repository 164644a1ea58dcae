/-
  DERIVED. GIVEN WITH THE SEED: THE CARDS: each row of YtbooongkbninhaaDoorRows.lean that lists a variable, with what it lists TIED to the program's text (the seventh form; the later family's looks); each row that meets fmt, with fmt's text TOLD by the authors' own Lean function (tested against real Go, not proved from fmt's source: count such statements apart). THE CARD IS WHAT COUNTS. Prove the row's statement (the work); the ties are given (YtbooongkbninhaaDoorTie.lean); close each card by the builder's one call (the guide's Derived/Test/ToyasCard.lean, 'card_holds'). Laid BY PROGRAM, IN A SANDBOX (cutbox-door.mjs). By AI agents, Wed Nov 11 2026. No macro, syntax, notation, axiom, sorry.
-/
import Derived.Test.YtbooongkbninhaaDoorRows
import GoSem.ClaimSeven
namespace Go.Proofs.YtbooongkbninhaaDoor
namespace Rows

/-- THE TIED CARD OF 'laws.FnMarks'. -/
def fnMarksCard : Claim7 := { stood := { row := fnMarksRow, standIns := [], harness := (true, "b972e3df56a30c368fb4677f22a3a8fa67385cc7c22cd8d266993f6d32363aee"), looks := false }, kinds := [], alts := [], laidByText := true, laidKinds := [.data], laidTests := true, laidLooks := .later }
def FnMarksCardSaid : Prop := Claim7.holds Tryd.pinned (.plain (OpenSpec.ofChange fnMarksSpec)) fnMarksCard

/-- THE TIED CARD OF 'laws.FnExactMergeThree'. -/
def fnExactMergeThreeCard : Claim7 := { stood := { row := fnExactMergeThreeRow, standIns := [], harness := (true, "b972e3df56a30c368fb4677f22a3a8fa67385cc7c22cd8d266993f6d32363aee"), looks := false }, kinds := [], alts := [], laidByText := true, laidKinds := [.data], laidTests := true, laidLooks := .later }
def FnExactMergeThreeCardSaid : Prop := Claim7.holds Tryd.pinned (.plain (OpenSpec.ofChange fnExactMergeThreeSpec)) fnExactMergeThreeCard

/-- THE TIED CARD OF 'laws.FnExactSideOf'. -/
def fnExactSideOfCard : Claim7 := { stood := { row := fnExactSideOfRow, standIns := [], harness := (true, "b972e3df56a30c368fb4677f22a3a8fa67385cc7c22cd8d266993f6d32363aee"), looks := false }, kinds := [], alts := [], laidByText := true, laidKinds := [.data], laidTests := true, laidLooks := .later }
def FnExactSideOfCardSaid : Prop := Claim7.holds Tryd.pinned (.plain (OpenSpec.ofChange fnExactSideOfSpec)) fnExactSideOfCard

/-- THE SECOND FORM's CARD OF 'laws.FnMarks'. -/
def fnMarksUptoCard : Claim7 := { stood := { row := fnMarksUptoRow, standIns := [], harness := (true, "b972e3df56a30c368fb4677f22a3a8fa67385cc7c22cd8d266993f6d32363aee"), looks := false }, kinds := [], alts := [], laidByText := true, laidKinds := [.data], laidTests := true, laidLooks := .later }
def FnMarksUptoCardSaid : Prop := Claim7.holds Tryd.pinned (.plain (OpenSpec.upto fnMarksSpec)) fnMarksUptoCard

/-- THE SECOND FORM's CARD OF 'laws.FnExactMergeThree'. -/
def fnExactMergeThreeUptoCard : Claim7 := { stood := { row := fnExactMergeThreeUptoRow, standIns := [], harness := (true, "b972e3df56a30c368fb4677f22a3a8fa67385cc7c22cd8d266993f6d32363aee"), looks := false }, kinds := [], alts := [], laidByText := true, laidKinds := [.data], laidTests := true, laidLooks := .later }
def FnExactMergeThreeUptoCardSaid : Prop := Claim7.holds Tryd.pinned (.plain (OpenSpec.upto fnExactMergeThreeSpec)) fnExactMergeThreeUptoCard

/-- THE SECOND FORM's CARD OF 'laws.FnExactSideOf'. -/
def fnExactSideOfUptoCard : Claim7 := { stood := { row := fnExactSideOfUptoRow, standIns := [], harness := (true, "b972e3df56a30c368fb4677f22a3a8fa67385cc7c22cd8d266993f6d32363aee"), looks := false }, kinds := [], alts := [], laidByText := true, laidKinds := [.data], laidTests := true, laidLooks := .later }
def FnExactSideOfUptoCardSaid : Prop := Claim7.holds Tryd.pinned (.plain (OpenSpec.upto fnExactSideOfSpec)) fnExactSideOfUptoCard
end Rows
end Go.Proofs.YtbooongkbninhaaDoor
