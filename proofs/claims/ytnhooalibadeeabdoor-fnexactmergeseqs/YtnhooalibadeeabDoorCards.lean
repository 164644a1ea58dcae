/-
  DERIVED. GIVEN WITH THE SEED: THE CARDS: each row of YtnhooalibadeeabDoorRows.lean that lists a variable, with what it lists TIED to the program's text (the seventh form; the later family's looks); each row that meets fmt, with fmt's text TOLD by the authors' own Lean function (tested against real Go, not proved from fmt's source: count such statements apart). THE CARD IS WHAT COUNTS. Prove the row's statement (the work); the ties are given (YtnhooalibadeeabDoorTie.lean); close each card by the builder's one call (the guide's Derived/Test/ToyasCard.lean, 'card_holds'). Laid BY PROGRAM, IN A SANDBOX (cutbox-door.mjs). By AI agents, Wed Nov 11 2026. No macro, syntax, notation, axiom, sorry.
-/
import Derived.Test.YtnhooalibadeeabDoorRows
import GoSem.ClaimSeven
namespace Go.Proofs.YtnhooalibadeeabDoor
namespace Rows

/-- THE TIED CARD OF 'laws.FnExactMergeSeqs'. -/
def fnExactMergeSeqsCard : Claim7 := { stood := { row := fnExactMergeSeqsRow, standIns := [], harness := (true, "838eca428c9d2d1dea69322eea59a1a6cffa0de54af64043b5d2025a26922a1a"), looks := false }, kinds := [], alts := [], laidByText := true, laidKinds := [.data], laidTests := true, laidLooks := .later }
def FnExactMergeSeqsCardSaid : Prop := Claim7.holds Tryd.pinned (.plain (OpenSpec.ofChange fnExactMergeSeqsSpec)) fnExactMergeSeqsCard

/-- THE TIED CARD OF 'laws.FnExactOrderOf'. -/
def fnExactOrderOfCard : Claim7 := { stood := { row := fnExactOrderOfRow, standIns := [], harness := (true, "838eca428c9d2d1dea69322eea59a1a6cffa0de54af64043b5d2025a26922a1a"), looks := false }, kinds := [], alts := [], laidByText := true, laidKinds := [.data], laidTests := true, laidLooks := .later }
def FnExactOrderOfCardSaid : Prop := Claim7.holds Tryd.pinned (.plain (OpenSpec.ofChange fnExactOrderOfSpec)) fnExactOrderOfCard

/-- THE TIED CARD OF 'laws.FnExactLessSeq'. -/
def fnExactLessSeqCard : Claim7 := { stood := { row := fnExactLessSeqRow, standIns := [], harness := (true, "838eca428c9d2d1dea69322eea59a1a6cffa0de54af64043b5d2025a26922a1a"), looks := false }, kinds := [], alts := [], laidByText := true, laidKinds := [.data], laidTests := true, laidLooks := .later }
def FnExactLessSeqCardSaid : Prop := Claim7.holds Tryd.pinned (.plain (OpenSpec.ofChange fnExactLessSeqSpec)) fnExactLessSeqCard

/-- THE SECOND FORM's CARD OF 'laws.FnExactMergeSeqs'. -/
def fnExactMergeSeqsUptoCard : Claim7 := { stood := { row := fnExactMergeSeqsUptoRow, standIns := [], harness := (true, "838eca428c9d2d1dea69322eea59a1a6cffa0de54af64043b5d2025a26922a1a"), looks := false }, kinds := [], alts := [], laidByText := true, laidKinds := [.data], laidTests := true, laidLooks := .later }
def FnExactMergeSeqsUptoCardSaid : Prop := Claim7.holds Tryd.pinned (.plain (OpenSpec.upto fnExactMergeSeqsSpec)) fnExactMergeSeqsUptoCard

/-- THE SECOND FORM's CARD OF 'laws.FnExactOrderOf'. -/
def fnExactOrderOfUptoCard : Claim7 := { stood := { row := fnExactOrderOfUptoRow, standIns := [], harness := (true, "838eca428c9d2d1dea69322eea59a1a6cffa0de54af64043b5d2025a26922a1a"), looks := false }, kinds := [], alts := [], laidByText := true, laidKinds := [.data], laidTests := true, laidLooks := .later }
def FnExactOrderOfUptoCardSaid : Prop := Claim7.holds Tryd.pinned (.plain (OpenSpec.upto fnExactOrderOfSpec)) fnExactOrderOfUptoCard

/-- THE SECOND FORM's CARD OF 'laws.FnExactLessSeq'. -/
def fnExactLessSeqUptoCard : Claim7 := { stood := { row := fnExactLessSeqUptoRow, standIns := [], harness := (true, "838eca428c9d2d1dea69322eea59a1a6cffa0de54af64043b5d2025a26922a1a"), looks := false }, kinds := [], alts := [], laidByText := true, laidKinds := [.data], laidTests := true, laidLooks := .later }
def FnExactLessSeqUptoCardSaid : Prop := Claim7.holds Tryd.pinned (.plain (OpenSpec.upto fnExactLessSeqSpec)) fnExactLessSeqUptoCard
end Rows
end Go.Proofs.YtnhooalibadeeabDoor
