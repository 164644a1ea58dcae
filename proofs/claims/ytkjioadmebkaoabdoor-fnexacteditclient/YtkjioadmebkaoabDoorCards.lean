/-
  DERIVED. GIVEN WITH THE SEED: THE CARDS: each row of YtkjioadmebkaoabDoorRows.lean that lists a variable, with what it lists TIED to the program's text (the seventh form; the later family's looks); each row that meets fmt, with fmt's text TOLD by the authors' own Lean function (tested against real Go, not proved from fmt's source: count such statements apart). THE CARD IS WHAT COUNTS. Prove the row's statement (the work); the ties are given (YtkjioadmebkaoabDoorTie.lean); close each card by the builder's one call (the guide's Derived/Test/ToyasCard.lean, 'card_holds'). Laid BY PROGRAM, IN A SANDBOX (cutbox-door.mjs). By AI agents, Wed Nov 11 2026. No macro, syntax, notation, axiom, sorry.
-/
import Derived.Test.YtkjioadmebkaoabDoorRows
import GoSem.ClaimSeven
namespace Go.Proofs.YtkjioadmebkaoabDoor
namespace Rows

/-- THE TIED CARD OF 'laws.FnExactEditClient'. -/
def fnExactEditClientCard : Claim7 := { stood := { row := fnExactEditClientRow, standIns := [], harness := (true, "3492ce19cef57ca02bab334dba01767eb972bf8ca4bed313d5ea9308393341fa"), looks := false }, kinds := [], alts := [], laidByText := true, laidKinds := [.data], laidTests := true, laidLooks := .later }
def FnExactEditClientCardSaid : Prop := Claim7.holds Tryd.pinned (.plain (OpenSpec.ofChange fnExactEditClientSpec)) fnExactEditClientCard

/-- THE TIED CARD OF 'laws.FnExactAgreesWith'. -/
def fnExactAgreesWithCard : Claim7 := { stood := { row := fnExactAgreesWithRow, standIns := [], harness := (true, "3492ce19cef57ca02bab334dba01767eb972bf8ca4bed313d5ea9308393341fa"), looks := false }, kinds := [], alts := [], laidByText := true, laidKinds := [.data], laidTests := true, laidLooks := .later }
def FnExactAgreesWithCardSaid : Prop := Claim7.holds Tryd.pinned (.plain (OpenSpec.ofChange fnExactAgreesWithSpec)) fnExactAgreesWithCard

/-- THE TIED CARD OF 'laws.FnExactHearEntry'. -/
def fnExactHearEntryCard : Claim7 := { stood := { row := fnExactHearEntryRow, standIns := [], harness := (true, "3492ce19cef57ca02bab334dba01767eb972bf8ca4bed313d5ea9308393341fa"), looks := false }, kinds := [], alts := [], laidByText := true, laidKinds := [.data], laidTests := true, laidLooks := .later }
def FnExactHearEntryCardSaid : Prop := Claim7.holds Tryd.pinned (.plain (OpenSpec.ofChange fnExactHearEntrySpec)) fnExactHearEntryCard

/-- THE SECOND FORM's CARD OF 'laws.FnExactEditClient'. -/
def fnExactEditClientUptoCard : Claim7 := { stood := { row := fnExactEditClientUptoRow, standIns := [], harness := (true, "3492ce19cef57ca02bab334dba01767eb972bf8ca4bed313d5ea9308393341fa"), looks := false }, kinds := [], alts := [], laidByText := true, laidKinds := [.data], laidTests := true, laidLooks := .later }
def FnExactEditClientUptoCardSaid : Prop := Claim7.holds Tryd.pinned (.plain (OpenSpec.upto fnExactEditClientSpec)) fnExactEditClientUptoCard

/-- THE SECOND FORM's CARD OF 'laws.FnExactAgreesWith'. -/
def fnExactAgreesWithUptoCard : Claim7 := { stood := { row := fnExactAgreesWithUptoRow, standIns := [], harness := (true, "3492ce19cef57ca02bab334dba01767eb972bf8ca4bed313d5ea9308393341fa"), looks := false }, kinds := [], alts := [], laidByText := true, laidKinds := [.data], laidTests := true, laidLooks := .later }
def FnExactAgreesWithUptoCardSaid : Prop := Claim7.holds Tryd.pinned (.plain (OpenSpec.upto fnExactAgreesWithSpec)) fnExactAgreesWithUptoCard

/-- THE SECOND FORM's CARD OF 'laws.FnExactHearEntry'. -/
def fnExactHearEntryUptoCard : Claim7 := { stood := { row := fnExactHearEntryUptoRow, standIns := [], harness := (true, "3492ce19cef57ca02bab334dba01767eb972bf8ca4bed313d5ea9308393341fa"), looks := false }, kinds := [], alts := [], laidByText := true, laidKinds := [.data], laidTests := true, laidLooks := .later }
def FnExactHearEntryUptoCardSaid : Prop := Claim7.holds Tryd.pinned (.plain (OpenSpec.upto fnExactHearEntrySpec)) fnExactHearEntryUptoCard
end Rows
end Go.Proofs.YtkjioadmebkaoabDoor
