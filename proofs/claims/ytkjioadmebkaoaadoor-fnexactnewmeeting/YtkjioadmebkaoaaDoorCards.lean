/-
  DERIVED. GIVEN WITH THE SEED: THE CARDS: each row of YtkjioadmebkaoaaDoorRows.lean that lists a variable, with what it lists TIED to the program's text (the seventh form; the later family's looks); each row that meets fmt, with fmt's text TOLD by the authors' own Lean function (tested against real Go, not proved from fmt's source: count such statements apart). THE CARD IS WHAT COUNTS. Prove the row's statement (the work); the ties are given (YtkjioadmebkaoaaDoorTie.lean); close each card by the builder's one call (the guide's Derived/Test/ToyasCard.lean, 'card_holds'). Laid BY PROGRAM, IN A SANDBOX (cutbox-door.mjs). By AI agents, Wed Nov 11 2026. No macro, syntax, notation, axiom, sorry.
-/
import Derived.Test.YtkjioadmebkaoaaDoorRows
import GoSem.ClaimSeven
namespace Go.Proofs.YtkjioadmebkaoaaDoor
namespace Rows

/-- THE TIED CARD OF 'laws.FnRopes'. -/
def fnRopesCard : Claim7 := { stood := { row := fnRopesRow, standIns := [], harness := (true, "9d074c5ea740abc83293068859d8a930d3dd1d74c9be7e59ad18ed7dae3525a4"), looks := true }, kinds := [], alts := [], laidByText := true, laidKinds := [.data], laidTests := true, laidLooks := .later }
def FnRopesCardSaid : Prop := Claim7.holds Tryd.pinned (.plain (OpenSpec.ofChange fnRopesSpec)) fnRopesCard

/-- THE TIED CARD OF 'laws.FnSplit'. -/
def fnSplitCard : Claim7 := { stood := { row := fnSplitRow, standIns := [], harness := (true, "9d074c5ea740abc83293068859d8a930d3dd1d74c9be7e59ad18ed7dae3525a4"), looks := true }, kinds := [], alts := [], laidByText := true, laidKinds := [.data], laidTests := true, laidLooks := .later }
def FnSplitCardSaid : Prop := Claim7.holds Tryd.pinned (.plain (OpenSpec.ofChange fnSplitSpec)) fnSplitCard

/-- THE TIED CARD OF 'laws.FnUndone'. -/
def fnUndoneCard : Claim7 := { stood := { row := fnUndoneRow, standIns := [], harness := (true, "9d074c5ea740abc83293068859d8a930d3dd1d74c9be7e59ad18ed7dae3525a4"), looks := true }, kinds := [], alts := [], laidByText := true, laidKinds := [.data], laidTests := true, laidLooks := .later }
def FnUndoneCardSaid : Prop := Claim7.holds Tryd.pinned (.plain (OpenSpec.ofChange fnUndoneSpec)) fnUndoneCard

/-- THE TIED CARD OF 'laws.FnLines'. -/
def fnLinesCard : Claim7 := { stood := { row := fnLinesRow, standIns := [], harness := (true, "9d074c5ea740abc83293068859d8a930d3dd1d74c9be7e59ad18ed7dae3525a4"), looks := true }, kinds := [], alts := [], laidByText := true, laidKinds := [.data, .data, .pinned], laidTests := true, laidLooks := .later }
def FnLinesCardSaid : Prop := Claim7.holds Tryd.pinned (.plain (OpenSpec.ofChange fnLinesSpec)) fnLinesCard

/-- THE TIED CARD OF 'laws.FnExactNewMeeting'. -/
def fnExactNewMeetingCard : Claim7 := { stood := { row := fnExactNewMeetingRow, standIns := [], harness := (true, "9d074c5ea740abc83293068859d8a930d3dd1d74c9be7e59ad18ed7dae3525a4"), looks := true }, kinds := [], alts := [], laidByText := true, laidKinds := [.data], laidTests := true, laidLooks := .later }
def FnExactNewMeetingCardSaid : Prop := Claim7.holds Tryd.pinned (.plain (OpenSpec.ofChange fnExactNewMeetingSpec)) fnExactNewMeetingCard

/-- THE TIED CARD OF 'laws.FnExactGoodMeeting'. -/
def fnExactGoodMeetingCard : Claim7 := { stood := { row := fnExactGoodMeetingRow, standIns := [], harness := (true, "9d074c5ea740abc83293068859d8a930d3dd1d74c9be7e59ad18ed7dae3525a4"), looks := true }, kinds := [], alts := [], laidByText := true, laidKinds := [.data], laidTests := true, laidLooks := .later }
def FnExactGoodMeetingCardSaid : Prop := Claim7.holds Tryd.pinned (.plain (OpenSpec.ofChange fnExactGoodMeetingSpec)) fnExactGoodMeetingCard

/-- THE SECOND FORM's CARD OF 'laws.FnRopes'. -/
def fnRopesUptoCard : Claim7 := { stood := { row := fnRopesUptoRow, standIns := [], harness := (true, "9d074c5ea740abc83293068859d8a930d3dd1d74c9be7e59ad18ed7dae3525a4"), looks := true }, kinds := [], alts := [], laidByText := true, laidKinds := [.data], laidTests := true, laidLooks := .later }
def FnRopesUptoCardSaid : Prop := Claim7.holds Tryd.pinned (.plain (OpenSpec.upto fnRopesSpec)) fnRopesUptoCard

/-- THE SECOND FORM's CARD OF 'laws.FnSplit'. -/
def fnSplitUptoCard : Claim7 := { stood := { row := fnSplitUptoRow, standIns := [], harness := (true, "9d074c5ea740abc83293068859d8a930d3dd1d74c9be7e59ad18ed7dae3525a4"), looks := true }, kinds := [], alts := [], laidByText := true, laidKinds := [.data], laidTests := true, laidLooks := .later }
def FnSplitUptoCardSaid : Prop := Claim7.holds Tryd.pinned (.plain (OpenSpec.upto fnSplitSpec)) fnSplitUptoCard

/-- THE SECOND FORM's CARD OF 'laws.FnUndone'. -/
def fnUndoneUptoCard : Claim7 := { stood := { row := fnUndoneUptoRow, standIns := [], harness := (true, "9d074c5ea740abc83293068859d8a930d3dd1d74c9be7e59ad18ed7dae3525a4"), looks := true }, kinds := [], alts := [], laidByText := true, laidKinds := [.data], laidTests := true, laidLooks := .later }
def FnUndoneUptoCardSaid : Prop := Claim7.holds Tryd.pinned (.plain (OpenSpec.upto fnUndoneSpec)) fnUndoneUptoCard

/-- THE SECOND FORM's CARD OF 'laws.FnLines'. -/
def fnLinesUptoCard : Claim7 := { stood := { row := fnLinesUptoRow, standIns := [], harness := (true, "9d074c5ea740abc83293068859d8a930d3dd1d74c9be7e59ad18ed7dae3525a4"), looks := true }, kinds := [], alts := [], laidByText := true, laidKinds := [.data, .data, .pinned], laidTests := true, laidLooks := .later }
def FnLinesUptoCardSaid : Prop := Claim7.holds Tryd.pinned (.plain (OpenSpec.upto fnLinesSpec)) fnLinesUptoCard

/-- THE SECOND FORM's CARD OF 'laws.FnExactNewMeeting'. -/
def fnExactNewMeetingUptoCard : Claim7 := { stood := { row := fnExactNewMeetingUptoRow, standIns := [], harness := (true, "9d074c5ea740abc83293068859d8a930d3dd1d74c9be7e59ad18ed7dae3525a4"), looks := true }, kinds := [], alts := [], laidByText := true, laidKinds := [.data], laidTests := true, laidLooks := .later }
def FnExactNewMeetingUptoCardSaid : Prop := Claim7.holds Tryd.pinned (.plain (OpenSpec.upto fnExactNewMeetingSpec)) fnExactNewMeetingUptoCard

/-- THE SECOND FORM's CARD OF 'laws.FnExactGoodMeeting'. -/
def fnExactGoodMeetingUptoCard : Claim7 := { stood := { row := fnExactGoodMeetingUptoRow, standIns := [], harness := (true, "9d074c5ea740abc83293068859d8a930d3dd1d74c9be7e59ad18ed7dae3525a4"), looks := true }, kinds := [], alts := [], laidByText := true, laidKinds := [.data], laidTests := true, laidLooks := .later }
def FnExactGoodMeetingUptoCardSaid : Prop := Claim7.holds Tryd.pinned (.plain (OpenSpec.upto fnExactGoodMeetingSpec)) fnExactGoodMeetingUptoCard
end Rows
end Go.Proofs.YtkjioadmebkaoaaDoor
