/-
  DERIVED. GIVEN WITH THE SEED: THE CARDS: each row of YtpdngncioblibabDoorRows.lean that lists a variable, with what it lists TIED to the program's text (the seventh form; the later family's looks); each row that meets fmt, with fmt's text TOLD by the authors' own Lean function (tested against real Go, not proved from fmt's source: count such statements apart). THE CARD IS WHAT COUNTS. Prove the row's statement (the work); the ties are given (YtpdngncioblibabDoorTie.lean); close each card by the builder's one call (the guide's Derived/Test/ToyasCard.lean, 'card_holds'). Laid BY PROGRAM, IN A SANDBOX (cutbox-door.mjs). By AI agents, Wed Nov 11 2026. No macro, syntax, notation, axiom, sorry.
-/
import Derived.Test.YtpdngncioblibabDoorRows
import GoSem.ClaimSeven
namespace Go.Proofs.YtpdngncioblibabDoor
namespace Rows

/-- THE TIED CARD OF 'laws.FnExactByteAt'. -/
def fnExactByteAtCard : Claim7 := { stood := { row := fnExactByteAtRow, standIns := [], harness := (true, "d3ebe63c34382cca424830d2eb27bec0f0c59482e6115464d3a4a7bda1aad471"), looks := true }, kinds := [], alts := [], laidByText := true, laidKinds := [.data], laidTests := true, laidLooks := .later }
def FnExactByteAtCardSaid : Prop := Claim7.holds Tryd.pinned (.plain (OpenSpec.ofChange fnExactByteAtSpec)) fnExactByteAtCard

/-- THE TIED CARD OF 'laws.FnExactJoinRopes'. -/
def fnExactJoinRopesCard : Claim7 := { stood := { row := fnExactJoinRopesRow, standIns := [], harness := (true, "d3ebe63c34382cca424830d2eb27bec0f0c59482e6115464d3a4a7bda1aad471"), looks := true }, kinds := [], alts := [], laidByText := true, laidKinds := [.data], laidTests := true, laidLooks := .later }
def FnExactJoinRopesCardSaid : Prop := Claim7.holds Tryd.pinned (.plain (OpenSpec.ofChange fnExactJoinRopesSpec)) fnExactJoinRopesCard

/-- THE TIED CARD OF 'laws.FnExactSplitRope'. -/
def fnExactSplitRopeCard : Claim7 := { stood := { row := fnExactSplitRopeRow, standIns := [], harness := (true, "d3ebe63c34382cca424830d2eb27bec0f0c59482e6115464d3a4a7bda1aad471"), looks := true }, kinds := [], alts := [], laidByText := true, laidKinds := [.data], laidTests := true, laidLooks := .later }
def FnExactSplitRopeCardSaid : Prop := Claim7.holds Tryd.pinned (.plain (OpenSpec.ofChange fnExactSplitRopeSpec)) fnExactSplitRopeCard

/-- THE TIED CARD OF 'laws.FnExactEditRope'. -/
def fnExactEditRopeCard : Claim7 := { stood := { row := fnExactEditRopeRow, standIns := [], harness := (true, "d3ebe63c34382cca424830d2eb27bec0f0c59482e6115464d3a4a7bda1aad471"), looks := true }, kinds := [], alts := [], laidByText := true, laidKinds := [.data], laidTests := true, laidLooks := .later }
def FnExactEditRopeCardSaid : Prop := Claim7.holds Tryd.pinned (.plain (OpenSpec.ofChange fnExactEditRopeSpec)) fnExactEditRopeCard

/-- THE TIED CARD OF 'laws.FnExactIsBalanced'. -/
def fnExactIsBalancedCard : Claim7 := { stood := { row := fnExactIsBalancedRow, standIns := [], harness := (true, "d3ebe63c34382cca424830d2eb27bec0f0c59482e6115464d3a4a7bda1aad471"), looks := true }, kinds := [], alts := [], laidByText := true, laidKinds := [.data], laidTests := true, laidLooks := .later }
def FnExactIsBalancedCardSaid : Prop := Claim7.holds Tryd.pinned (.plain (OpenSpec.ofChange fnExactIsBalancedSpec)) fnExactIsBalancedCard

/-- THE TIED CARD OF 'laws.FnExactRebalance'. -/
def fnExactRebalanceCard : Claim7 := { stood := { row := fnExactRebalanceRow, standIns := [], harness := (true, "d3ebe63c34382cca424830d2eb27bec0f0c59482e6115464d3a4a7bda1aad471"), looks := true }, kinds := [], alts := [], laidByText := true, laidKinds := [.data], laidTests := true, laidLooks := .later }
def FnExactRebalanceCardSaid : Prop := Claim7.holds Tryd.pinned (.plain (OpenSpec.ofChange fnExactRebalanceSpec)) fnExactRebalanceCard

/-- THE SECOND FORM's CARD OF 'laws.FnExactByteAt'. -/
def fnExactByteAtUptoCard : Claim7 := { stood := { row := fnExactByteAtUptoRow, standIns := [], harness := (true, "d3ebe63c34382cca424830d2eb27bec0f0c59482e6115464d3a4a7bda1aad471"), looks := true }, kinds := [], alts := [], laidByText := true, laidKinds := [.data], laidTests := true, laidLooks := .later }
def FnExactByteAtUptoCardSaid : Prop := Claim7.holds Tryd.pinned (.plain (OpenSpec.upto fnExactByteAtSpec)) fnExactByteAtUptoCard

/-- THE SECOND FORM's CARD OF 'laws.FnExactJoinRopes'. -/
def fnExactJoinRopesUptoCard : Claim7 := { stood := { row := fnExactJoinRopesUptoRow, standIns := [], harness := (true, "d3ebe63c34382cca424830d2eb27bec0f0c59482e6115464d3a4a7bda1aad471"), looks := true }, kinds := [], alts := [], laidByText := true, laidKinds := [.data], laidTests := true, laidLooks := .later }
def FnExactJoinRopesUptoCardSaid : Prop := Claim7.holds Tryd.pinned (.plain (OpenSpec.upto fnExactJoinRopesSpec)) fnExactJoinRopesUptoCard

/-- THE SECOND FORM's CARD OF 'laws.FnExactSplitRope'. -/
def fnExactSplitRopeUptoCard : Claim7 := { stood := { row := fnExactSplitRopeUptoRow, standIns := [], harness := (true, "d3ebe63c34382cca424830d2eb27bec0f0c59482e6115464d3a4a7bda1aad471"), looks := true }, kinds := [], alts := [], laidByText := true, laidKinds := [.data], laidTests := true, laidLooks := .later }
def FnExactSplitRopeUptoCardSaid : Prop := Claim7.holds Tryd.pinned (.plain (OpenSpec.upto fnExactSplitRopeSpec)) fnExactSplitRopeUptoCard

/-- THE SECOND FORM's CARD OF 'laws.FnExactEditRope'. -/
def fnExactEditRopeUptoCard : Claim7 := { stood := { row := fnExactEditRopeUptoRow, standIns := [], harness := (true, "d3ebe63c34382cca424830d2eb27bec0f0c59482e6115464d3a4a7bda1aad471"), looks := true }, kinds := [], alts := [], laidByText := true, laidKinds := [.data], laidTests := true, laidLooks := .later }
def FnExactEditRopeUptoCardSaid : Prop := Claim7.holds Tryd.pinned (.plain (OpenSpec.upto fnExactEditRopeSpec)) fnExactEditRopeUptoCard

/-- THE SECOND FORM's CARD OF 'laws.FnExactIsBalanced'. -/
def fnExactIsBalancedUptoCard : Claim7 := { stood := { row := fnExactIsBalancedUptoRow, standIns := [], harness := (true, "d3ebe63c34382cca424830d2eb27bec0f0c59482e6115464d3a4a7bda1aad471"), looks := true }, kinds := [], alts := [], laidByText := true, laidKinds := [.data], laidTests := true, laidLooks := .later }
def FnExactIsBalancedUptoCardSaid : Prop := Claim7.holds Tryd.pinned (.plain (OpenSpec.upto fnExactIsBalancedSpec)) fnExactIsBalancedUptoCard

/-- THE SECOND FORM's CARD OF 'laws.FnExactRebalance'. -/
def fnExactRebalanceUptoCard : Claim7 := { stood := { row := fnExactRebalanceUptoRow, standIns := [], harness := (true, "d3ebe63c34382cca424830d2eb27bec0f0c59482e6115464d3a4a7bda1aad471"), looks := true }, kinds := [], alts := [], laidByText := true, laidKinds := [.data], laidTests := true, laidLooks := .later }
def FnExactRebalanceUptoCardSaid : Prop := Claim7.holds Tryd.pinned (.plain (OpenSpec.upto fnExactRebalanceSpec)) fnExactRebalanceUptoCard
end Rows
end Go.Proofs.YtpdngncioblibabDoor
