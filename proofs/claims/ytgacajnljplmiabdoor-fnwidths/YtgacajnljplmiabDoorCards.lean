/-
  DERIVED. GIVEN WITH THE SEED: THE CARDS: each row of YtgacajnljplmiabDoorRows.lean that lists a variable, with what it lists TIED to the program's text (the seventh form; the later family's looks); each row that meets fmt, with fmt's text TOLD by the authors' own Lean function (tested against real Go, not proved from fmt's source: count such statements apart). THE CARD IS WHAT COUNTS. Prove the row's statement (the work); the ties are given (YtgacajnljplmiabDoorTie.lean); close each card by the builder's one call (the guide's Derived/Test/ToyasCard.lean, 'card_holds'). Laid BY PROGRAM, IN A SANDBOX (cutbox-door.mjs). By AI agents, Wed Nov 11 2026. No macro, syntax, notation, axiom, sorry.
-/
import Derived.Test.YtgacajnljplmiabDoorRows
import GoSem.ClaimSeven
namespace Go.Proofs.YtgacajnljplmiabDoor
namespace Rows

/-- THE TIED CARD OF 'laws.FnWidths'. -/
def fnWidthsCard : Claim7 := { stood := { row := fnWidthsRow, standIns := [], harness := (true, "fac626665ab743259c70ae80d9d7330e88ca0207d1e2920217d1dc06b77dc21c"), looks := true }, kinds := [], alts := [], laidByText := true, laidKinds := [.listed, .data, .data], laidTests := true, laidLooks := .later }
def FnWidthsCardSaid : Prop := Claim7.holds Tryd.pinned (.plain (OpenSpec.ofChange fnWidthsSpec)) fnWidthsCard

/-- THE TIED CARD OF 'laws.FnExactSplitRope'. -/
def fnExactSplitRopeCard : Claim7 := { stood := { row := fnExactSplitRopeRow, standIns := [], harness := (true, "fac626665ab743259c70ae80d9d7330e88ca0207d1e2920217d1dc06b77dc21c"), looks := true }, kinds := [], alts := [], laidByText := true, laidKinds := [.data], laidTests := true, laidLooks := .later }
def FnExactSplitRopeCardSaid : Prop := Claim7.holds Tryd.pinned (.plain (OpenSpec.ofChange fnExactSplitRopeSpec)) fnExactSplitRopeCard

/-- THE TIED CARD OF 'laws.FnExactEditRope'. -/
def fnExactEditRopeCard : Claim7 := { stood := { row := fnExactEditRopeRow, standIns := [], harness := (true, "fac626665ab743259c70ae80d9d7330e88ca0207d1e2920217d1dc06b77dc21c"), looks := true }, kinds := [], alts := [], laidByText := true, laidKinds := [.data], laidTests := true, laidLooks := .later }
def FnExactEditRopeCardSaid : Prop := Claim7.holds Tryd.pinned (.plain (OpenSpec.ofChange fnExactEditRopeSpec)) fnExactEditRopeCard

/-- THE TIED CARD OF 'laws.FnRopes'. -/
def fnRopesCard : Claim7 := { stood := { row := fnRopesRow, standIns := [], harness := (true, "fac626665ab743259c70ae80d9d7330e88ca0207d1e2920217d1dc06b77dc21c"), looks := true }, kinds := [], alts := [], laidByText := true, laidKinds := [.data], laidTests := true, laidLooks := .later }
def FnRopesCardSaid : Prop := Claim7.holds Tryd.pinned (.plain (OpenSpec.ofChange fnRopesSpec)) fnRopesCard

/-- THE TIED CARD OF 'laws.FnSplit'. -/
def fnSplitCard : Claim7 := { stood := { row := fnSplitRow, standIns := [], harness := (true, "fac626665ab743259c70ae80d9d7330e88ca0207d1e2920217d1dc06b77dc21c"), looks := true }, kinds := [], alts := [], laidByText := true, laidKinds := [.data], laidTests := true, laidLooks := .later }
def FnSplitCardSaid : Prop := Claim7.holds Tryd.pinned (.plain (OpenSpec.ofChange fnSplitSpec)) fnSplitCard

/-- THE TIED CARD OF 'laws.FnBalanced'. -/
def fnBalancedCard : Claim7 := { stood := { row := fnBalancedRow, standIns := [], harness := (true, "fac626665ab743259c70ae80d9d7330e88ca0207d1e2920217d1dc06b77dc21c"), looks := true }, kinds := [], alts := [], laidByText := true, laidKinds := [.data], laidTests := true, laidLooks := .later }
def FnBalancedCardSaid : Prop := Claim7.holds Tryd.pinned (.plain (OpenSpec.ofChange fnBalancedSpec)) fnBalancedCard

/-- THE SECOND FORM's CARD OF 'laws.FnWidths'. -/
def fnWidthsUptoCard : Claim7 := { stood := { row := fnWidthsUptoRow, standIns := [], harness := (true, "fac626665ab743259c70ae80d9d7330e88ca0207d1e2920217d1dc06b77dc21c"), looks := true }, kinds := [], alts := [], laidByText := true, laidKinds := [.listed, .data, .data], laidTests := true, laidLooks := .later }
def FnWidthsUptoCardSaid : Prop := Claim7.holds Tryd.pinned (.plain (OpenSpec.upto fnWidthsSpec)) fnWidthsUptoCard

/-- THE SECOND FORM's CARD OF 'laws.FnExactSplitRope'. -/
def fnExactSplitRopeUptoCard : Claim7 := { stood := { row := fnExactSplitRopeUptoRow, standIns := [], harness := (true, "fac626665ab743259c70ae80d9d7330e88ca0207d1e2920217d1dc06b77dc21c"), looks := true }, kinds := [], alts := [], laidByText := true, laidKinds := [.data], laidTests := true, laidLooks := .later }
def FnExactSplitRopeUptoCardSaid : Prop := Claim7.holds Tryd.pinned (.plain (OpenSpec.upto fnExactSplitRopeSpec)) fnExactSplitRopeUptoCard

/-- THE SECOND FORM's CARD OF 'laws.FnExactEditRope'. -/
def fnExactEditRopeUptoCard : Claim7 := { stood := { row := fnExactEditRopeUptoRow, standIns := [], harness := (true, "fac626665ab743259c70ae80d9d7330e88ca0207d1e2920217d1dc06b77dc21c"), looks := true }, kinds := [], alts := [], laidByText := true, laidKinds := [.data], laidTests := true, laidLooks := .later }
def FnExactEditRopeUptoCardSaid : Prop := Claim7.holds Tryd.pinned (.plain (OpenSpec.upto fnExactEditRopeSpec)) fnExactEditRopeUptoCard

/-- THE SECOND FORM's CARD OF 'laws.FnRopes'. -/
def fnRopesUptoCard : Claim7 := { stood := { row := fnRopesUptoRow, standIns := [], harness := (true, "fac626665ab743259c70ae80d9d7330e88ca0207d1e2920217d1dc06b77dc21c"), looks := true }, kinds := [], alts := [], laidByText := true, laidKinds := [.data], laidTests := true, laidLooks := .later }
def FnRopesUptoCardSaid : Prop := Claim7.holds Tryd.pinned (.plain (OpenSpec.upto fnRopesSpec)) fnRopesUptoCard

/-- THE SECOND FORM's CARD OF 'laws.FnSplit'. -/
def fnSplitUptoCard : Claim7 := { stood := { row := fnSplitUptoRow, standIns := [], harness := (true, "fac626665ab743259c70ae80d9d7330e88ca0207d1e2920217d1dc06b77dc21c"), looks := true }, kinds := [], alts := [], laidByText := true, laidKinds := [.data], laidTests := true, laidLooks := .later }
def FnSplitUptoCardSaid : Prop := Claim7.holds Tryd.pinned (.plain (OpenSpec.upto fnSplitSpec)) fnSplitUptoCard

/-- THE SECOND FORM's CARD OF 'laws.FnBalanced'. -/
def fnBalancedUptoCard : Claim7 := { stood := { row := fnBalancedUptoRow, standIns := [], harness := (true, "fac626665ab743259c70ae80d9d7330e88ca0207d1e2920217d1dc06b77dc21c"), looks := true }, kinds := [], alts := [], laidByText := true, laidKinds := [.data], laidTests := true, laidLooks := .later }
def FnBalancedUptoCardSaid : Prop := Claim7.holds Tryd.pinned (.plain (OpenSpec.upto fnBalancedSpec)) fnBalancedUptoCard
end Rows
end Go.Proofs.YtgacajnljplmiabDoor
