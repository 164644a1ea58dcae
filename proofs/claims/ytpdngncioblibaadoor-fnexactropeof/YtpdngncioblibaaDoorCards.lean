/-
  DERIVED. GIVEN WITH THE SEED: THE CARDS: each row of YtpdngncioblibaaDoorRows.lean that lists a variable, with what it lists TIED to the program's text (the seventh form; the later family's looks); each row that meets fmt, with fmt's text TOLD by the authors' own Lean function (tested against real Go, not proved from fmt's source: count such statements apart). THE CARD IS WHAT COUNTS. Prove the row's statement (the work); the ties are given (YtpdngncioblibaaDoorTie.lean); close each card by the builder's one call (the guide's Derived/Test/ToyasCard.lean, 'card_holds'). Laid BY PROGRAM, IN A SANDBOX (cutbox-door.mjs). By AI agents, Wed Nov 11 2026. No macro, syntax, notation, axiom, sorry.
-/
import Derived.Test.YtpdngncioblibaaDoorRows
import GoSem.ClaimSeven
namespace Go.Proofs.YtpdngncioblibaaDoor
namespace Rows

/-- THE TIED CARD OF 'laws.FnRopes'. -/
def fnRopesCard : Claim7 := { stood := { row := fnRopesRow, standIns := [], harness := (true, "8720eb994553cd97862dde2e3b8caa7e0e007b91d63d5b455d7dd65517852e11"), looks := true }, kinds := [], alts := [], laidByText := true, laidKinds := [.data], laidTests := true, laidLooks := .later }
def FnRopesCardSaid : Prop := Claim7.holds Tryd.pinned (.plain (OpenSpec.ofChange fnRopesSpec)) fnRopesCard

/-- THE TIED CARD OF 'laws.FnSplit'. -/
def fnSplitCard : Claim7 := { stood := { row := fnSplitRow, standIns := [], harness := (true, "8720eb994553cd97862dde2e3b8caa7e0e007b91d63d5b455d7dd65517852e11"), looks := true }, kinds := [], alts := [], laidByText := true, laidKinds := [.data], laidTests := true, laidLooks := .later }
def FnSplitCardSaid : Prop := Claim7.holds Tryd.pinned (.plain (OpenSpec.ofChange fnSplitSpec)) fnSplitCard

/-- THE TIED CARD OF 'laws.FnBalanced'. -/
def fnBalancedCard : Claim7 := { stood := { row := fnBalancedRow, standIns := [], harness := (true, "8720eb994553cd97862dde2e3b8caa7e0e007b91d63d5b455d7dd65517852e11"), looks := true }, kinds := [], alts := [], laidByText := true, laidKinds := [.data], laidTests := true, laidLooks := .later }
def FnBalancedCardSaid : Prop := Claim7.holds Tryd.pinned (.plain (OpenSpec.ofChange fnBalancedSpec)) fnBalancedCard

/-- THE TIED CARD OF 'laws.FnExactRopeOf'. -/
def fnExactRopeOfCard : Claim7 := { stood := { row := fnExactRopeOfRow, standIns := [], harness := (true, "8720eb994553cd97862dde2e3b8caa7e0e007b91d63d5b455d7dd65517852e11"), looks := true }, kinds := [], alts := [], laidByText := true, laidKinds := [.data], laidTests := true, laidLooks := .later }
def FnExactRopeOfCardSaid : Prop := Claim7.holds Tryd.pinned (.plain (OpenSpec.ofChange fnExactRopeOfSpec)) fnExactRopeOfCard

/-- THE TIED CARD OF 'laws.FnExactGoodRope'. -/
def fnExactGoodRopeCard : Claim7 := { stood := { row := fnExactGoodRopeRow, standIns := [], harness := (true, "8720eb994553cd97862dde2e3b8caa7e0e007b91d63d5b455d7dd65517852e11"), looks := true }, kinds := [], alts := [], laidByText := true, laidKinds := [.data], laidTests := true, laidLooks := .later }
def FnExactGoodRopeCardSaid : Prop := Claim7.holds Tryd.pinned (.plain (OpenSpec.ofChange fnExactGoodRopeSpec)) fnExactGoodRopeCard

/-- THE TIED CARD OF 'laws.FnExactTextIn'. -/
def fnExactTextInCard : Claim7 := { stood := { row := fnExactTextInRow, standIns := [], harness := (true, "8720eb994553cd97862dde2e3b8caa7e0e007b91d63d5b455d7dd65517852e11"), looks := true }, kinds := [], alts := [], laidByText := true, laidKinds := [.data], laidTests := true, laidLooks := .later }
def FnExactTextInCardSaid : Prop := Claim7.holds Tryd.pinned (.plain (OpenSpec.ofChange fnExactTextInSpec)) fnExactTextInCard

/-- THE SECOND FORM's CARD OF 'laws.FnRopes'. -/
def fnRopesUptoCard : Claim7 := { stood := { row := fnRopesUptoRow, standIns := [], harness := (true, "8720eb994553cd97862dde2e3b8caa7e0e007b91d63d5b455d7dd65517852e11"), looks := true }, kinds := [], alts := [], laidByText := true, laidKinds := [.data], laidTests := true, laidLooks := .later }
def FnRopesUptoCardSaid : Prop := Claim7.holds Tryd.pinned (.plain (OpenSpec.upto fnRopesSpec)) fnRopesUptoCard

/-- THE SECOND FORM's CARD OF 'laws.FnSplit'. -/
def fnSplitUptoCard : Claim7 := { stood := { row := fnSplitUptoRow, standIns := [], harness := (true, "8720eb994553cd97862dde2e3b8caa7e0e007b91d63d5b455d7dd65517852e11"), looks := true }, kinds := [], alts := [], laidByText := true, laidKinds := [.data], laidTests := true, laidLooks := .later }
def FnSplitUptoCardSaid : Prop := Claim7.holds Tryd.pinned (.plain (OpenSpec.upto fnSplitSpec)) fnSplitUptoCard

/-- THE SECOND FORM's CARD OF 'laws.FnBalanced'. -/
def fnBalancedUptoCard : Claim7 := { stood := { row := fnBalancedUptoRow, standIns := [], harness := (true, "8720eb994553cd97862dde2e3b8caa7e0e007b91d63d5b455d7dd65517852e11"), looks := true }, kinds := [], alts := [], laidByText := true, laidKinds := [.data], laidTests := true, laidLooks := .later }
def FnBalancedUptoCardSaid : Prop := Claim7.holds Tryd.pinned (.plain (OpenSpec.upto fnBalancedSpec)) fnBalancedUptoCard

/-- THE SECOND FORM's CARD OF 'laws.FnExactRopeOf'. -/
def fnExactRopeOfUptoCard : Claim7 := { stood := { row := fnExactRopeOfUptoRow, standIns := [], harness := (true, "8720eb994553cd97862dde2e3b8caa7e0e007b91d63d5b455d7dd65517852e11"), looks := true }, kinds := [], alts := [], laidByText := true, laidKinds := [.data], laidTests := true, laidLooks := .later }
def FnExactRopeOfUptoCardSaid : Prop := Claim7.holds Tryd.pinned (.plain (OpenSpec.upto fnExactRopeOfSpec)) fnExactRopeOfUptoCard

/-- THE SECOND FORM's CARD OF 'laws.FnExactGoodRope'. -/
def fnExactGoodRopeUptoCard : Claim7 := { stood := { row := fnExactGoodRopeUptoRow, standIns := [], harness := (true, "8720eb994553cd97862dde2e3b8caa7e0e007b91d63d5b455d7dd65517852e11"), looks := true }, kinds := [], alts := [], laidByText := true, laidKinds := [.data], laidTests := true, laidLooks := .later }
def FnExactGoodRopeUptoCardSaid : Prop := Claim7.holds Tryd.pinned (.plain (OpenSpec.upto fnExactGoodRopeSpec)) fnExactGoodRopeUptoCard

/-- THE SECOND FORM's CARD OF 'laws.FnExactTextIn'. -/
def fnExactTextInUptoCard : Claim7 := { stood := { row := fnExactTextInUptoRow, standIns := [], harness := (true, "8720eb994553cd97862dde2e3b8caa7e0e007b91d63d5b455d7dd65517852e11"), looks := true }, kinds := [], alts := [], laidByText := true, laidKinds := [.data], laidTests := true, laidLooks := .later }
def FnExactTextInUptoCardSaid : Prop := Claim7.holds Tryd.pinned (.plain (OpenSpec.upto fnExactTextInSpec)) fnExactTextInUptoCard
end Rows
end Go.Proofs.YtpdngncioblibaaDoor
