/-
  DERIVED. GIVEN WITH THE SEED: THE CARDS: each row of YtbmnciejaknonarDoorRows.lean that lists a variable, with what it lists TIED to the program's text (the seventh form; the later family's looks); each row that meets fmt, with fmt's text TOLD by the authors' own Lean function (tested against real Go, not proved from fmt's source: count such statements apart). THE CARD IS WHAT COUNTS. Prove the row's statement (the work); the ties are given (YtbmnciejaknonarDoorTie.lean); close each card by the builder's one call (the guide's Derived/Test/ToyasCard.lean, 'card_holds'). Laid BY PROGRAM, IN A SANDBOX (cutbox-door.mjs). By AI agents, Wed Nov 11 2026. No macro, syntax, notation, axiom, sorry.
-/
import Derived.Test.YtbmnciejaknonarDoorRows
import GoSem.ClaimSeven
namespace Go.Proofs.YtbmnciejaknonarDoor
namespace Rows

/-- THE TIED CARD OF 'laws.FnExactGoodText'. -/
def fnExactGoodTextCard : Claim7 := { stood := { row := fnExactGoodTextRow, standIns := [], harness := (true, "a2ffeee74f98d693a54fa98e6843d037bffde6d91a3f2c7ffdc8250ff073ac7e"), looks := false }, kinds := [], alts := [], laidByText := true, laidKinds := [.data], laidTests := true, laidLooks := .later }
def FnExactGoodTextCardSaid : Prop := Claim7.holds Tryd.pinned (.plain (OpenSpec.ofChange fnExactGoodTextSpec)) fnExactGoodTextCard

/-- THE TIED CARD OF 'laws.FnExactGoodDoc'. -/
def fnExactGoodDocCard : Claim7 := { stood := { row := fnExactGoodDocRow, standIns := [], harness := (true, "a2ffeee74f98d693a54fa98e6843d037bffde6d91a3f2c7ffdc8250ff073ac7e"), looks := false }, kinds := [], alts := [], laidByText := true, laidKinds := [.data], laidTests := true, laidLooks := .later }
def FnExactGoodDocCardSaid : Prop := Claim7.holds Tryd.pinned (.plain (OpenSpec.ofChange fnExactGoodDocSpec)) fnExactGoodDocCard

/-- THE TIED CARD OF 'laws.FnExactDepthAt'. -/
def fnExactDepthAtCard : Claim7 := { stood := { row := fnExactDepthAtRow, standIns := [], harness := (true, "a2ffeee74f98d693a54fa98e6843d037bffde6d91a3f2c7ffdc8250ff073ac7e"), looks := false }, kinds := [], alts := [], laidByText := true, laidKinds := [.data], laidTests := true, laidLooks := .later }
def FnExactDepthAtCardSaid : Prop := Claim7.holds Tryd.pinned (.plain (OpenSpec.ofChange fnExactDepthAtSpec)) fnExactDepthAtCard

/-- THE TIED CARD OF 'laws.FnExactMatchOf'. -/
def fnExactMatchOfCard : Claim7 := { stood := { row := fnExactMatchOfRow, standIns := [], harness := (true, "a2ffeee74f98d693a54fa98e6843d037bffde6d91a3f2c7ffdc8250ff073ac7e"), looks := false }, kinds := [], alts := [], laidByText := true, laidKinds := [.data], laidTests := true, laidLooks := .later }
def FnExactMatchOfCardSaid : Prop := Claim7.holds Tryd.pinned (.plain (OpenSpec.ofChange fnExactMatchOfSpec)) fnExactMatchOfCard

/-- THE SECOND FORM's CARD OF 'laws.FnExactGoodText'. -/
def fnExactGoodTextUptoCard : Claim7 := { stood := { row := fnExactGoodTextUptoRow, standIns := [], harness := (true, "a2ffeee74f98d693a54fa98e6843d037bffde6d91a3f2c7ffdc8250ff073ac7e"), looks := false }, kinds := [], alts := [], laidByText := true, laidKinds := [.data], laidTests := true, laidLooks := .later }
def FnExactGoodTextUptoCardSaid : Prop := Claim7.holds Tryd.pinned (.plain (OpenSpec.upto fnExactGoodTextSpec)) fnExactGoodTextUptoCard

/-- THE SECOND FORM's CARD OF 'laws.FnExactGoodDoc'. -/
def fnExactGoodDocUptoCard : Claim7 := { stood := { row := fnExactGoodDocUptoRow, standIns := [], harness := (true, "a2ffeee74f98d693a54fa98e6843d037bffde6d91a3f2c7ffdc8250ff073ac7e"), looks := false }, kinds := [], alts := [], laidByText := true, laidKinds := [.data], laidTests := true, laidLooks := .later }
def FnExactGoodDocUptoCardSaid : Prop := Claim7.holds Tryd.pinned (.plain (OpenSpec.upto fnExactGoodDocSpec)) fnExactGoodDocUptoCard

/-- THE SECOND FORM's CARD OF 'laws.FnExactDepthAt'. -/
def fnExactDepthAtUptoCard : Claim7 := { stood := { row := fnExactDepthAtUptoRow, standIns := [], harness := (true, "a2ffeee74f98d693a54fa98e6843d037bffde6d91a3f2c7ffdc8250ff073ac7e"), looks := false }, kinds := [], alts := [], laidByText := true, laidKinds := [.data], laidTests := true, laidLooks := .later }
def FnExactDepthAtUptoCardSaid : Prop := Claim7.holds Tryd.pinned (.plain (OpenSpec.upto fnExactDepthAtSpec)) fnExactDepthAtUptoCard

/-- THE SECOND FORM's CARD OF 'laws.FnExactMatchOf'. -/
def fnExactMatchOfUptoCard : Claim7 := { stood := { row := fnExactMatchOfUptoRow, standIns := [], harness := (true, "a2ffeee74f98d693a54fa98e6843d037bffde6d91a3f2c7ffdc8250ff073ac7e"), looks := false }, kinds := [], alts := [], laidByText := true, laidKinds := [.data], laidTests := true, laidLooks := .later }
def FnExactMatchOfUptoCardSaid : Prop := Claim7.holds Tryd.pinned (.plain (OpenSpec.upto fnExactMatchOfSpec)) fnExactMatchOfUptoCard
end Rows
end Go.Proofs.YtbmnciejaknonarDoor
