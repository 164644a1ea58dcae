/-
  DERIVED. GIVEN WITH THE SEED: THE CARDS: each row of YtbmnciejaknonasDoorRows.lean that lists a variable, with what it lists TIED to the program's text (the seventh form; the later family's looks); each row that meets fmt, with fmt's text TOLD by the authors' own Lean function (tested against real Go, not proved from fmt's source: count such statements apart). THE CARD IS WHAT COUNTS. Prove the row's statement (the work); the ties are given (YtbmnciejaknonasDoorTie.lean); close each card by the builder's one call (the guide's Derived/Test/ToyasCard.lean, 'card_holds'). Laid BY PROGRAM, IN A SANDBOX (cutbox-door.mjs). By AI agents, Wed Nov 11 2026. No macro, syntax, notation, axiom, sorry.
-/
import Derived.Test.YtbmnciejaknonasDoorRows
import GoSem.ClaimSeven
namespace Go.Proofs.YtbmnciejaknonasDoor
namespace Rows

/-- THE TIED CARD OF 'laws.FnExactPlainOf'. -/
def fnExactPlainOfCard : Claim7 := { stood := { row := fnExactPlainOfRow, standIns := [], harness := (true, "eea9c1a01073c855c0606f759bc29cc7a77424e96ad110317e1b171b120555d4"), looks := false }, kinds := [], alts := [], laidByText := true, laidKinds := [.data], laidTests := true, laidLooks := .later }
def FnExactPlainOfCardSaid : Prop := Claim7.holds Tryd.pinned (.plain (OpenSpec.ofChange fnExactPlainOfSpec)) fnExactPlainOfCard

/-- THE TIED CARD OF 'laws.FnExactOutlineOf'. -/
def fnExactOutlineOfCard : Claim7 := { stood := { row := fnExactOutlineOfRow, standIns := [], harness := (true, "eea9c1a01073c855c0606f759bc29cc7a77424e96ad110317e1b171b120555d4"), looks := false }, kinds := [], alts := [], laidByText := true, laidKinds := [.data], laidTests := true, laidLooks := .later }
def FnExactOutlineOfCardSaid : Prop := Claim7.holds Tryd.pinned (.plain (OpenSpec.ofChange fnExactOutlineOfSpec)) fnExactOutlineOfCard

/-- THE TIED CARD OF 'laws.FnExactCountOf'. -/
def fnExactCountOfCard : Claim7 := { stood := { row := fnExactCountOfRow, standIns := [], harness := (true, "eea9c1a01073c855c0606f759bc29cc7a77424e96ad110317e1b171b120555d4"), looks := false }, kinds := [], alts := [], laidByText := true, laidKinds := [.data], laidTests := true, laidLooks := .later }
def FnExactCountOfCardSaid : Prop := Claim7.holds Tryd.pinned (.plain (OpenSpec.ofChange fnExactCountOfSpec)) fnExactCountOfCard

/-- THE TIED CARD OF 'laws.FnExactInnerOf'. -/
def fnExactInnerOfCard : Claim7 := { stood := { row := fnExactInnerOfRow, standIns := [], harness := (true, "eea9c1a01073c855c0606f759bc29cc7a77424e96ad110317e1b171b120555d4"), looks := false }, kinds := [], alts := [], laidByText := true, laidKinds := [.data], laidTests := true, laidLooks := .later }
def FnExactInnerOfCardSaid : Prop := Claim7.holds Tryd.pinned (.plain (OpenSpec.ofChange fnExactInnerOfSpec)) fnExactInnerOfCard

/-- THE TIED CARD OF 'laws.FnExactSafePlace'. -/
def fnExactSafePlaceCard : Claim7 := { stood := { row := fnExactSafePlaceRow, standIns := [], harness := (true, "eea9c1a01073c855c0606f759bc29cc7a77424e96ad110317e1b171b120555d4"), looks := false }, kinds := [], alts := [], laidByText := true, laidKinds := [.data], laidTests := true, laidLooks := .later }
def FnExactSafePlaceCardSaid : Prop := Claim7.holds Tryd.pinned (.plain (OpenSpec.ofChange fnExactSafePlaceSpec)) fnExactSafePlaceCard

/-- THE TIED CARD OF 'laws.FnExactTreeOf'. -/
def fnExactTreeOfCard : Claim7 := { stood := { row := fnExactTreeOfRow, standIns := [], harness := (true, "eea9c1a01073c855c0606f759bc29cc7a77424e96ad110317e1b171b120555d4"), looks := false }, kinds := [], alts := [], laidByText := true, laidKinds := [.data], laidTests := true, laidLooks := .later }
def FnExactTreeOfCardSaid : Prop := Claim7.holds Tryd.pinned (.plain (OpenSpec.ofChange fnExactTreeOfSpec)) fnExactTreeOfCard

/-- THE SECOND FORM's CARD OF 'laws.FnExactPlainOf'. -/
def fnExactPlainOfUptoCard : Claim7 := { stood := { row := fnExactPlainOfUptoRow, standIns := [], harness := (true, "eea9c1a01073c855c0606f759bc29cc7a77424e96ad110317e1b171b120555d4"), looks := false }, kinds := [], alts := [], laidByText := true, laidKinds := [.data], laidTests := true, laidLooks := .later }
def FnExactPlainOfUptoCardSaid : Prop := Claim7.holds Tryd.pinned (.plain (OpenSpec.upto fnExactPlainOfSpec)) fnExactPlainOfUptoCard

/-- THE SECOND FORM's CARD OF 'laws.FnExactOutlineOf'. -/
def fnExactOutlineOfUptoCard : Claim7 := { stood := { row := fnExactOutlineOfUptoRow, standIns := [], harness := (true, "eea9c1a01073c855c0606f759bc29cc7a77424e96ad110317e1b171b120555d4"), looks := false }, kinds := [], alts := [], laidByText := true, laidKinds := [.data], laidTests := true, laidLooks := .later }
def FnExactOutlineOfUptoCardSaid : Prop := Claim7.holds Tryd.pinned (.plain (OpenSpec.upto fnExactOutlineOfSpec)) fnExactOutlineOfUptoCard

/-- THE SECOND FORM's CARD OF 'laws.FnExactCountOf'. -/
def fnExactCountOfUptoCard : Claim7 := { stood := { row := fnExactCountOfUptoRow, standIns := [], harness := (true, "eea9c1a01073c855c0606f759bc29cc7a77424e96ad110317e1b171b120555d4"), looks := false }, kinds := [], alts := [], laidByText := true, laidKinds := [.data], laidTests := true, laidLooks := .later }
def FnExactCountOfUptoCardSaid : Prop := Claim7.holds Tryd.pinned (.plain (OpenSpec.upto fnExactCountOfSpec)) fnExactCountOfUptoCard

/-- THE SECOND FORM's CARD OF 'laws.FnExactInnerOf'. -/
def fnExactInnerOfUptoCard : Claim7 := { stood := { row := fnExactInnerOfUptoRow, standIns := [], harness := (true, "eea9c1a01073c855c0606f759bc29cc7a77424e96ad110317e1b171b120555d4"), looks := false }, kinds := [], alts := [], laidByText := true, laidKinds := [.data], laidTests := true, laidLooks := .later }
def FnExactInnerOfUptoCardSaid : Prop := Claim7.holds Tryd.pinned (.plain (OpenSpec.upto fnExactInnerOfSpec)) fnExactInnerOfUptoCard

/-- THE SECOND FORM's CARD OF 'laws.FnExactSafePlace'. -/
def fnExactSafePlaceUptoCard : Claim7 := { stood := { row := fnExactSafePlaceUptoRow, standIns := [], harness := (true, "eea9c1a01073c855c0606f759bc29cc7a77424e96ad110317e1b171b120555d4"), looks := false }, kinds := [], alts := [], laidByText := true, laidKinds := [.data], laidTests := true, laidLooks := .later }
def FnExactSafePlaceUptoCardSaid : Prop := Claim7.holds Tryd.pinned (.plain (OpenSpec.upto fnExactSafePlaceSpec)) fnExactSafePlaceUptoCard

/-- THE SECOND FORM's CARD OF 'laws.FnExactTreeOf'. -/
def fnExactTreeOfUptoCard : Claim7 := { stood := { row := fnExactTreeOfUptoRow, standIns := [], harness := (true, "eea9c1a01073c855c0606f759bc29cc7a77424e96ad110317e1b171b120555d4"), looks := false }, kinds := [], alts := [], laidByText := true, laidKinds := [.data], laidTests := true, laidLooks := .later }
def FnExactTreeOfUptoCardSaid : Prop := Claim7.holds Tryd.pinned (.plain (OpenSpec.upto fnExactTreeOfSpec)) fnExactTreeOfUptoCard
end Rows
end Go.Proofs.YtbmnciejaknonasDoor
