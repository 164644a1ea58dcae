/-
  DERIVED. GIVEN WITH THE SEED: THE CARDS: each row of YtbmnciejaknonauDoorRows.lean that lists a variable, with what it lists TIED to the program's text (the seventh form; the later family's looks); each row that meets fmt, with fmt's text TOLD by the authors' own Lean function (tested against real Go, not proved from fmt's source: count such statements apart). THE CARD IS WHAT COUNTS. Prove the row's statement (the work); the ties are given (YtbmnciejaknonauDoorTie.lean); close each card by the builder's one call (the guide's Derived/Test/ToyasCard.lean, 'card_holds'). Laid BY PROGRAM, IN A SANDBOX (cutbox-door.mjs). By AI agents, Wed Nov 11 2026. No macro, syntax, notation, axiom, sorry.
-/
import Derived.Test.YtbmnciejaknonauDoorRows
import GoSem.ClaimSeven
namespace Go.Proofs.YtbmnciejaknonauDoor
namespace Rows

/-- THE TIED CARD OF 'laws.FnExactCutNode'. -/
def fnExactCutNodeCard : Claim7 := { stood := { row := fnExactCutNodeRow, standIns := [], harness := (true, "f8f7a651794ef80b7bbab6bd32c3b8b9f62842c549dceddeec1c448171007592"), looks := true }, kinds := [], alts := [], laidByText := true, laidKinds := [.data], laidTests := true, laidLooks := .later }
def FnExactCutNodeCardSaid : Prop := Claim7.holds Tryd.pinned (.plain (OpenSpec.ofChange fnExactCutNodeSpec)) fnExactCutNodeCard

/-- THE TIED CARD OF 'laws.FnExactGoodOp'. -/
def fnExactGoodOpCard : Claim7 := { stood := { row := fnExactGoodOpRow, standIns := [], harness := (true, "f8f7a651794ef80b7bbab6bd32c3b8b9f62842c549dceddeec1c448171007592"), looks := true }, kinds := [], alts := [], laidByText := true, laidKinds := [.data], laidTests := true, laidLooks := .later }
def FnExactGoodOpCardSaid : Prop := Claim7.holds Tryd.pinned (.plain (OpenSpec.ofChange fnExactGoodOpSpec)) fnExactGoodOpCard

/-- THE TIED CARD OF 'laws.FnExactSizesOf'. -/
def fnExactSizesOfCard : Claim7 := { stood := { row := fnExactSizesOfRow, standIns := [], harness := (true, "f8f7a651794ef80b7bbab6bd32c3b8b9f62842c549dceddeec1c448171007592"), looks := true }, kinds := [], alts := [], laidByText := true, laidKinds := [.data], laidTests := true, laidLooks := .later }
def FnExactSizesOfCardSaid : Prop := Claim7.holds Tryd.pinned (.plain (OpenSpec.ofChange fnExactSizesOfSpec)) fnExactSizesOfCard

/-- THE TIED CARD OF 'laws.FnExactNormalOp'. -/
def fnExactNormalOpCard : Claim7 := { stood := { row := fnExactNormalOpRow, standIns := [], harness := (true, "f8f7a651794ef80b7bbab6bd32c3b8b9f62842c549dceddeec1c448171007592"), looks := true }, kinds := [], alts := [], laidByText := true, laidKinds := [.data], laidTests := true, laidLooks := .later }
def FnExactNormalOpCardSaid : Prop := Claim7.holds Tryd.pinned (.plain (OpenSpec.ofChange fnExactNormalOpSpec)) fnExactNormalOpCard

/-- THE TIED CARD OF 'laws.FnExactApplyOp'. -/
def fnExactApplyOpCard : Claim7 := { stood := { row := fnExactApplyOpRow, standIns := [], harness := (true, "f8f7a651794ef80b7bbab6bd32c3b8b9f62842c549dceddeec1c448171007592"), looks := true }, kinds := [], alts := [], laidByText := true, laidKinds := [.data], laidTests := true, laidLooks := .later }
def FnExactApplyOpCardSaid : Prop := Claim7.holds Tryd.pinned (.plain (OpenSpec.ofChange fnExactApplyOpSpec)) fnExactApplyOpCard

/-- THE TIED CARD OF 'laws.FnExactInvertOp'. -/
def fnExactInvertOpCard : Claim7 := { stood := { row := fnExactInvertOpRow, standIns := [], harness := (true, "f8f7a651794ef80b7bbab6bd32c3b8b9f62842c549dceddeec1c448171007592"), looks := true }, kinds := [], alts := [], laidByText := true, laidKinds := [.data], laidTests := true, laidLooks := .later }
def FnExactInvertOpCardSaid : Prop := Claim7.holds Tryd.pinned (.plain (OpenSpec.ofChange fnExactInvertOpSpec)) fnExactInvertOpCard

/-- THE SECOND FORM's CARD OF 'laws.FnExactCutNode'. -/
def fnExactCutNodeUptoCard : Claim7 := { stood := { row := fnExactCutNodeUptoRow, standIns := [], harness := (true, "f8f7a651794ef80b7bbab6bd32c3b8b9f62842c549dceddeec1c448171007592"), looks := true }, kinds := [], alts := [], laidByText := true, laidKinds := [.data], laidTests := true, laidLooks := .later }
def FnExactCutNodeUptoCardSaid : Prop := Claim7.holds Tryd.pinned (.plain (OpenSpec.upto fnExactCutNodeSpec)) fnExactCutNodeUptoCard

/-- THE SECOND FORM's CARD OF 'laws.FnExactGoodOp'. -/
def fnExactGoodOpUptoCard : Claim7 := { stood := { row := fnExactGoodOpUptoRow, standIns := [], harness := (true, "f8f7a651794ef80b7bbab6bd32c3b8b9f62842c549dceddeec1c448171007592"), looks := true }, kinds := [], alts := [], laidByText := true, laidKinds := [.data], laidTests := true, laidLooks := .later }
def FnExactGoodOpUptoCardSaid : Prop := Claim7.holds Tryd.pinned (.plain (OpenSpec.upto fnExactGoodOpSpec)) fnExactGoodOpUptoCard

/-- THE SECOND FORM's CARD OF 'laws.FnExactSizesOf'. -/
def fnExactSizesOfUptoCard : Claim7 := { stood := { row := fnExactSizesOfUptoRow, standIns := [], harness := (true, "f8f7a651794ef80b7bbab6bd32c3b8b9f62842c549dceddeec1c448171007592"), looks := true }, kinds := [], alts := [], laidByText := true, laidKinds := [.data], laidTests := true, laidLooks := .later }
def FnExactSizesOfUptoCardSaid : Prop := Claim7.holds Tryd.pinned (.plain (OpenSpec.upto fnExactSizesOfSpec)) fnExactSizesOfUptoCard

/-- THE SECOND FORM's CARD OF 'laws.FnExactNormalOp'. -/
def fnExactNormalOpUptoCard : Claim7 := { stood := { row := fnExactNormalOpUptoRow, standIns := [], harness := (true, "f8f7a651794ef80b7bbab6bd32c3b8b9f62842c549dceddeec1c448171007592"), looks := true }, kinds := [], alts := [], laidByText := true, laidKinds := [.data], laidTests := true, laidLooks := .later }
def FnExactNormalOpUptoCardSaid : Prop := Claim7.holds Tryd.pinned (.plain (OpenSpec.upto fnExactNormalOpSpec)) fnExactNormalOpUptoCard

/-- THE SECOND FORM's CARD OF 'laws.FnExactApplyOp'. -/
def fnExactApplyOpUptoCard : Claim7 := { stood := { row := fnExactApplyOpUptoRow, standIns := [], harness := (true, "f8f7a651794ef80b7bbab6bd32c3b8b9f62842c549dceddeec1c448171007592"), looks := true }, kinds := [], alts := [], laidByText := true, laidKinds := [.data], laidTests := true, laidLooks := .later }
def FnExactApplyOpUptoCardSaid : Prop := Claim7.holds Tryd.pinned (.plain (OpenSpec.upto fnExactApplyOpSpec)) fnExactApplyOpUptoCard

/-- THE SECOND FORM's CARD OF 'laws.FnExactInvertOp'. -/
def fnExactInvertOpUptoCard : Claim7 := { stood := { row := fnExactInvertOpUptoRow, standIns := [], harness := (true, "f8f7a651794ef80b7bbab6bd32c3b8b9f62842c549dceddeec1c448171007592"), looks := true }, kinds := [], alts := [], laidByText := true, laidKinds := [.data], laidTests := true, laidLooks := .later }
def FnExactInvertOpUptoCardSaid : Prop := Claim7.holds Tryd.pinned (.plain (OpenSpec.upto fnExactInvertOpSpec)) fnExactInvertOpUptoCard
end Rows
end Go.Proofs.YtbmnciejaknonauDoor
