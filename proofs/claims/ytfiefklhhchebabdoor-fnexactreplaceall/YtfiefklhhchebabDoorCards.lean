/-
  DERIVED. GIVEN WITH THE SEED: THE CARDS: each row of YtfiefklhhchebabDoorRows.lean that lists a variable, with what it lists TIED to the program's text (the seventh form; the later family's looks); each row that meets fmt, with fmt's text TOLD by the authors' own Lean function (tested against real Go, not proved from fmt's source: count such statements apart). THE CARD IS WHAT COUNTS. Prove the row's statement (the work); the ties are given (YtfiefklhhchebabDoorTie.lean); close each card by the builder's one call (the guide's Derived/Test/ToyasCard.lean, 'card_holds'). Laid BY PROGRAM, IN A SANDBOX (cutbox-door.mjs). By AI agents, Wed Nov 11 2026. No macro, syntax, notation, axiom, sorry.
-/
import Derived.Test.YtfiefklhhchebabDoorRows
import GoSem.ClaimSeven
namespace Go.Proofs.YtfiefklhhchebabDoor
namespace Rows

/-- THE TIED CARD OF 'laws.FnExactPeriodOf'. -/
def fnExactPeriodOfCard : Claim7 := { stood := { row := fnExactPeriodOfRow, standIns := [], harness := (true, "9c797cf879bc5d8b121b2bb2d452343d74402df9b880bb1643b1fee0c6761967"), looks := false }, kinds := [], alts := [], laidByText := true, laidKinds := [.data], laidTests := true, laidLooks := .later }
def FnExactPeriodOfCardSaid : Prop := Claim7.holds Tryd.pinned (.plain (OpenSpec.ofChange fnExactPeriodOfSpec)) fnExactPeriodOfCard

/-- THE TIED CARD OF 'laws.FnExactReplaceAll'. -/
def fnExactReplaceAllCard : Claim7 := { stood := { row := fnExactReplaceAllRow, standIns := [], harness := (true, "9c797cf879bc5d8b121b2bb2d452343d74402df9b880bb1643b1fee0c6761967"), looks := false }, kinds := [], alts := [], laidByText := true, laidKinds := [.data], laidTests := true, laidLooks := .later }
def FnExactReplaceAllCardSaid : Prop := Claim7.holds Tryd.pinned (.plain (OpenSpec.ofChange fnExactReplaceAllSpec)) fnExactReplaceAllCard

/-- THE TIED CARD OF 'laws.FnExactReplaceOp'. -/
def fnExactReplaceOpCard : Claim7 := { stood := { row := fnExactReplaceOpRow, standIns := [], harness := (true, "9c797cf879bc5d8b121b2bb2d452343d74402df9b880bb1643b1fee0c6761967"), looks := false }, kinds := [], alts := [], laidByText := true, laidKinds := [.data], laidTests := true, laidLooks := .later }
def FnExactReplaceOpCardSaid : Prop := Claim7.holds Tryd.pinned (.plain (OpenSpec.ofChange fnExactReplaceOpSpec)) fnExactReplaceOpCard

/-- THE SECOND FORM's CARD OF 'laws.FnExactPeriodOf'. -/
def fnExactPeriodOfUptoCard : Claim7 := { stood := { row := fnExactPeriodOfUptoRow, standIns := [], harness := (true, "9c797cf879bc5d8b121b2bb2d452343d74402df9b880bb1643b1fee0c6761967"), looks := false }, kinds := [], alts := [], laidByText := true, laidKinds := [.data], laidTests := true, laidLooks := .later }
def FnExactPeriodOfUptoCardSaid : Prop := Claim7.holds Tryd.pinned (.plain (OpenSpec.upto fnExactPeriodOfSpec)) fnExactPeriodOfUptoCard

/-- THE SECOND FORM's CARD OF 'laws.FnExactReplaceAll'. -/
def fnExactReplaceAllUptoCard : Claim7 := { stood := { row := fnExactReplaceAllUptoRow, standIns := [], harness := (true, "9c797cf879bc5d8b121b2bb2d452343d74402df9b880bb1643b1fee0c6761967"), looks := false }, kinds := [], alts := [], laidByText := true, laidKinds := [.data], laidTests := true, laidLooks := .later }
def FnExactReplaceAllUptoCardSaid : Prop := Claim7.holds Tryd.pinned (.plain (OpenSpec.upto fnExactReplaceAllSpec)) fnExactReplaceAllUptoCard

/-- THE SECOND FORM's CARD OF 'laws.FnExactReplaceOp'. -/
def fnExactReplaceOpUptoCard : Claim7 := { stood := { row := fnExactReplaceOpUptoRow, standIns := [], harness := (true, "9c797cf879bc5d8b121b2bb2d452343d74402df9b880bb1643b1fee0c6761967"), looks := false }, kinds := [], alts := [], laidByText := true, laidKinds := [.data], laidTests := true, laidLooks := .later }
def FnExactReplaceOpUptoCardSaid : Prop := Claim7.holds Tryd.pinned (.plain (OpenSpec.upto fnExactReplaceOpSpec)) fnExactReplaceOpUptoCard
end Rows
end Go.Proofs.YtfiefklhhchebabDoor
