/-
  DERIVED. GIVEN WITH THE SEED: THE CARDS: each row of YtknilofnelhgmabDoorRows.lean that lists a variable, with what it lists TIED to the program's text (the seventh form; the later family's looks); each row that meets fmt, with fmt's text TOLD by the authors' own Lean function (tested against real Go, not proved from fmt's source: count such statements apart). THE CARD IS WHAT COUNTS. Prove the row's statement (the work); the ties are given (YtknilofnelhgmabDoorTie.lean); close each card by the builder's one call (the guide's Derived/Test/ToyasCard.lean, 'card_holds'). Laid BY PROGRAM, IN A SANDBOX (cutbox-door.mjs). By AI agents, Wed Nov 11 2026. No macro, syntax, notation, axiom, sorry.
-/
import Derived.Test.YtknilofnelhgmabDoorRows
import GoSem.ClaimSeven
namespace Go.Proofs.YtknilofnelhgmabDoor
namespace Rows

/-- THE TIED CARD OF 'laws.FnExactSpliceOp'. -/
def fnExactSpliceOpCard : Claim7 := { stood := { row := fnExactSpliceOpRow, standIns := [], harness := (true, "76cfc1a947f9d4012fdaebd0a3910bff4783625cb3b036ebbaf3c60354108bf6"), looks := false }, kinds := [], alts := [], laidByText := true, laidKinds := [.data], laidTests := true, laidLooks := .later }
def FnExactSpliceOpCardSaid : Prop := Claim7.holds Tryd.pinned (.plain (OpenSpec.ofChange fnExactSpliceOpSpec)) fnExactSpliceOpCard

/-- THE TIED CARD OF 'laws.FnExactClashesOf'. -/
def fnExactClashesOfCard : Claim7 := { stood := { row := fnExactClashesOfRow, standIns := [], harness := (true, "76cfc1a947f9d4012fdaebd0a3910bff4783625cb3b036ebbaf3c60354108bf6"), looks := false }, kinds := [], alts := [], laidByText := true, laidKinds := [.data], laidTests := true, laidLooks := .later }
def FnExactClashesOfCardSaid : Prop := Claim7.holds Tryd.pinned (.plain (OpenSpec.ofChange fnExactClashesOfSpec)) fnExactClashesOfCard

/-- THE SECOND FORM's CARD OF 'laws.FnExactSpliceOp'. -/
def fnExactSpliceOpUptoCard : Claim7 := { stood := { row := fnExactSpliceOpUptoRow, standIns := [], harness := (true, "76cfc1a947f9d4012fdaebd0a3910bff4783625cb3b036ebbaf3c60354108bf6"), looks := false }, kinds := [], alts := [], laidByText := true, laidKinds := [.data], laidTests := true, laidLooks := .later }
def FnExactSpliceOpUptoCardSaid : Prop := Claim7.holds Tryd.pinned (.plain (OpenSpec.upto fnExactSpliceOpSpec)) fnExactSpliceOpUptoCard

/-- THE SECOND FORM's CARD OF 'laws.FnExactClashesOf'. -/
def fnExactClashesOfUptoCard : Claim7 := { stood := { row := fnExactClashesOfUptoRow, standIns := [], harness := (true, "76cfc1a947f9d4012fdaebd0a3910bff4783625cb3b036ebbaf3c60354108bf6"), looks := false }, kinds := [], alts := [], laidByText := true, laidKinds := [.data], laidTests := true, laidLooks := .later }
def FnExactClashesOfUptoCardSaid : Prop := Claim7.holds Tryd.pinned (.plain (OpenSpec.upto fnExactClashesOfSpec)) fnExactClashesOfUptoCard
end Rows
end Go.Proofs.YtknilofnelhgmabDoor
