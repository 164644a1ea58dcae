/-
  DERIVED. GIVEN WITH THE SEED: THE CARDS: each row of YtinciandgfngjaaDoorRows.lean that lists a variable, with what it lists TIED to the program's text (the seventh form; the later family's looks); each row that meets fmt, with fmt's text TOLD by the authors' own Lean function (tested against real Go, not proved from fmt's source: count such statements apart). THE CARD IS WHAT COUNTS. Prove the row's statement (the work); the ties are given (YtinciandgfngjaaDoorTie.lean); close each card by the builder's one call (the guide's Derived/Test/ToyasCard.lean, 'card_holds'). Laid BY PROGRAM, IN A SANDBOX (cutbox-door.mjs). By AI agents, Wed Nov 11 2026. No macro, syntax, notation, axiom, sorry.
-/
import Derived.Test.YtinciandgfngjaaDoorRows
import GoSem.ClaimSeven
namespace Go.Proofs.YtinciandgfngjaaDoor
namespace Rows

/-- THE TIED CARD OF 'laws.FnExactDistanceOf'. -/
def fnExactDistanceOfCard : Claim7 := { stood := { row := fnExactDistanceOfRow, standIns := [], harness := (true, "6bbb74372a21fc334eec3cdfaf0d58d2da88ac58406c0e9a65413a4173f9b997"), looks := false }, kinds := [], alts := [], laidByText := true, laidKinds := [.data], laidTests := true, laidLooks := .later }
def FnExactDistanceOfCardSaid : Prop := Claim7.holds Tryd.pinned (.plain (OpenSpec.ofChange fnExactDistanceOfSpec)) fnExactDistanceOfCard

/-- THE TIED CARD OF 'laws.FnExactCommonOf'. -/
def fnExactCommonOfCard : Claim7 := { stood := { row := fnExactCommonOfRow, standIns := [], harness := (true, "6bbb74372a21fc334eec3cdfaf0d58d2da88ac58406c0e9a65413a4173f9b997"), looks := false }, kinds := [], alts := [], laidByText := true, laidKinds := [.data], laidTests := true, laidLooks := .later }
def FnExactCommonOfCardSaid : Prop := Claim7.holds Tryd.pinned (.plain (OpenSpec.ofChange fnExactCommonOfSpec)) fnExactCommonOfCard

/-- THE TIED CARD OF 'laws.FnExactDiffOps'. -/
def fnExactDiffOpsCard : Claim7 := { stood := { row := fnExactDiffOpsRow, standIns := [], harness := (true, "6bbb74372a21fc334eec3cdfaf0d58d2da88ac58406c0e9a65413a4173f9b997"), looks := false }, kinds := [], alts := [], laidByText := true, laidKinds := [.data], laidTests := true, laidLooks := .later }
def FnExactDiffOpsCardSaid : Prop := Claim7.holds Tryd.pinned (.plain (OpenSpec.ofChange fnExactDiffOpsSpec)) fnExactDiffOpsCard

/-- THE TIED CARD OF 'laws.FnExactCostOf'. -/
def fnExactCostOfCard : Claim7 := { stood := { row := fnExactCostOfRow, standIns := [], harness := (true, "6bbb74372a21fc334eec3cdfaf0d58d2da88ac58406c0e9a65413a4173f9b997"), looks := false }, kinds := [], alts := [], laidByText := true, laidKinds := [.data], laidTests := true, laidLooks := .later }
def FnExactCostOfCardSaid : Prop := Claim7.holds Tryd.pinned (.plain (OpenSpec.ofChange fnExactCostOfSpec)) fnExactCostOfCard

/-- THE TIED CARD OF 'laws.FnExactEditsOf'. -/
def fnExactEditsOfCard : Claim7 := { stood := { row := fnExactEditsOfRow, standIns := [], harness := (true, "6bbb74372a21fc334eec3cdfaf0d58d2da88ac58406c0e9a65413a4173f9b997"), looks := false }, kinds := [], alts := [], laidByText := true, laidKinds := [.data], laidTests := true, laidLooks := .later }
def FnExactEditsOfCardSaid : Prop := Claim7.holds Tryd.pinned (.plain (OpenSpec.ofChange fnExactEditsOfSpec)) fnExactEditsOfCard

/-- THE TIED CARD OF 'laws.FnExactIsWithin'. -/
def fnExactIsWithinCard : Claim7 := { stood := { row := fnExactIsWithinRow, standIns := [], harness := (true, "6bbb74372a21fc334eec3cdfaf0d58d2da88ac58406c0e9a65413a4173f9b997"), looks := false }, kinds := [], alts := [], laidByText := true, laidKinds := [.data], laidTests := true, laidLooks := .later }
def FnExactIsWithinCardSaid : Prop := Claim7.holds Tryd.pinned (.plain (OpenSpec.ofChange fnExactIsWithinSpec)) fnExactIsWithinCard

/-- THE SECOND FORM's CARD OF 'laws.FnExactDistanceOf'. -/
def fnExactDistanceOfUptoCard : Claim7 := { stood := { row := fnExactDistanceOfUptoRow, standIns := [], harness := (true, "6bbb74372a21fc334eec3cdfaf0d58d2da88ac58406c0e9a65413a4173f9b997"), looks := false }, kinds := [], alts := [], laidByText := true, laidKinds := [.data], laidTests := true, laidLooks := .later }
def FnExactDistanceOfUptoCardSaid : Prop := Claim7.holds Tryd.pinned (.plain (OpenSpec.upto fnExactDistanceOfSpec)) fnExactDistanceOfUptoCard

/-- THE SECOND FORM's CARD OF 'laws.FnExactCommonOf'. -/
def fnExactCommonOfUptoCard : Claim7 := { stood := { row := fnExactCommonOfUptoRow, standIns := [], harness := (true, "6bbb74372a21fc334eec3cdfaf0d58d2da88ac58406c0e9a65413a4173f9b997"), looks := false }, kinds := [], alts := [], laidByText := true, laidKinds := [.data], laidTests := true, laidLooks := .later }
def FnExactCommonOfUptoCardSaid : Prop := Claim7.holds Tryd.pinned (.plain (OpenSpec.upto fnExactCommonOfSpec)) fnExactCommonOfUptoCard

/-- THE SECOND FORM's CARD OF 'laws.FnExactDiffOps'. -/
def fnExactDiffOpsUptoCard : Claim7 := { stood := { row := fnExactDiffOpsUptoRow, standIns := [], harness := (true, "6bbb74372a21fc334eec3cdfaf0d58d2da88ac58406c0e9a65413a4173f9b997"), looks := false }, kinds := [], alts := [], laidByText := true, laidKinds := [.data], laidTests := true, laidLooks := .later }
def FnExactDiffOpsUptoCardSaid : Prop := Claim7.holds Tryd.pinned (.plain (OpenSpec.upto fnExactDiffOpsSpec)) fnExactDiffOpsUptoCard

/-- THE SECOND FORM's CARD OF 'laws.FnExactCostOf'. -/
def fnExactCostOfUptoCard : Claim7 := { stood := { row := fnExactCostOfUptoRow, standIns := [], harness := (true, "6bbb74372a21fc334eec3cdfaf0d58d2da88ac58406c0e9a65413a4173f9b997"), looks := false }, kinds := [], alts := [], laidByText := true, laidKinds := [.data], laidTests := true, laidLooks := .later }
def FnExactCostOfUptoCardSaid : Prop := Claim7.holds Tryd.pinned (.plain (OpenSpec.upto fnExactCostOfSpec)) fnExactCostOfUptoCard

/-- THE SECOND FORM's CARD OF 'laws.FnExactEditsOf'. -/
def fnExactEditsOfUptoCard : Claim7 := { stood := { row := fnExactEditsOfUptoRow, standIns := [], harness := (true, "6bbb74372a21fc334eec3cdfaf0d58d2da88ac58406c0e9a65413a4173f9b997"), looks := false }, kinds := [], alts := [], laidByText := true, laidKinds := [.data], laidTests := true, laidLooks := .later }
def FnExactEditsOfUptoCardSaid : Prop := Claim7.holds Tryd.pinned (.plain (OpenSpec.upto fnExactEditsOfSpec)) fnExactEditsOfUptoCard

/-- THE SECOND FORM's CARD OF 'laws.FnExactIsWithin'. -/
def fnExactIsWithinUptoCard : Claim7 := { stood := { row := fnExactIsWithinUptoRow, standIns := [], harness := (true, "6bbb74372a21fc334eec3cdfaf0d58d2da88ac58406c0e9a65413a4173f9b997"), looks := false }, kinds := [], alts := [], laidByText := true, laidKinds := [.data], laidTests := true, laidLooks := .later }
def FnExactIsWithinUptoCardSaid : Prop := Claim7.holds Tryd.pinned (.plain (OpenSpec.upto fnExactIsWithinSpec)) fnExactIsWithinUptoCard
end Rows
end Go.Proofs.YtinciandgfngjaaDoor
