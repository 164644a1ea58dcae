/-
  DERIVED. GIVEN WITH THE SEED: THE CARDS: each row of YtfobkjoinjphdaaDoorRows.lean that lists a variable, with what it lists TIED to the program's text (the seventh form; the later family's looks); each row that meets fmt, with fmt's text TOLD by the authors' own Lean function (tested against real Go, not proved from fmt's source: count such statements apart). THE CARD IS WHAT COUNTS. Prove the row's statement (the work); the ties are given (YtfobkjoinjphdaaDoorTie.lean); close each card by the builder's one call (the guide's Derived/Test/ToyasCard.lean, 'card_holds'). Laid BY PROGRAM, IN A SANDBOX (cutbox-door.mjs). By AI agents, Wed Nov 11 2026. No macro, syntax, notation, axiom, sorry.
-/
import Derived.Test.YtfobkjoinjphdaaDoorRows
import GoSem.ClaimSeven
namespace Go.Proofs.YtfobkjoinjphdaaDoor
namespace Rows

/-- THE TIED CARD OF 'laws.FnComposed'. -/
def fnComposedCard : Claim7 := { stood := { row := fnComposedRow, standIns := [], harness := (true, "2147fe49dab07b45ba5d57b8c4efd2c2160d894999aa08ea4f3ced1d87cf60d4"), looks := false }, kinds := [], alts := [], laidByText := true, laidKinds := [.data], laidTests := true, laidLooks := .later }
def FnComposedCardSaid : Prop := Claim7.holds Tryd.pinned (.plain (OpenSpec.ofChange fnComposedSpec)) fnComposedCard

/-- THE SECOND FORM's CARD OF 'laws.FnComposed'. -/
def fnComposedUptoCard : Claim7 := { stood := { row := fnComposedUptoRow, standIns := [], harness := (true, "2147fe49dab07b45ba5d57b8c4efd2c2160d894999aa08ea4f3ced1d87cf60d4"), looks := false }, kinds := [], alts := [], laidByText := true, laidKinds := [.data], laidTests := true, laidLooks := .later }
def FnComposedUptoCardSaid : Prop := Claim7.holds Tryd.pinned (.plain (OpenSpec.upto fnComposedSpec)) fnComposedUptoCard
end Rows
end Go.Proofs.YtfobkjoinjphdaaDoor
