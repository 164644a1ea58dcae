/-
  DERIVED. GIVEN WITH THE SEED: THE CARDS: each row of YtpeconmdmddkfaaDoorRows.lean that lists a variable, with what it lists TIED to the program's text (the seventh form; the later family's looks); each row that meets fmt, with fmt's text TOLD by the authors' own Lean function (tested against real Go, not proved from fmt's source: count such statements apart). THE CARD IS WHAT COUNTS. Prove the row's statement (the work); the ties are given (YtpeconmdmddkfaaDoorTie.lean); close each card by the builder's one call (the guide's Derived/Test/ToyasCard.lean, 'card_holds'). Laid BY PROGRAM, IN A SANDBOX (cutbox-door.mjs). By AI agents, Wed Nov 11 2026. No macro, syntax, notation, axiom, sorry.
-/
import Derived.Test.YtpeconmdmddkfaaDoorRows
import GoSem.ClaimSeven
namespace Go.Proofs.YtpeconmdmddkfaaDoor
namespace Rows

/-- THE TIED CARD OF 'laws.FnExactNewHistory'. -/
def fnExactNewHistoryCard : Claim7 := { stood := { row := fnExactNewHistoryRow, standIns := [], harness := (true, "261b5f0c061db89064118ef62f998ba24befbb3068eb204849099ca6ae4830d5"), looks := true }, kinds := [], alts := [], laidByText := true, laidKinds := [.data], laidTests := true, laidLooks := .later }
def FnExactNewHistoryCardSaid : Prop := Claim7.holds Tryd.pinned (.plain (OpenSpec.ofChange fnExactNewHistorySpec)) fnExactNewHistoryCard

/-- THE TIED CARD OF 'laws.FnExactGoodHistory'. -/
def fnExactGoodHistoryCard : Claim7 := { stood := { row := fnExactGoodHistoryRow, standIns := [], harness := (true, "261b5f0c061db89064118ef62f998ba24befbb3068eb204849099ca6ae4830d5"), looks := true }, kinds := [], alts := [], laidByText := true, laidKinds := [.data], laidTests := true, laidLooks := .later }
def FnExactGoodHistoryCardSaid : Prop := Claim7.holds Tryd.pinned (.plain (OpenSpec.ofChange fnExactGoodHistorySpec)) fnExactGoodHistoryCard

/-- THE TIED CARD OF 'laws.FnExactDoChange'. -/
def fnExactDoChangeCard : Claim7 := { stood := { row := fnExactDoChangeRow, standIns := [], harness := (true, "261b5f0c061db89064118ef62f998ba24befbb3068eb204849099ca6ae4830d5"), looks := true }, kinds := [], alts := [], laidByText := true, laidKinds := [.data], laidTests := true, laidLooks := .later }
def FnExactDoChangeCardSaid : Prop := Claim7.holds Tryd.pinned (.plain (OpenSpec.ofChange fnExactDoChangeSpec)) fnExactDoChangeCard

/-- THE TIED CARD OF 'laws.FnUndone'. -/
def fnUndoneCard : Claim7 := { stood := { row := fnUndoneRow, standIns := [], harness := (true, "261b5f0c061db89064118ef62f998ba24befbb3068eb204849099ca6ae4830d5"), looks := true }, kinds := [], alts := [], laidByText := true, laidKinds := [.data], laidTests := true, laidLooks := .later }
def FnUndoneCardSaid : Prop := Claim7.holds Tryd.pinned (.plain (OpenSpec.ofChange fnUndoneSpec)) fnUndoneCard

/-- THE TIED CARD OF 'laws.FnExactEditRope'. -/
def fnExactEditRopeCard : Claim7 := { stood := { row := fnExactEditRopeRow, standIns := [], harness := (true, "261b5f0c061db89064118ef62f998ba24befbb3068eb204849099ca6ae4830d5"), looks := true }, kinds := [], alts := [], laidByText := true, laidKinds := [.data], laidTests := true, laidLooks := .later }
def FnExactEditRopeCardSaid : Prop := Claim7.holds Tryd.pinned (.plain (OpenSpec.ofChange fnExactEditRopeSpec)) fnExactEditRopeCard

/-- THE TIED CARD OF 'laws.FnLines'. -/
def fnLinesCard : Claim7 := { stood := { row := fnLinesRow, standIns := [], harness := (true, "261b5f0c061db89064118ef62f998ba24befbb3068eb204849099ca6ae4830d5"), looks := true }, kinds := [], alts := [], laidByText := true, laidKinds := [.data, .data, .pinned], laidTests := true, laidLooks := .later }
def FnLinesCardSaid : Prop := Claim7.holds Tryd.pinned (.plain (OpenSpec.ofChange fnLinesSpec)) fnLinesCard

/-- THE SECOND FORM's CARD OF 'laws.FnExactNewHistory'. -/
def fnExactNewHistoryUptoCard : Claim7 := { stood := { row := fnExactNewHistoryUptoRow, standIns := [], harness := (true, "261b5f0c061db89064118ef62f998ba24befbb3068eb204849099ca6ae4830d5"), looks := true }, kinds := [], alts := [], laidByText := true, laidKinds := [.data], laidTests := true, laidLooks := .later }
def FnExactNewHistoryUptoCardSaid : Prop := Claim7.holds Tryd.pinned (.plain (OpenSpec.upto fnExactNewHistorySpec)) fnExactNewHistoryUptoCard

/-- THE SECOND FORM's CARD OF 'laws.FnExactGoodHistory'. -/
def fnExactGoodHistoryUptoCard : Claim7 := { stood := { row := fnExactGoodHistoryUptoRow, standIns := [], harness := (true, "261b5f0c061db89064118ef62f998ba24befbb3068eb204849099ca6ae4830d5"), looks := true }, kinds := [], alts := [], laidByText := true, laidKinds := [.data], laidTests := true, laidLooks := .later }
def FnExactGoodHistoryUptoCardSaid : Prop := Claim7.holds Tryd.pinned (.plain (OpenSpec.upto fnExactGoodHistorySpec)) fnExactGoodHistoryUptoCard

/-- THE SECOND FORM's CARD OF 'laws.FnExactDoChange'. -/
def fnExactDoChangeUptoCard : Claim7 := { stood := { row := fnExactDoChangeUptoRow, standIns := [], harness := (true, "261b5f0c061db89064118ef62f998ba24befbb3068eb204849099ca6ae4830d5"), looks := true }, kinds := [], alts := [], laidByText := true, laidKinds := [.data], laidTests := true, laidLooks := .later }
def FnExactDoChangeUptoCardSaid : Prop := Claim7.holds Tryd.pinned (.plain (OpenSpec.upto fnExactDoChangeSpec)) fnExactDoChangeUptoCard

/-- THE SECOND FORM's CARD OF 'laws.FnUndone'. -/
def fnUndoneUptoCard : Claim7 := { stood := { row := fnUndoneUptoRow, standIns := [], harness := (true, "261b5f0c061db89064118ef62f998ba24befbb3068eb204849099ca6ae4830d5"), looks := true }, kinds := [], alts := [], laidByText := true, laidKinds := [.data], laidTests := true, laidLooks := .later }
def FnUndoneUptoCardSaid : Prop := Claim7.holds Tryd.pinned (.plain (OpenSpec.upto fnUndoneSpec)) fnUndoneUptoCard

/-- THE SECOND FORM's CARD OF 'laws.FnExactEditRope'. -/
def fnExactEditRopeUptoCard : Claim7 := { stood := { row := fnExactEditRopeUptoRow, standIns := [], harness := (true, "261b5f0c061db89064118ef62f998ba24befbb3068eb204849099ca6ae4830d5"), looks := true }, kinds := [], alts := [], laidByText := true, laidKinds := [.data], laidTests := true, laidLooks := .later }
def FnExactEditRopeUptoCardSaid : Prop := Claim7.holds Tryd.pinned (.plain (OpenSpec.upto fnExactEditRopeSpec)) fnExactEditRopeUptoCard

/-- THE SECOND FORM's CARD OF 'laws.FnLines'. -/
def fnLinesUptoCard : Claim7 := { stood := { row := fnLinesUptoRow, standIns := [], harness := (true, "261b5f0c061db89064118ef62f998ba24befbb3068eb204849099ca6ae4830d5"), looks := true }, kinds := [], alts := [], laidByText := true, laidKinds := [.data, .data, .pinned], laidTests := true, laidLooks := .later }
def FnLinesUptoCardSaid : Prop := Claim7.holds Tryd.pinned (.plain (OpenSpec.upto fnLinesSpec)) fnLinesUptoCard
end Rows
end Go.Proofs.YtpeconmdmddkfaaDoor
