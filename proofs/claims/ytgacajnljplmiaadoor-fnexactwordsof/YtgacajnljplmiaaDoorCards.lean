/-
  DERIVED. GIVEN WITH THE SEED: THE CARDS: each row of YtgacajnljplmiaaDoorRows.lean that lists a variable, with what it lists TIED to the program's text (the seventh form; the later family's looks); each row that meets fmt, with fmt's text TOLD by the authors' own Lean function (tested against real Go, not proved from fmt's source: count such statements apart). THE CARD IS WHAT COUNTS. Prove the row's statement (the work); the ties are given (YtgacajnljplmiaaDoorTie.lean); close each card by the builder's one call (the guide's Derived/Test/ToyasCard.lean, 'card_holds'). Laid BY PROGRAM, IN A SANDBOX (cutbox-door.mjs). By AI agents, Wed Nov 11 2026. No macro, syntax, notation, axiom, sorry.
-/
import Derived.Test.YtgacajnljplmiaaDoorRows
import GoSem.ClaimSeven
namespace Go.Proofs.YtgacajnljplmiaaDoor
namespace Rows

/-- THE TIED CARD OF 'laws.FnExactWordsOf'. -/
def fnExactWordsOfCard : Claim7 := { stood := { row := fnExactWordsOfRow, standIns := [], harness := (true, "dca63d3913f617798352298d93edf162fadb79727879b4efd1d24b55aa530fa1"), looks := false }, kinds := [], alts := [], laidByText := true, laidKinds := [.listed, .data, .data], laidTests := true, laidLooks := .later }
def FnExactWordsOfCardSaid : Prop := Claim7.holds Tryd.pinned (.plain (OpenSpec.ofChange fnExactWordsOfSpec)) fnExactWordsOfCard

/-- THE TIED CARD OF 'laws.FnExactGreedyLines'. -/
def fnExactGreedyLinesCard : Claim7 := { stood := { row := fnExactGreedyLinesRow, standIns := [], harness := (true, "dca63d3913f617798352298d93edf162fadb79727879b4efd1d24b55aa530fa1"), looks := false }, kinds := [], alts := [], laidByText := true, laidKinds := [.data], laidTests := true, laidLooks := .later }
def FnExactGreedyLinesCardSaid : Prop := Claim7.holds Tryd.pinned (.plain (OpenSpec.ofChange fnExactGreedyLinesSpec)) fnExactGreedyLinesCard

/-- THE TIED CARD OF 'laws.FnExactBestLines'. -/
def fnExactBestLinesCard : Claim7 := { stood := { row := fnExactBestLinesRow, standIns := [], harness := (true, "dca63d3913f617798352298d93edf162fadb79727879b4efd1d24b55aa530fa1"), looks := false }, kinds := [], alts := [], laidByText := true, laidKinds := [.data], laidTests := true, laidLooks := .later }
def FnExactBestLinesCardSaid : Prop := Claim7.holds Tryd.pinned (.plain (OpenSpec.ofChange fnExactBestLinesSpec)) fnExactBestLinesCard

/-- THE TIED CARD OF 'laws.FnExactBreakAt'. -/
def fnExactBreakAtCard : Claim7 := { stood := { row := fnExactBreakAtRow, standIns := [], harness := (true, "dca63d3913f617798352298d93edf162fadb79727879b4efd1d24b55aa530fa1"), looks := false }, kinds := [], alts := [], laidByText := true, laidKinds := [.data], laidTests := true, laidLooks := .later }
def FnExactBreakAtCardSaid : Prop := Claim7.holds Tryd.pinned (.plain (OpenSpec.ofChange fnExactBreakAtSpec)) fnExactBreakAtCard

/-- THE TIED CARD OF 'laws.FnExactLeastWidth'. -/
def fnExactLeastWidthCard : Claim7 := { stood := { row := fnExactLeastWidthRow, standIns := [], harness := (true, "dca63d3913f617798352298d93edf162fadb79727879b4efd1d24b55aa530fa1"), looks := false }, kinds := [], alts := [], laidByText := true, laidKinds := [.data], laidTests := true, laidLooks := .later }
def FnExactLeastWidthCardSaid : Prop := Claim7.holds Tryd.pinned (.plain (OpenSpec.ofChange fnExactLeastWidthSpec)) fnExactLeastWidthCard

/-- THE TIED CARD OF 'laws.FnLines'. -/
def fnLinesCard : Claim7 := { stood := { row := fnLinesRow, standIns := [], harness := (true, "dca63d3913f617798352298d93edf162fadb79727879b4efd1d24b55aa530fa1"), looks := false }, kinds := [], alts := [], laidByText := true, laidKinds := [.data, .data, .pinned], laidTests := true, laidLooks := .later }
def FnLinesCardSaid : Prop := Claim7.holds Tryd.pinned (.plain (OpenSpec.ofChange fnLinesSpec)) fnLinesCard

/-- THE SECOND FORM's CARD OF 'laws.FnExactWordsOf'. -/
def fnExactWordsOfUptoCard : Claim7 := { stood := { row := fnExactWordsOfUptoRow, standIns := [], harness := (true, "dca63d3913f617798352298d93edf162fadb79727879b4efd1d24b55aa530fa1"), looks := false }, kinds := [], alts := [], laidByText := true, laidKinds := [.listed, .data, .data], laidTests := true, laidLooks := .later }
def FnExactWordsOfUptoCardSaid : Prop := Claim7.holds Tryd.pinned (.plain (OpenSpec.upto fnExactWordsOfSpec)) fnExactWordsOfUptoCard

/-- THE SECOND FORM's CARD OF 'laws.FnExactGreedyLines'. -/
def fnExactGreedyLinesUptoCard : Claim7 := { stood := { row := fnExactGreedyLinesUptoRow, standIns := [], harness := (true, "dca63d3913f617798352298d93edf162fadb79727879b4efd1d24b55aa530fa1"), looks := false }, kinds := [], alts := [], laidByText := true, laidKinds := [.data], laidTests := true, laidLooks := .later }
def FnExactGreedyLinesUptoCardSaid : Prop := Claim7.holds Tryd.pinned (.plain (OpenSpec.upto fnExactGreedyLinesSpec)) fnExactGreedyLinesUptoCard

/-- THE SECOND FORM's CARD OF 'laws.FnExactBestLines'. -/
def fnExactBestLinesUptoCard : Claim7 := { stood := { row := fnExactBestLinesUptoRow, standIns := [], harness := (true, "dca63d3913f617798352298d93edf162fadb79727879b4efd1d24b55aa530fa1"), looks := false }, kinds := [], alts := [], laidByText := true, laidKinds := [.data], laidTests := true, laidLooks := .later }
def FnExactBestLinesUptoCardSaid : Prop := Claim7.holds Tryd.pinned (.plain (OpenSpec.upto fnExactBestLinesSpec)) fnExactBestLinesUptoCard

/-- THE SECOND FORM's CARD OF 'laws.FnExactBreakAt'. -/
def fnExactBreakAtUptoCard : Claim7 := { stood := { row := fnExactBreakAtUptoRow, standIns := [], harness := (true, "dca63d3913f617798352298d93edf162fadb79727879b4efd1d24b55aa530fa1"), looks := false }, kinds := [], alts := [], laidByText := true, laidKinds := [.data], laidTests := true, laidLooks := .later }
def FnExactBreakAtUptoCardSaid : Prop := Claim7.holds Tryd.pinned (.plain (OpenSpec.upto fnExactBreakAtSpec)) fnExactBreakAtUptoCard

/-- THE SECOND FORM's CARD OF 'laws.FnExactLeastWidth'. -/
def fnExactLeastWidthUptoCard : Claim7 := { stood := { row := fnExactLeastWidthUptoRow, standIns := [], harness := (true, "dca63d3913f617798352298d93edf162fadb79727879b4efd1d24b55aa530fa1"), looks := false }, kinds := [], alts := [], laidByText := true, laidKinds := [.data], laidTests := true, laidLooks := .later }
def FnExactLeastWidthUptoCardSaid : Prop := Claim7.holds Tryd.pinned (.plain (OpenSpec.upto fnExactLeastWidthSpec)) fnExactLeastWidthUptoCard

/-- THE SECOND FORM's CARD OF 'laws.FnLines'. -/
def fnLinesUptoCard : Claim7 := { stood := { row := fnLinesUptoRow, standIns := [], harness := (true, "dca63d3913f617798352298d93edf162fadb79727879b4efd1d24b55aa530fa1"), looks := false }, kinds := [], alts := [], laidByText := true, laidKinds := [.data, .data, .pinned], laidTests := true, laidLooks := .later }
def FnLinesUptoCardSaid : Prop := Claim7.holds Tryd.pinned (.plain (OpenSpec.upto fnLinesSpec)) fnLinesUptoCard
end Rows
end Go.Proofs.YtgacajnljplmiaaDoor
