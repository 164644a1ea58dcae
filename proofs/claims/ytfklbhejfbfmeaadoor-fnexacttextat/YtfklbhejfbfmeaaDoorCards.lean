/-
  DERIVED. GIVEN WITH THE SEED: THE CARDS: each row of YtfklbhejfbfmeaaDoorRows.lean that lists a variable, with what it lists TIED to the program's text (the seventh form; the later family's looks); each row that meets fmt, with fmt's text TOLD by the authors' own Lean function (tested against real Go, not proved from fmt's source: count such statements apart). THE CARD IS WHAT COUNTS. Prove the row's statement (the work); the ties are given (YtfklbhejfbfmeaaDoorTie.lean); close each card by the builder's one call (the guide's Derived/Test/ToyasCard.lean, 'card_holds'). Laid BY PROGRAM, IN A SANDBOX (cutbox-door.mjs). By AI agents, Wed Nov 11 2026. No macro, syntax, notation, axiom, sorry.
-/
import Derived.Test.YtfklbhejfbfmeaaDoorRows
import GoSem.ClaimSeven
namespace Go.Proofs.YtfklbhejfbfmeaaDoor
namespace Rows

/-- THE TIED CARD OF 'laws.FnExactNewServer'. -/
def fnExactNewServerCard : Claim7 := { stood := { row := fnExactNewServerRow, standIns := [], harness := (true, "64275e3a16094152bd8cc490bffcfba783b64f1a79777771d48a9e4c6188268c"), looks := false }, kinds := [], alts := [], laidByText := true, laidKinds := [.data], laidTests := true, laidLooks := .later }
def FnExactNewServerCardSaid : Prop := Claim7.holds Tryd.pinned (.plain (OpenSpec.ofChange fnExactNewServerSpec)) fnExactNewServerCard

/-- THE TIED CARD OF 'laws.FnExactGoodServer'. -/
def fnExactGoodServerCard : Claim7 := { stood := { row := fnExactGoodServerRow, standIns := [], harness := (true, "64275e3a16094152bd8cc490bffcfba783b64f1a79777771d48a9e4c6188268c"), looks := false }, kinds := [], alts := [], laidByText := true, laidKinds := [.data], laidTests := true, laidLooks := .later }
def FnExactGoodServerCardSaid : Prop := Claim7.holds Tryd.pinned (.plain (OpenSpec.ofChange fnExactGoodServerSpec)) fnExactGoodServerCard

/-- THE TIED CARD OF 'laws.FnExactTextAt'. -/
def fnExactTextAtCard : Claim7 := { stood := { row := fnExactTextAtRow, standIns := [], harness := (true, "64275e3a16094152bd8cc490bffcfba783b64f1a79777771d48a9e4c6188268c"), looks := false }, kinds := [], alts := [], laidByText := true, laidKinds := [.data], laidTests := true, laidLooks := .later }
def FnExactTextAtCardSaid : Prop := Claim7.holds Tryd.pinned (.plain (OpenSpec.ofChange fnExactTextAtSpec)) fnExactTextAtCard

/-- THE TIED CARD OF 'laws.FnExactEntriesFrom'. -/
def fnExactEntriesFromCard : Claim7 := { stood := { row := fnExactEntriesFromRow, standIns := [], harness := (true, "64275e3a16094152bd8cc490bffcfba783b64f1a79777771d48a9e4c6188268c"), looks := false }, kinds := [], alts := [], laidByText := true, laidKinds := [.data], laidTests := true, laidLooks := .later }
def FnExactEntriesFromCardSaid : Prop := Claim7.holds Tryd.pinned (.plain (OpenSpec.ofChange fnExactEntriesFromSpec)) fnExactEntriesFromCard

/-- THE TIED CARD OF 'laws.FnExactLastSeq'. -/
def fnExactLastSeqCard : Claim7 := { stood := { row := fnExactLastSeqRow, standIns := [], harness := (true, "64275e3a16094152bd8cc490bffcfba783b64f1a79777771d48a9e4c6188268c"), looks := false }, kinds := [], alts := [], laidByText := true, laidKinds := [.data], laidTests := true, laidLooks := .later }
def FnExactLastSeqCardSaid : Prop := Claim7.holds Tryd.pinned (.plain (OpenSpec.ofChange fnExactLastSeqSpec)) fnExactLastSeqCard

/-- THE TIED CARD OF 'laws.FnExactChangeBetween'. -/
def fnExactChangeBetweenCard : Claim7 := { stood := { row := fnExactChangeBetweenRow, standIns := [], harness := (true, "64275e3a16094152bd8cc490bffcfba783b64f1a79777771d48a9e4c6188268c"), looks := false }, kinds := [], alts := [], laidByText := true, laidKinds := [.data], laidTests := true, laidLooks := .later }
def FnExactChangeBetweenCardSaid : Prop := Claim7.holds Tryd.pinned (.plain (OpenSpec.ofChange fnExactChangeBetweenSpec)) fnExactChangeBetweenCard

/-- THE SECOND FORM's CARD OF 'laws.FnExactNewServer'. -/
def fnExactNewServerUptoCard : Claim7 := { stood := { row := fnExactNewServerUptoRow, standIns := [], harness := (true, "64275e3a16094152bd8cc490bffcfba783b64f1a79777771d48a9e4c6188268c"), looks := false }, kinds := [], alts := [], laidByText := true, laidKinds := [.data], laidTests := true, laidLooks := .later }
def FnExactNewServerUptoCardSaid : Prop := Claim7.holds Tryd.pinned (.plain (OpenSpec.upto fnExactNewServerSpec)) fnExactNewServerUptoCard

/-- THE SECOND FORM's CARD OF 'laws.FnExactGoodServer'. -/
def fnExactGoodServerUptoCard : Claim7 := { stood := { row := fnExactGoodServerUptoRow, standIns := [], harness := (true, "64275e3a16094152bd8cc490bffcfba783b64f1a79777771d48a9e4c6188268c"), looks := false }, kinds := [], alts := [], laidByText := true, laidKinds := [.data], laidTests := true, laidLooks := .later }
def FnExactGoodServerUptoCardSaid : Prop := Claim7.holds Tryd.pinned (.plain (OpenSpec.upto fnExactGoodServerSpec)) fnExactGoodServerUptoCard

/-- THE SECOND FORM's CARD OF 'laws.FnExactTextAt'. -/
def fnExactTextAtUptoCard : Claim7 := { stood := { row := fnExactTextAtUptoRow, standIns := [], harness := (true, "64275e3a16094152bd8cc490bffcfba783b64f1a79777771d48a9e4c6188268c"), looks := false }, kinds := [], alts := [], laidByText := true, laidKinds := [.data], laidTests := true, laidLooks := .later }
def FnExactTextAtUptoCardSaid : Prop := Claim7.holds Tryd.pinned (.plain (OpenSpec.upto fnExactTextAtSpec)) fnExactTextAtUptoCard

/-- THE SECOND FORM's CARD OF 'laws.FnExactEntriesFrom'. -/
def fnExactEntriesFromUptoCard : Claim7 := { stood := { row := fnExactEntriesFromUptoRow, standIns := [], harness := (true, "64275e3a16094152bd8cc490bffcfba783b64f1a79777771d48a9e4c6188268c"), looks := false }, kinds := [], alts := [], laidByText := true, laidKinds := [.data], laidTests := true, laidLooks := .later }
def FnExactEntriesFromUptoCardSaid : Prop := Claim7.holds Tryd.pinned (.plain (OpenSpec.upto fnExactEntriesFromSpec)) fnExactEntriesFromUptoCard

/-- THE SECOND FORM's CARD OF 'laws.FnExactLastSeq'. -/
def fnExactLastSeqUptoCard : Claim7 := { stood := { row := fnExactLastSeqUptoRow, standIns := [], harness := (true, "64275e3a16094152bd8cc490bffcfba783b64f1a79777771d48a9e4c6188268c"), looks := false }, kinds := [], alts := [], laidByText := true, laidKinds := [.data], laidTests := true, laidLooks := .later }
def FnExactLastSeqUptoCardSaid : Prop := Claim7.holds Tryd.pinned (.plain (OpenSpec.upto fnExactLastSeqSpec)) fnExactLastSeqUptoCard

/-- THE SECOND FORM's CARD OF 'laws.FnExactChangeBetween'. -/
def fnExactChangeBetweenUptoCard : Claim7 := { stood := { row := fnExactChangeBetweenUptoRow, standIns := [], harness := (true, "64275e3a16094152bd8cc490bffcfba783b64f1a79777771d48a9e4c6188268c"), looks := false }, kinds := [], alts := [], laidByText := true, laidKinds := [.data], laidTests := true, laidLooks := .later }
def FnExactChangeBetweenUptoCardSaid : Prop := Claim7.holds Tryd.pinned (.plain (OpenSpec.upto fnExactChangeBetweenSpec)) fnExactChangeBetweenUptoCard
end Rows
end Go.Proofs.YtfklbhejfbfmeaaDoor
