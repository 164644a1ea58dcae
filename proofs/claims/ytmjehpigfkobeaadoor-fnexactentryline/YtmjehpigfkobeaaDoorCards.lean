/-
  DERIVED. GIVEN WITH THE SEED: THE CARDS: each row of YtmjehpigfkobeaaDoorRows.lean that lists a variable, with what it lists TIED to the program's text (the seventh form; the later family's looks); each row that meets fmt, with fmt's text TOLD by the authors' own Lean function (tested against real Go, not proved from fmt's source: count such statements apart). THE CARD IS WHAT COUNTS. Prove the row's statement (the work); the ties are given (YtmjehpigfkobeaaDoorTie.lean); close each card by the builder's one call (the guide's Derived/Test/ToyasCard.lean, 'card_holds'). Laid BY PROGRAM, IN A SANDBOX (cutbox-door.mjs). By AI agents, Wed Nov 11 2026. No macro, syntax, notation, axiom, sorry.
-/
import Derived.Test.YtmjehpigfkobeaaDoorRows
import GoSem.ClaimSeven
namespace Go.Proofs.YtmjehpigfkobeaaDoor
namespace Rows

/-- THE TIED CARD OF 'laws.FnLogged'. -/
def fnLoggedCard : Claim7 := { stood := { row := fnLoggedRow, standIns := [], harness := (true, "e012af5c7efadec5cc040356b4e221bd7db4ed0accbf715336e7fcac3d4b72fa"), looks := false }, kinds := [], alts := [], laidByText := true, laidKinds := [.data, .data, .data, .data], laidTests := true, laidLooks := .later }
def FnLoggedCardSaid : Prop := Claim7.holds Tryd.pinned (.plain (OpenSpec.ofChange fnLoggedSpec)) fnLoggedCard

/-- THE TIED CARD OF 'laws.FnExactOpText'. -/
def fnExactOpTextCard : Claim7 := { stood := { row := fnExactOpTextRow, standIns := [], harness := (true, "e012af5c7efadec5cc040356b4e221bd7db4ed0accbf715336e7fcac3d4b72fa"), looks := false }, kinds := [], alts := [], laidByText := true, laidKinds := [.data, .data, .data, .data], laidTests := true, laidLooks := .later }
def FnExactOpTextCardSaid : Prop := Claim7.holds Tryd.pinned (.plain (OpenSpec.ofChange fnExactOpTextSpec)) fnExactOpTextCard

/-- THE TIED CARD OF 'laws.FnExactReadOp'. -/
def fnExactReadOpCard : Claim7 := { stood := { row := fnExactReadOpRow, standIns := [], harness := (true, "e012af5c7efadec5cc040356b4e221bd7db4ed0accbf715336e7fcac3d4b72fa"), looks := false }, kinds := [], alts := [], laidByText := true, laidKinds := [.data], laidTests := true, laidLooks := .later }
def FnExactReadOpCardSaid : Prop := Claim7.holds Tryd.pinned (.plain (OpenSpec.ofChange fnExactReadOpSpec)) fnExactReadOpCard

/-- THE TIED CARD OF 'laws.FnExactEntryLine'. -/
def fnExactEntryLineCard : Claim7 := { stood := { row := fnExactEntryLineRow, standIns := [], harness := (true, "e012af5c7efadec5cc040356b4e221bd7db4ed0accbf715336e7fcac3d4b72fa"), looks := false }, kinds := [], alts := [], laidByText := true, laidKinds := [.data, .data, .data, .data], laidTests := true, laidLooks := .later }
def FnExactEntryLineCardSaid : Prop := Claim7.holds Tryd.pinned (.plain (OpenSpec.ofChange fnExactEntryLineSpec)) fnExactEntryLineCard

/-- THE SECOND FORM's CARD OF 'laws.FnLogged'. -/
def fnLoggedUptoCard : Claim7 := { stood := { row := fnLoggedUptoRow, standIns := [], harness := (true, "e012af5c7efadec5cc040356b4e221bd7db4ed0accbf715336e7fcac3d4b72fa"), looks := false }, kinds := [], alts := [], laidByText := true, laidKinds := [.data, .data, .data, .data], laidTests := true, laidLooks := .later }
def FnLoggedUptoCardSaid : Prop := Claim7.holds Tryd.pinned (.plain (OpenSpec.upto fnLoggedSpec)) fnLoggedUptoCard

/-- THE SECOND FORM's CARD OF 'laws.FnExactOpText'. -/
def fnExactOpTextUptoCard : Claim7 := { stood := { row := fnExactOpTextUptoRow, standIns := [], harness := (true, "e012af5c7efadec5cc040356b4e221bd7db4ed0accbf715336e7fcac3d4b72fa"), looks := false }, kinds := [], alts := [], laidByText := true, laidKinds := [.data, .data, .data, .data], laidTests := true, laidLooks := .later }
def FnExactOpTextUptoCardSaid : Prop := Claim7.holds Tryd.pinned (.plain (OpenSpec.upto fnExactOpTextSpec)) fnExactOpTextUptoCard

/-- THE SECOND FORM's CARD OF 'laws.FnExactReadOp'. -/
def fnExactReadOpUptoCard : Claim7 := { stood := { row := fnExactReadOpUptoRow, standIns := [], harness := (true, "e012af5c7efadec5cc040356b4e221bd7db4ed0accbf715336e7fcac3d4b72fa"), looks := false }, kinds := [], alts := [], laidByText := true, laidKinds := [.data], laidTests := true, laidLooks := .later }
def FnExactReadOpUptoCardSaid : Prop := Claim7.holds Tryd.pinned (.plain (OpenSpec.upto fnExactReadOpSpec)) fnExactReadOpUptoCard

/-- THE SECOND FORM's CARD OF 'laws.FnExactEntryLine'. -/
def fnExactEntryLineUptoCard : Claim7 := { stood := { row := fnExactEntryLineUptoRow, standIns := [], harness := (true, "e012af5c7efadec5cc040356b4e221bd7db4ed0accbf715336e7fcac3d4b72fa"), looks := false }, kinds := [], alts := [], laidByText := true, laidKinds := [.data, .data, .data, .data], laidTests := true, laidLooks := .later }
def FnExactEntryLineUptoCardSaid : Prop := Claim7.holds Tryd.pinned (.plain (OpenSpec.upto fnExactEntryLineSpec)) fnExactEntryLineUptoCard
end Rows
end Go.Proofs.YtmjehpigfkobeaaDoor
