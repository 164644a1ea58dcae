/-
  DERIVED. GIVEN WITH THE SEED: THE CARDS: each row of YtnhooalibadeeaaDoorRows.lean that lists a variable, with what it lists TIED to the program's text (the seventh form; the later family's looks); each row that meets fmt, with fmt's text TOLD by the authors' own Lean function (tested against real Go, not proved from fmt's source: count such statements apart). THE CARD IS WHAT COUNTS. Prove the row's statement (the work); the ties are given (YtnhooalibadeeaaDoorTie.lean); close each card by the builder's one call (the guide's Derived/Test/ToyasCard.lean, 'card_holds'). Laid BY PROGRAM, IN A SANDBOX (cutbox-door.mjs). By AI agents, Wed Nov 11 2026. No macro, syntax, notation, axiom, sorry.
-/
import Derived.Test.YtnhooalibadeeaaDoorRows
import GoSem.ClaimSeven
namespace Go.Proofs.YtnhooalibadeeaaDoor
namespace Rows

/-- THE TIED CARD OF 'laws.FnSeqs'. -/
def fnSeqsCard : Claim7 := { stood := { row := fnSeqsRow, standIns := [], harness := (true, "b725b46a85b97a5acc90590ae5359f262048820206eda5162ec6c58f2d2e84bd"), looks := false }, kinds := [], alts := [], laidByText := true, laidKinds := [.data], laidTests := true, laidLooks := .later }
def FnSeqsCardSaid : Prop := Claim7.holds Tryd.pinned (.plain (OpenSpec.ofChange fnSeqsSpec)) fnSeqsCard

/-- THE TIED CARD OF 'laws.FnPut'. -/
def fnPutCard : Claim7 := { stood := { row := fnPutRow, standIns := [], harness := (true, "b725b46a85b97a5acc90590ae5359f262048820206eda5162ec6c58f2d2e84bd"), looks := false }, kinds := [], alts := [], laidByText := true, laidKinds := [.data], laidTests := true, laidLooks := .later }
def FnPutCardSaid : Prop := Claim7.holds Tryd.pinned (.plain (OpenSpec.ofChange fnPutSpec)) fnPutCard

/-- THE TIED CARD OF 'laws.FnExactGoodSeq'. -/
def fnExactGoodSeqCard : Claim7 := { stood := { row := fnExactGoodSeqRow, standIns := [], harness := (true, "b725b46a85b97a5acc90590ae5359f262048820206eda5162ec6c58f2d2e84bd"), looks := false }, kinds := [], alts := [], laidByText := true, laidKinds := [.data], laidTests := true, laidLooks := .later }
def FnExactGoodSeqCardSaid : Prop := Claim7.holds Tryd.pinned (.plain (OpenSpec.ofChange fnExactGoodSeqSpec)) fnExactGoodSeqCard

/-- THE TIED CARD OF 'laws.FnExactTextOfSeq'. -/
def fnExactTextOfSeqCard : Claim7 := { stood := { row := fnExactTextOfSeqRow, standIns := [], harness := (true, "b725b46a85b97a5acc90590ae5359f262048820206eda5162ec6c58f2d2e84bd"), looks := false }, kinds := [], alts := [], laidByText := true, laidKinds := [.data], laidTests := true, laidLooks := .later }
def FnExactTextOfSeqCardSaid : Prop := Claim7.holds Tryd.pinned (.plain (OpenSpec.ofChange fnExactTextOfSeqSpec)) fnExactTextOfSeqCard

/-- THE TIED CARD OF 'laws.FnExactPutAtom'. -/
def fnExactPutAtomCard : Claim7 := { stood := { row := fnExactPutAtomRow, standIns := [], harness := (true, "b725b46a85b97a5acc90590ae5359f262048820206eda5162ec6c58f2d2e84bd"), looks := false }, kinds := [], alts := [], laidByText := true, laidKinds := [.data], laidTests := true, laidLooks := .later }
def FnExactPutAtomCardSaid : Prop := Claim7.holds Tryd.pinned (.plain (OpenSpec.ofChange fnExactPutAtomSpec)) fnExactPutAtomCard

/-- THE TIED CARD OF 'laws.FnExactDropAtom'. -/
def fnExactDropAtomCard : Claim7 := { stood := { row := fnExactDropAtomRow, standIns := [], harness := (true, "b725b46a85b97a5acc90590ae5359f262048820206eda5162ec6c58f2d2e84bd"), looks := false }, kinds := [], alts := [], laidByText := true, laidKinds := [.data], laidTests := true, laidLooks := .later }
def FnExactDropAtomCardSaid : Prop := Claim7.holds Tryd.pinned (.plain (OpenSpec.ofChange fnExactDropAtomSpec)) fnExactDropAtomCard

/-- THE SECOND FORM's CARD OF 'laws.FnSeqs'. -/
def fnSeqsUptoCard : Claim7 := { stood := { row := fnSeqsUptoRow, standIns := [], harness := (true, "b725b46a85b97a5acc90590ae5359f262048820206eda5162ec6c58f2d2e84bd"), looks := false }, kinds := [], alts := [], laidByText := true, laidKinds := [.data], laidTests := true, laidLooks := .later }
def FnSeqsUptoCardSaid : Prop := Claim7.holds Tryd.pinned (.plain (OpenSpec.upto fnSeqsSpec)) fnSeqsUptoCard

/-- THE SECOND FORM's CARD OF 'laws.FnPut'. -/
def fnPutUptoCard : Claim7 := { stood := { row := fnPutUptoRow, standIns := [], harness := (true, "b725b46a85b97a5acc90590ae5359f262048820206eda5162ec6c58f2d2e84bd"), looks := false }, kinds := [], alts := [], laidByText := true, laidKinds := [.data], laidTests := true, laidLooks := .later }
def FnPutUptoCardSaid : Prop := Claim7.holds Tryd.pinned (.plain (OpenSpec.upto fnPutSpec)) fnPutUptoCard

/-- THE SECOND FORM's CARD OF 'laws.FnExactGoodSeq'. -/
def fnExactGoodSeqUptoCard : Claim7 := { stood := { row := fnExactGoodSeqUptoRow, standIns := [], harness := (true, "b725b46a85b97a5acc90590ae5359f262048820206eda5162ec6c58f2d2e84bd"), looks := false }, kinds := [], alts := [], laidByText := true, laidKinds := [.data], laidTests := true, laidLooks := .later }
def FnExactGoodSeqUptoCardSaid : Prop := Claim7.holds Tryd.pinned (.plain (OpenSpec.upto fnExactGoodSeqSpec)) fnExactGoodSeqUptoCard

/-- THE SECOND FORM's CARD OF 'laws.FnExactTextOfSeq'. -/
def fnExactTextOfSeqUptoCard : Claim7 := { stood := { row := fnExactTextOfSeqUptoRow, standIns := [], harness := (true, "b725b46a85b97a5acc90590ae5359f262048820206eda5162ec6c58f2d2e84bd"), looks := false }, kinds := [], alts := [], laidByText := true, laidKinds := [.data], laidTests := true, laidLooks := .later }
def FnExactTextOfSeqUptoCardSaid : Prop := Claim7.holds Tryd.pinned (.plain (OpenSpec.upto fnExactTextOfSeqSpec)) fnExactTextOfSeqUptoCard

/-- THE SECOND FORM's CARD OF 'laws.FnExactPutAtom'. -/
def fnExactPutAtomUptoCard : Claim7 := { stood := { row := fnExactPutAtomUptoRow, standIns := [], harness := (true, "b725b46a85b97a5acc90590ae5359f262048820206eda5162ec6c58f2d2e84bd"), looks := false }, kinds := [], alts := [], laidByText := true, laidKinds := [.data], laidTests := true, laidLooks := .later }
def FnExactPutAtomUptoCardSaid : Prop := Claim7.holds Tryd.pinned (.plain (OpenSpec.upto fnExactPutAtomSpec)) fnExactPutAtomUptoCard

/-- THE SECOND FORM's CARD OF 'laws.FnExactDropAtom'. -/
def fnExactDropAtomUptoCard : Claim7 := { stood := { row := fnExactDropAtomUptoRow, standIns := [], harness := (true, "b725b46a85b97a5acc90590ae5359f262048820206eda5162ec6c58f2d2e84bd"), looks := false }, kinds := [], alts := [], laidByText := true, laidKinds := [.data], laidTests := true, laidLooks := .later }
def FnExactDropAtomUptoCardSaid : Prop := Claim7.holds Tryd.pinned (.plain (OpenSpec.upto fnExactDropAtomSpec)) fnExactDropAtomUptoCard
end Rows
end Go.Proofs.YtnhooalibadeeaaDoor
