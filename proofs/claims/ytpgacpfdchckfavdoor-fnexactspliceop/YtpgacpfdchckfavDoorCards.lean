/-
  DERIVED. GIVEN WITH THE SEED: THE CARDS: each row of YtpgacpfdchckfavDoorRows.lean that lists a variable, with what it lists TIED to the program's text (the seventh form; the later family's looks); each row that meets fmt, with fmt's text TOLD by the authors' own Lean function (tested against real Go, not proved from fmt's source: count such statements apart). THE CARD IS WHAT COUNTS. Prove the row's statement (the work); the ties are given (YtpgacpfdchckfavDoorTie.lean); close each card by the builder's one call (the guide's Derived/Test/ToyasCard.lean, 'card_holds'). Laid BY PROGRAM, IN A SANDBOX (cutbox-door.mjs). By AI agents, Wed Nov 11 2026. No macro, syntax, notation, axiom, sorry.
-/
import Derived.Test.YtpgacpfdchckfavDoorRows
import GoSem.ClaimSeven
namespace Go.Proofs.YtpgacpfdchckfavDoor
namespace Rows

/-- THE TIED CARD OF 'laws.FnExactComposeOps'. -/
def fnExactComposeOpsCard : Claim7 := { stood := { row := fnExactComposeOpsRow, standIns := [], harness := (true, "33afc2fdf8e7a4fc49659eb5e711871fc73127f456bb5a96e2757e6904ee5e43"), looks := false }, kinds := [], alts := [], laidByText := true, laidKinds := [.data], laidTests := true, laidLooks := .later }
def FnExactComposeOpsCardSaid : Prop := Claim7.holds Tryd.pinned (.plain (OpenSpec.ofChange fnExactComposeOpsSpec)) fnExactComposeOpsCard

/-- THE TIED CARD OF 'laws.FnExactSpliceOp'. -/
def fnExactSpliceOpCard : Claim7 := { stood := { row := fnExactSpliceOpRow, standIns := [], harness := (true, "33afc2fdf8e7a4fc49659eb5e711871fc73127f456bb5a96e2757e6904ee5e43"), looks := false }, kinds := [], alts := [], laidByText := true, laidKinds := [.data], laidTests := true, laidLooks := .later }
def FnExactSpliceOpCardSaid : Prop := Claim7.holds Tryd.pinned (.plain (OpenSpec.ofChange fnExactSpliceOpSpec)) fnExactSpliceOpCard

/-- THE TIED CARD OF 'laws.FnExactTransformOps'. -/
def fnExactTransformOpsCard : Claim7 := { stood := { row := fnExactTransformOpsRow, standIns := [], harness := (true, "33afc2fdf8e7a4fc49659eb5e711871fc73127f456bb5a96e2757e6904ee5e43"), looks := false }, kinds := [], alts := [], laidByText := true, laidKinds := [.data], laidTests := true, laidLooks := .later }
def FnExactTransformOpsCardSaid : Prop := Claim7.holds Tryd.pinned (.plain (OpenSpec.ofChange fnExactTransformOpsSpec)) fnExactTransformOpsCard

/-- THE TIED CARD OF 'laws.FnExactTransformOver'. -/
def fnExactTransformOverCard : Claim7 := { stood := { row := fnExactTransformOverRow, standIns := [], harness := (true, "33afc2fdf8e7a4fc49659eb5e711871fc73127f456bb5a96e2757e6904ee5e43"), looks := false }, kinds := [], alts := [], laidByText := true, laidKinds := [.data], laidTests := true, laidLooks := .later }
def FnExactTransformOverCardSaid : Prop := Claim7.holds Tryd.pinned (.plain (OpenSpec.ofChange fnExactTransformOverSpec)) fnExactTransformOverCard

/-- THE TIED CARD OF 'laws.FnExactClashesOf'. -/
def fnExactClashesOfCard : Claim7 := { stood := { row := fnExactClashesOfRow, standIns := [], harness := (true, "33afc2fdf8e7a4fc49659eb5e711871fc73127f456bb5a96e2757e6904ee5e43"), looks := false }, kinds := [], alts := [], laidByText := true, laidKinds := [.data], laidTests := true, laidLooks := .later }
def FnExactClashesOfCardSaid : Prop := Claim7.holds Tryd.pinned (.plain (OpenSpec.ofChange fnExactClashesOfSpec)) fnExactClashesOfCard

/-- THE SECOND FORM's CARD OF 'laws.FnExactComposeOps'. -/
def fnExactComposeOpsUptoCard : Claim7 := { stood := { row := fnExactComposeOpsUptoRow, standIns := [], harness := (true, "33afc2fdf8e7a4fc49659eb5e711871fc73127f456bb5a96e2757e6904ee5e43"), looks := false }, kinds := [], alts := [], laidByText := true, laidKinds := [.data], laidTests := true, laidLooks := .later }
def FnExactComposeOpsUptoCardSaid : Prop := Claim7.holds Tryd.pinned (.plain (OpenSpec.upto fnExactComposeOpsSpec)) fnExactComposeOpsUptoCard

/-- THE SECOND FORM's CARD OF 'laws.FnExactSpliceOp'. -/
def fnExactSpliceOpUptoCard : Claim7 := { stood := { row := fnExactSpliceOpUptoRow, standIns := [], harness := (true, "33afc2fdf8e7a4fc49659eb5e711871fc73127f456bb5a96e2757e6904ee5e43"), looks := false }, kinds := [], alts := [], laidByText := true, laidKinds := [.data], laidTests := true, laidLooks := .later }
def FnExactSpliceOpUptoCardSaid : Prop := Claim7.holds Tryd.pinned (.plain (OpenSpec.upto fnExactSpliceOpSpec)) fnExactSpliceOpUptoCard

/-- THE SECOND FORM's CARD OF 'laws.FnExactTransformOps'. -/
def fnExactTransformOpsUptoCard : Claim7 := { stood := { row := fnExactTransformOpsUptoRow, standIns := [], harness := (true, "33afc2fdf8e7a4fc49659eb5e711871fc73127f456bb5a96e2757e6904ee5e43"), looks := false }, kinds := [], alts := [], laidByText := true, laidKinds := [.data], laidTests := true, laidLooks := .later }
def FnExactTransformOpsUptoCardSaid : Prop := Claim7.holds Tryd.pinned (.plain (OpenSpec.upto fnExactTransformOpsSpec)) fnExactTransformOpsUptoCard

/-- THE SECOND FORM's CARD OF 'laws.FnExactTransformOver'. -/
def fnExactTransformOverUptoCard : Claim7 := { stood := { row := fnExactTransformOverUptoRow, standIns := [], harness := (true, "33afc2fdf8e7a4fc49659eb5e711871fc73127f456bb5a96e2757e6904ee5e43"), looks := false }, kinds := [], alts := [], laidByText := true, laidKinds := [.data], laidTests := true, laidLooks := .later }
def FnExactTransformOverUptoCardSaid : Prop := Claim7.holds Tryd.pinned (.plain (OpenSpec.upto fnExactTransformOverSpec)) fnExactTransformOverUptoCard

/-- THE SECOND FORM's CARD OF 'laws.FnExactClashesOf'. -/
def fnExactClashesOfUptoCard : Claim7 := { stood := { row := fnExactClashesOfUptoRow, standIns := [], harness := (true, "33afc2fdf8e7a4fc49659eb5e711871fc73127f456bb5a96e2757e6904ee5e43"), looks := false }, kinds := [], alts := [], laidByText := true, laidKinds := [.data], laidTests := true, laidLooks := .later }
def FnExactClashesOfUptoCardSaid : Prop := Claim7.holds Tryd.pinned (.plain (OpenSpec.upto fnExactClashesOfSpec)) fnExactClashesOfUptoCard
end Rows
end Go.Proofs.YtpgacpfdchckfavDoor
