/- Shapes and lengths, for the exact laws over sequences. -/
import Derived.Test.YtnhooalibadeeabDoorSqIn
set_option linter.unusedVariables false
namespace Go.Proofs.YtnhooalibadeeabDoor
open Go.RowKit
open Doc1

theorem arg_shape {w : World} {v : Value} {l : List Am} (h : ArgAm w v l) : ∃ a c m, v = .slice a m c := by
  cases h with
  | nil a c => exact ⟨a, c, 0, rfl⟩
  | row b off c p h1 h2 h3 h4 h5 => exact ⟨_, c, _, rfl⟩
theorem szAmn_txt (l : List Am) (i : Nat) (hi : i < l.length) : l[i].byte.size ≤ szAmn l := by
  have h1 := szAmU_succ l i hi
  have h2 := szAmU_mono l (i + 1) l.length hi
  unfold szAmn
  omega
theorem AmCp.inn2 {w : World} {g : Nat} {l : List Am} (h : AmCp w g l) (hm : l.length ≤ 2000000) : AmIn w (some ⟨g, 0, none⟩) l.length l := h.inn (by unfold maxLen; omega)
end Go.Proofs.YtnhooalibadeeabDoor
