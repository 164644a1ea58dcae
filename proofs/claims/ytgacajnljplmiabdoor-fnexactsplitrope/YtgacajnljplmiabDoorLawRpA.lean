/- Lengths, for the exact laws of chapter 12. -/
import Derived.Test.YtgacajnljplmiabDoorRpt7
import Derived.Test.YtgacajnljplmiabDoorRpH
set_option linter.unusedVariables false
namespace Go.Proofs.YtgacajnljplmiabDoor
open Go.RowKit
open Doc1

theorem arg_shape {w : World} {v : Value} {l : List Bg} (h : ArgBo w v l) : ∃ a c m, v = .slice a m c := by
  cases h with
  | nil a c => exact ⟨a, c, 0, rfl⟩
  | row b off c p h1 h2 h3 h4 h5 => exact ⟨_, c, _, rfl⟩

theorem szBon_txt (l : List Bg) (i : Nat) (hi : i < l.length) : l[i].text.size ≤ szBon l := by
  have h1 := szBoU_succ l i hi
  have h2 := szBoU_mono l (i + 1) l.length hi
  unfold szBon
  omega

theorem okB_len (o : Option Lm) : (okB o).length ≤ 1000000 := by
  unfold okB
  by_cases h : fit o = true
  · rw [if_pos h]
    unfold fit at h
    simp at h
    cases o with
    | none => simp [bo]
    | some t => simp only [bo, Lm.pd_len]; simp only [nbO] at h; omega
  · rw [if_neg h]; simp

theorem roL_len (s : ByteArray) : (roL s).length ≤ 1000000 := by
  unfold roL
  split
  · exact okB_len _
  · simp

theorem rbL_len (l : List Bg) : (rbL l).length ≤ 1000000 := by
  unfold rbL
  split
  · exact okB_len _
  · simp

theorem jnL_len (l m : List Bg) : (jnL l m).length ≤ 1000000 := by
  unfold jnL
  split
  · exact okB_len _
  · simp

theorem pcR_len (l : List Bg) : (pcO (rtO l)).length ≤ 1000000 := by
  have := pcO_len (rtO l)
  have := rt_ok l
  omega
end Go.Proofs.YtgacajnljplmiabDoor
