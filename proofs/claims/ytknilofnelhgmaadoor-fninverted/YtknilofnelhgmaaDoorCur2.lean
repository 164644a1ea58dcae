/- The drawing of a change of a text: how far it is to the next round that goes further. -/
import Derived.Test.YtknilofnelhgmaaDoorCur1
import Derived.Test.YtknilofnelhgmaaDoorPlain2
namespace Go.Proofs.YtknilofnelhgmaaDoor
open Go.RowKit
open Doc1

/-- From a seed, the least round that goes further. -/
noncomputable def dist (y : Nat) : Nat := Classical.choose (least (adv_ex y))
theorem dist_spec (y : Nat) : (dist y ≤ 8589934594 ∧ itN lG (dist y) y / 1099511627776 % 4 ≠ 1) ∧ ∀ m, m < dist y → ¬ (m ≤ 8589934594 ∧ itN lG m y / 1099511627776 % 4 ≠ 1) := Classical.choose_spec (least (adv_ex y))
theorem dist_pos {y : Nat} (h : y / 1099511627776 % 4 = 1) : 0 < dist y := by
  have := (dist_spec y).1.2
  rcases Nat.eq_zero_or_pos (dist y) with h0 | h0
  · rw [h0, itN_zero] at this; exact absurd h this
  · exact h0
theorem dist_next {y : Nat} (h : y / 1099511627776 % 4 = 1) : dist (lG y) < dist y := by
  have h1 := dist_pos h
  have h2 := dist_spec y
  have h3 := dist_spec (lG y)
  obtain ⟨d, hd⟩ : ∃ d, dist y = d + 1 := ⟨dist y - 1, by omega⟩
  rcases Nat.lt_or_ge d (dist (lG y)) with c | c
  · exfalso
    refine h3.2 d c ⟨by omega, ?_⟩
    have := h2.1.2
    rw [hd, itN] at this
    exact this
  · omega
theorem lT_lG (x : Nat) : lT (lT (lG x)) = lG (lT (lT x)) := rfl
/-- How many rounds may be left: the text that is left, and how far the next step lies. -/
noncomputable def farX (n i x : Nat) : Nat := if i < n then n - i + 8589934596 else dist (lT (lT x))
theorem far_le (n i x : Nat) : farX n i x ≤ n + 8589934596 := by
  unfold farX
  split
  · omega
  · have := (dist_spec (lT (lT x))).1.1; omega
theorem far_next {n i x x3 : Nat} (h : n ≤ i → (lT (lT x) / 1099511627776 % 4 = 1 ∧ x3 = lG x)) : farX n (i + 3) x3 < farX n i x := by
  unfold farX
  by_cases c : i < n
  · rw [if_pos c]
    split
    · omega
    · have := (dist_spec (lT (lT x3))).1.1; omega
  · obtain ⟨h1, h2⟩ := h (by omega)
    rw [if_neg c, if_neg (by omega), h2, lT_lG]
    exact dist_next h1
end Go.Proofs.YtknilofnelhgmaaDoor
