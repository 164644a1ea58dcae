/- The row of steps that are collected, cell by cell. -/
import Derived.Test.YtknilofnelhgmaaDoorColl1
namespace Go.Proofs.YtknilofnelhgmaaDoor
open Go.RowKit
open Doc1

theorem stC_at (L : List St) (i : Nat) (h : i < L.length) : (stC L)[i * 2]? = some (.int .i64 (L[i].k : Int)) ∧ (stC L)[i * 2 + 1]? = some (.int .u8 (L[i].c.toNat : Int)) := by
  induction L generalizing i with
  | nil => simp at h
  | cons x L ih =>
    have e : stC (x :: L) = [.int .i64 (x.k : Int), .int .u8 (x.c.toNat : Int)] ++ stC L := by simp [stC]
    rw [e]
    cases i with
    | zero => simp
    | succ i =>
      have := ih i (by simpa using h)
      rw [List.getElem?_append_right (by simp; omega), List.getElem?_append_right (by simp; omega)]
      simp only [List.length_cons, List.length_nil, Nat.zero_add, List.getElem_cons_succ]
      rw [show (i + 1) * 2 - (1 + 1) = i * 2 by omega, show (i + 1) * 2 + 1 - (1 + 1) = i * 2 + 1 by omega]
      exact this
/-- The row of the other change's steps, cell by cell. -/
theorem steps_row {W : World} {vS : Value} {ys : List St} (h : W.ownsRow 0 84 2 vS ys.length (stC ys)) (hp : 0 < ys.length) : ∃ g cap, vS = .slice (some ⟨g, 0, none⟩) ys.length cap ∧ ys.length ≤ cap ∧ cap ≤ maxLen ∧ ∀ i (hi : i < ys.length), W.cell? ⟨g, i * 2, none⟩ = some (.int .i64 (ys[i].k : Int)) ∧ W.cell? ⟨g, i * 2 + 1, none⟩ = some (.int .u8 (ys[i].c.toNat : Int)) := by
  obtain ⟨g, cap, hv, h1, h2, -, -, h4, -⟩ := own_cat h hp
  exact ⟨g, cap, hv, h1, h2, fun i hi => ⟨h4 _ _ (stC_at ys i hi).1, h4 _ _ (stC_at ys i hi).2⟩⟩
end Go.Proofs.YtknilofnelhgmaaDoor
