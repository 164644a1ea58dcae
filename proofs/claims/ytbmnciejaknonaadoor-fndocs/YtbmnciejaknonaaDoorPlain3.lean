/- The plain mathematics of chapter 1, on: outlines. -/
import Derived.Test.YtbmnciejaknonaaDoorPlain3a
import Derived.Test.YtbmnciejaknonaaDoorWalks6
namespace Go.Proofs.YtbmnciejaknonaaDoor
open Doc1

theorem dl_plain {c : UInt8} (h : plB c = true) : dl c = 0 := by
  have := sep c
  rw [h] at this
  simp at this
  simp [dl, this]
theorem rn_flt : ∀ (l : List UInt8) (d : Int), 0 ≤ d → d ≤ 12 → rn (flt false l) d = rn l d
  | [], _, _, _ => rfl
  | c :: l, d, h0, h1 => by
    by_cases hp : plB c = true
    · have e : flt false (c :: l) = flt false l := by simp [flt, hp]
      rw [e, rn_flt l d h0 h1]
      unfold rn
      rw [dl_plain hp, Int.add_zero]
      simp [h0, h1]
      rw [← rn.eq_def]
    · have e : flt false (c :: l) = c :: flt false l := by simp [flt, hp]
      rw [e]
      unfold rn
      by_cases hr : 0 ≤ d + dl c ∧ d + dl c ≤ 12
      · rw [rn_flt l _ hr.1 hr.2]
      · have : (decide (0 ≤ d + dl c) && decide (d + dl c ≤ 12)) = false := by simp; omega
        rw [this]; rfl
theorem good_flt (l : List UInt8) (h : good l = true) : good (flt false l) = true := by
  unfold good at h ⊢
  simp only [Bool.and_eq_true, decide_eq_true_eq] at h ⊢
  refine ⟨?_, Nat.le_trans (flt_len false l) h.2⟩
  unfold allOk at *
  rw [List.all_eq_true] at *
  intro c hc
  exact h.1 c ((List.mem_filter.1 hc).1)
theorem doc_flt (l : List UInt8) (h : good l = true) : doc (flt false l) = doc l := by
  unfold doc
  rw [good_flt l h, h, rn_flt l 0 (by omega) (by omega)]
theorem flt_both (l : List UInt8) : (flt true l).length + (flt false l).length = l.length := by
  induction l with
  | nil => rfl
  | cons c l ih =>
    by_cases hp : plB c = true
    · have e1 : flt true (c :: l) = c :: flt true l := by simp [flt, hp]
      have e2 : flt false (c :: l) = flt false l := by simp [flt, hp]
      rw [e1, e2]; simp; omega
    · have e1 : flt true (c :: l) = flt true l := by simp [flt, hp]
      have e2 : flt false (c :: l) = c :: flt false l := by simp [flt, hp]
      rw [e1, e2]; simp; omega
end Go.Proofs.YtbmnciejaknonaaDoor
