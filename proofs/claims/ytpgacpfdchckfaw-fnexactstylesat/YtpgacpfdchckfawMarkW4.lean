/- The contracts of CoveredBy, the model's and the program's. -/
import Derived.Test.YtpgacpfdchckfawMarkW3
namespace Go.Proofs.Ytpgacpfdchckfaw
open Go.RowKit
open Doc1

/-- How many bytes the marks of a style cover. -/
def cov1 (st : ByteArray) (m : Mk) : Int := if m.style.toList == st.toList then m.to - m.frm else 0
def covL (st : ByteArray) (l : List Mk) : Int := (l.map (cov1 st)).sum
theorem covL_snoc (st : ByteArray) (l : List Mk) (m : Mk) : covL st (l ++ [m]) = covL st l + cov1 st m := by simp [covL]
theorem goodM_ok {l : List Mk} {size : Int} (h : goodM l size = true) : size ≤ 300 ∧ l.length ≤ 40 ∧ ∀ i (hi : i < l.length), mkOk size l[i] = true := by
  unfold goodM at h
  simp only [Bool.and_eq_true, decide_eq_true_eq] at h
  refine ⟨h.1.2, h.2.1, fun i hi => ?_⟩
  have := mkTo_le l size (i + 1) l.length hi h.2.2
  rw [mkTo_succ, Bool.and_eq_true] at this
  cases i with
  | zero => rw [mkAt_zero hi] at this; exact this.2
  | succ j => rw [mkAt_succ hi, Bool.and_eq_true] at this; exact this.2.1
theorem goodM_size {l : List Mk} {size : Int} (h : goodM l size = true) : 0 ≤ size ∧ size ≤ 300 := by
  unfold goodM at h
  simp only [Bool.and_eq_true, decide_eq_true_eq] at h
  exact h.1
theorem cov1_bd {st : ByteArray} {size : Int} {m : Mk} (hz : size ≤ 300) (h : mkOk size m = true) : 0 ≤ cov1 st m ∧ cov1 st m ≤ 300 := by
  unfold mkOk at h
  simp only [Bool.and_eq_true, decide_eq_true_eq] at h
  unfold cov1
  split <;> omega
theorem covL_bd {st : ByteArray} {size : Int} (hz : size ≤ 300) : ∀ (l : List Mk), (∀ m ∈ l, mkOk size m = true) → 0 ≤ covL st l ∧ covL st l ≤ 300 * (l.length : Int)
  | [], _ => by simp [covL]
  | m :: l, h => by
    have h1 := cov1_bd (st := st) hz (h m (by simp))
    have h2 := covL_bd (st := st) hz l (fun x hx => h x (by simp [hx]))
    simp only [covL, List.map_cons, List.sum_cons, List.length_cons] at h2 ⊢
    omega
/-- What CoveredBy answers. -/
def covT (l : List Mk) (size : Int) (st : ByteArray) : Int := if goodM l size && isSt st then covL st l else 0
theorem covT_no {l : List Mk} {size : Int} {st : ByteArray} (h : (goodM l size && isSt st) = false) : covT l size st = 0 := by unfold covT; rw [h]; rfl
theorem covT_yes {l : List Mk} {size : Int} {st : ByteArray} (h : (goodM l size && isSt st) = true) : covT l size st = covL st l := by unfold covT; rw [h]; rfl

end Go.Proofs.Ytpgacpfdchckfaw
