/- The plain mathematics of chapter 1, on: beginnings and ends tell one another; what lies between is balanced; outlines. -/
import Derived.Test.YtejjdfkaehopnaaDoorPlain2
import Derived.Test.YtejjdfkaehopnaaDoorWalks6
import Derived.Lib.Strings
namespace Go.Proofs.YtejjdfkaehopnaaDoor
open Doc1

theorem end_gt {s : ByteArray} {a K : Nat} (h : IsEnd s a K) (ho : dl (s[a]'(by have := h.lo; have := h.hi; omega)) = 1) : ∀ j, a < j → j ≤ K → dep s.data.toList a < dep s.data.toList j := by
  have hlo := h.lo
  have hhi := h.hi
  intro j
  induction j with
  | zero => intro h1 _; omega
  | succ j ih =>
    intro h1 h2
    have hs := dep_succ s j (by omega)
    by_cases e : a = j
    · subst e; rw [ho] at hs; omega
    · have i1 := ih (by omega) (by omega)
      have i2 := (dl_bd (s[j]'(by omega))).1
      have i3 := h.no j (by omega) (by omega)
      omega
theorem begin_gt {s : ByteArray} {a K : Nat} (h : IsBegin s a K) (ho : dl (s[a]'h.hi) = -1) : ∀ i, i < a - K → dep s.data.toList (a + 1) < dep s.data.toList (a - i) := by
  have hlo := h.lo
  have hhi := h.hi
  intro i
  induction i with
  | zero =>
    intro _
    have hs := dep_succ s a hhi
    rw [ho] at hs
    simp only [Nat.sub_zero]; omega
  | succ i ih =>
    intro h1
    have i1 := ih (by omega)
    have i2 := dep_succ s (a - (i + 1)) (by omega)
    rw [show a - (i + 1) + 1 = a - i by omega] at i2
    have i3 := (dl_bd (s[a - (i + 1)]'(by omega))).2
    have i4 := h.no (a - (i + 1)) (by omega) (by omega)
    omega
theorem end_begin {s : ByteArray} {a K : Nat} (h : IsEnd s a K) (ho : dl (s[a]'(by have := h.lo; have := h.hi; omega)) = 1) : dl (s[K]'h.hi) = -1 ∧ IsBegin s K a ∧ dep s.data.toList K = dep s.data.toList a + 1 := by
  have hlo := h.lo
  have hhi := h.hi
  have g := end_gt h ho
  have gK := g K hlo (Nat.le_refl _)
  have hs := dep_succ s K hhi
  have hb := dl_bd (s[K]'hhi)
  have ha := h.at_
  refine ⟨by omega, ⟨hlo, hhi, ha.symm, fun j h1 h2 => ?_⟩, by omega⟩
  have := g j h1 h2
  omega
theorem begin_end {s : ByteArray} {a K : Nat} (h : IsBegin s a K) (ho : dl (s[a]'h.hi) = -1) : dl (s[K]'(by have := h.lo; have := h.hi; omega)) = 1 ∧ IsEnd s K a ∧ dep s.data.toList a = dep s.data.toList K + 1 := by
  have hlo := h.lo
  have hhi := h.hi
  have g : ∀ j, K < j → j ≤ a → dep s.data.toList (a + 1) < dep s.data.toList j := by
    intro j h1 h2
    have := begin_gt h ho (a - j) (by omega)
    rw [show a - (a - j) = j by omega] at this
    exact this
  have gK := g (K + 1) (by omega) (by omega)
  have hs := dep_succ s K (by omega)
  have hb := dl_bd (s[K]'(by omega))
  have ha := h.at_
  have hsa := dep_succ s a hhi
  rw [ho] at hsa
  refine ⟨by omega, ⟨hlo, hhi, ha.symm, fun j h1 h2 => ?_⟩, by omega⟩
  have := g (j + 1) (by omega) (by omega)
  omega
theorem op_of_dl {c : UInt8} (h : dl c = 1) : opB c = true := by
  unfold dl at h
  split at h
  · assumption
  · split at h <;> omega
theorem en_of_dl {c : UInt8} (h : dl c = -1) : enB c = true := by
  unfold dl at h
  split at h
  · omega
  · split at h
    · assumption
    · omega

theorem sub_cons (s : ByteArray) (k b : Nat) (h : k < b) (hb : b ≤ s.size) : (s.data.toList.drop k).take (b - k) = s[k] :: (s.data.toList.drop (k + 1)).take (b - (k + 1)) := by
  rw [drop_cons s k (by omega), show b - k = (b - (k + 1)) + 1 by omega, List.take_succ_cons]
theorem rn_sub (s : ByteArray) (a b : Nat) (hb : b ≤ s.size) (h1 : ∀ j, a ≤ j → j ≤ b → dep s.data.toList a ≤ dep s.data.toList j ∧ dep s.data.toList j - dep s.data.toList a ≤ 12) (h2 : dep s.data.toList b = dep s.data.toList a) :
    ∀ i, i ≤ b - a → a ≤ b → rn ((s.data.toList.drop (b - i)).take i) (dep s.data.toList (b - i) - dep s.data.toList a) = true
  | 0, _, _ => by simp [rn, h2]
  | i + 1, hi, hab => by
    have ih := rn_sub s a b hb h1 h2 i (by omega) hab
    have hc := sub_cons s (b - (i + 1)) b (by omega) hb
    rw [show b - (b - (i + 1)) = i + 1 by omega, show b - (b - (i + 1) + 1) = i by omega, show b - (i + 1) + 1 = b - i by omega] at hc
    rw [hc]
    have hs := dep_succ s (b - (i + 1)) (by omega)
    rw [show b - (i + 1) + 1 = b - i by omega] at hs
    have hx : dep s.data.toList (b - (i + 1)) - dep s.data.toList a + dl (s[b - (i + 1)]'(by omega)) = dep s.data.toList (b - i) - dep s.data.toList a := by omega
    have hj := h1 (b - i) (by omega) (by omega)
    unfold rn
    rw [hx, ih]
    simp; omega
theorem rn_extract (s : ByteArray) (a b : Nat) (hab : a ≤ b) (hb : b ≤ s.size) (h1 : ∀ j, a ≤ j → j ≤ b → dep s.data.toList a ≤ dep s.data.toList j ∧ dep s.data.toList j - dep s.data.toList a ≤ 12) (h2 : dep s.data.toList b = dep s.data.toList a) :
    rn (s.extract a b).data.toList 0 = true := by
  have := rn_sub s a b hb h1 h2 (b - a) (Nat.le_refl _) hab
  rw [show b - (b - a) = a by omega] at this
  rw [Lib.extract_data]
  simpa using this

theorem dl_plain {c : UInt8} (h : plB c = true) : dl c = 0 := by
  have := sep c
  rw [h] at this
  simp at this
  simp [dl, this]
theorem rn_flt : ∀ (l : List UInt8) (d : Int), 0 ≤ d → d ≤ 12 → rn (flt false l) d = rn l d
  | [], _, _, _ => rfl
  | c :: l, d, h0, h1 => by
    by_cases hp : plB c = true
    · have e : flt false (c :: l) = flt false l := by simp [flt, hp]
      rw [e, rn_flt l d h0 h1]
      unfold rn
      rw [dl_plain hp, Int.add_zero]
      simp [h0, h1]
      rw [← rn.eq_def]
    · have e : flt false (c :: l) = c :: flt false l := by simp [flt, hp]
      rw [e]
      unfold rn
      by_cases hr : 0 ≤ d + dl c ∧ d + dl c ≤ 12
      · rw [rn_flt l _ hr.1 hr.2]
      · have : (decide (0 ≤ d + dl c) && decide (d + dl c ≤ 12)) = false := by simp; omega
        rw [this]; rfl
theorem good_flt (l : List UInt8) (h : good l = true) : good (flt false l) = true := by
  unfold good at h ⊢
  simp only [Bool.and_eq_true, decide_eq_true_eq] at h ⊢
  refine ⟨?_, Nat.le_trans (flt_len false l) h.2⟩
  unfold allOk at *
  rw [List.all_eq_true] at *
  intro c hc
  exact h.1 c ((List.mem_filter.1 hc).1)
theorem doc_flt (l : List UInt8) (h : good l = true) : doc (flt false l) = doc l := by
  unfold doc
  rw [good_flt l h, h, rn_flt l 0 (by omega) (by omega)]
theorem flt_both (l : List UInt8) : (flt true l).length + (flt false l).length = l.length := by
  induction l with
  | nil => rfl
  | cons c l ih =>
    by_cases hp : plB c = true
    · have e1 : flt true (c :: l) = c :: flt true l := by simp [flt, hp]
      have e2 : flt false (c :: l) = flt false l := by simp [flt, hp]
      rw [e1, e2]; simp; omega
    · have e1 : flt true (c :: l) = flt true l := by simp [flt, hp]
      have e2 : flt false (c :: l) = c :: flt false l := by simp [flt, hp]
      rw [e1, e2]; simp; omega
end Go.Proofs.YtejjdfkaehopnaaDoor
