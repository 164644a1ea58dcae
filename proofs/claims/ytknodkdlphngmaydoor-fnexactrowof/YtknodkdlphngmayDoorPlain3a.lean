/- The plain mathematics of chapter 1, on: beginnings and ends tell one another; what lies between is balanced. -/
import Derived.Test.YtknodkdlphngmayDoorPlain2
import Derived.Lib.Strings
namespace Go.Proofs.YtknodkdlphngmayDoor
open Doc1

theorem end_gt {s : ByteArray} {a K : Nat} (h : IsEnd s a K) (ho : dl (s[a]'(by have := h.lo; have := h.hi; omega)) = 1) : ∀ j, a < j → j ≤ K → dep s.data.toList a < dep s.data.toList j := by
  have hlo := h.lo
  have hhi := h.hi
  intro j
  induction j with
  | zero => intro h1 _; omega
  | succ j ih =>
    intro h1 h2
    have hs := dep_succ s j (by omega)
    by_cases e : a = j
    · subst e; rw [ho] at hs; omega
    · have i1 := ih (by omega) (by omega)
      have i2 := (dl_bd (s[j]'(by omega))).1
      have i3 := h.no j (by omega) (by omega)
      omega
theorem begin_gt {s : ByteArray} {a K : Nat} (h : IsBegin s a K) (ho : dl (s[a]'h.hi) = -1) : ∀ i, i < a - K → dep s.data.toList (a + 1) < dep s.data.toList (a - i) := by
  have hlo := h.lo
  have hhi := h.hi
  intro i
  induction i with
  | zero =>
    intro _
    have hs := dep_succ s a hhi
    rw [ho] at hs
    simp only [Nat.sub_zero]; omega
  | succ i ih =>
    intro h1
    have i1 := ih (by omega)
    have i2 := dep_succ s (a - (i + 1)) (by omega)
    rw [show a - (i + 1) + 1 = a - i by omega] at i2
    have i3 := (dl_bd (s[a - (i + 1)]'(by omega))).2
    have i4 := h.no (a - (i + 1)) (by omega) (by omega)
    omega
theorem end_begin {s : ByteArray} {a K : Nat} (h : IsEnd s a K) (ho : dl (s[a]'(by have := h.lo; have := h.hi; omega)) = 1) : dl (s[K]'h.hi) = -1 ∧ IsBegin s K a ∧ dep s.data.toList K = dep s.data.toList a + 1 := by
  have hlo := h.lo
  have hhi := h.hi
  have g := end_gt h ho
  have gK := g K hlo (Nat.le_refl _)
  have hs := dep_succ s K hhi
  have hb := dl_bd (s[K]'hhi)
  have ha := h.at_
  refine ⟨by omega, ⟨hlo, hhi, ha.symm, fun j h1 h2 => ?_⟩, by omega⟩
  have := g j h1 h2
  omega
theorem begin_end {s : ByteArray} {a K : Nat} (h : IsBegin s a K) (ho : dl (s[a]'h.hi) = -1) : dl (s[K]'(by have := h.lo; have := h.hi; omega)) = 1 ∧ IsEnd s K a ∧ dep s.data.toList a = dep s.data.toList K + 1 := by
  have hlo := h.lo
  have hhi := h.hi
  have g : ∀ j, K < j → j ≤ a → dep s.data.toList (a + 1) < dep s.data.toList j := by
    intro j h1 h2
    have := begin_gt h ho (a - j) (by omega)
    rw [show a - (a - j) = j by omega] at this
    exact this
  have gK := g (K + 1) (by omega) (by omega)
  have hs := dep_succ s K (by omega)
  have hb := dl_bd (s[K]'(by omega))
  have ha := h.at_
  have hsa := dep_succ s a hhi
  rw [ho] at hsa
  refine ⟨by omega, ⟨hlo, hhi, ha.symm, fun j h1 h2 => ?_⟩, by omega⟩
  have := g (j + 1) (by omega) (by omega)
  omega
theorem op_of_dl {c : UInt8} (h : dl c = 1) : opB c = true := by
  unfold dl at h
  split at h
  · assumption
  · split at h <;> omega
theorem en_of_dl {c : UInt8} (h : dl c = -1) : enB c = true := by
  unfold dl at h
  split at h
  · omega
  · split at h
    · assumption
    · omega

theorem sub_cons (s : ByteArray) (k b : Nat) (h : k < b) (hb : b ≤ s.size) : (s.data.toList.drop k).take (b - k) = s[k] :: (s.data.toList.drop (k + 1)).take (b - (k + 1)) := by
  rw [drop_cons s k (by omega), show b - k = (b - (k + 1)) + 1 by omega, List.take_succ_cons]
theorem rn_sub (s : ByteArray) (a b : Nat) (hb : b ≤ s.size) (h1 : ∀ j, a ≤ j → j ≤ b → dep s.data.toList a ≤ dep s.data.toList j ∧ dep s.data.toList j - dep s.data.toList a ≤ 12) (h2 : dep s.data.toList b = dep s.data.toList a) :
    ∀ i, i ≤ b - a → a ≤ b → rn ((s.data.toList.drop (b - i)).take i) (dep s.data.toList (b - i) - dep s.data.toList a) = true
  | 0, _, _ => by simp [rn, h2]
  | i + 1, hi, hab => by
    have ih := rn_sub s a b hb h1 h2 i (by omega) hab
    have hc := sub_cons s (b - (i + 1)) b (by omega) hb
    rw [show b - (b - (i + 1)) = i + 1 by omega, show b - (b - (i + 1) + 1) = i by omega, show b - (i + 1) + 1 = b - i by omega] at hc
    rw [hc]
    have hs := dep_succ s (b - (i + 1)) (by omega)
    rw [show b - (i + 1) + 1 = b - i by omega] at hs
    have hx : dep s.data.toList (b - (i + 1)) - dep s.data.toList a + dl (s[b - (i + 1)]'(by omega)) = dep s.data.toList (b - i) - dep s.data.toList a := by omega
    have hj := h1 (b - i) (by omega) (by omega)
    unfold rn
    rw [hx, ih]
    simp; omega
theorem rn_extract (s : ByteArray) (a b : Nat) (hab : a ≤ b) (hb : b ≤ s.size) (h1 : ∀ j, a ≤ j → j ≤ b → dep s.data.toList a ≤ dep s.data.toList j ∧ dep s.data.toList j - dep s.data.toList a ≤ 12) (h2 : dep s.data.toList b = dep s.data.toList a) :
    rn (s.extract a b).data.toList 0 = true := by
  have := rn_sub s a b hb h1 h2 (b - a) (Nat.le_refl _) hab
  rw [show b - (b - a) = a by omega] at this
  rw [Lib.extract_data]
  simpa using this
theorem dl_is_op {c : UInt8} (h : opB c = true) : dl c = 1 := by simp [dl, h]
theorem doc_sub3 (s : ByteArray) (hd : doc s.data.toList = true) (a b : Nat) : doc (s.extract a b).data.toList = rn (s.extract a b).data.toList 0 := by
  have hg : good (s.extract a b).data.toList = true := by
    have h1 : good s.data.toList = true := by unfold doc at hd; simp at hd; exact hd.1
    unfold good at h1 ⊢
    simp only [Bool.and_eq_true, decide_eq_true_eq] at h1 ⊢
    rw [Lib.extract_data]
    refine ⟨?_, ?_⟩
    · have h2 := h1.1
      unfold allOk at h2 ⊢
      rw [List.all_eq_true] at h2 ⊢
      intro c hc
      exact h2 c (List.mem_of_mem_drop (List.mem_of_mem_take hc))
    · rw [List.length_take, List.length_drop]; omega
  unfold doc
  rw [hg]; rfl
theorem doc_inner3 {s : ByteArray} {n K : Nat} (hd : doc s.data.toList = true) (hK : IsEnd s n K) (hp : opB (s[n]'(by have := hK.lo; have := hK.hi; omega)) = true) : doc (s.extract (n + 1) K).data.toList = true := by
  have hlo := hK.lo
  have hhi := hK.hi
  have g := end_gt hK (dl_is_op hp)
  have hn1 := dep_succ s n (by omega)
  rw [dl_is_op hp] at hn1
  have hKd := (end_begin hK (dl_is_op hp)).2.2
  rw [doc_sub3 s hd]
  refine rn_extract s (n + 1) K (by omega) (by omega) (fun j h1 h2 => ?_) (by omega)
  have b1 := dep_bd s hd j (by omega)
  have b2 := dep_bd s hd (n + 1) (by omega)
  have := g j (by omega) h2
  exact ⟨by omega, by omega⟩
end Go.Proofs.YtknodkdlphngmayDoor
