/- The plain mathematics of chapter 2, on: a path tells its place. -/
import Derived.Test.YtbmnciejaknonatDoorPath1
namespace Go.Proofs.YtbmnciejaknonatDoor
open Doc1

theorem top_next {s : ByteArray} (hd : doc s.data.toList = true) {q c : Nat} (hq : q < s.size) (hW : W s.data.toList q = ⟨[], c⟩) :
    (opB s[q] = false ∧ W s.data.toList (q + 1) = ⟨[], c⟩) ∨ (opB s[q] = true ∧ ∃ K, IsEnd s q K ∧ W s.data.toList (K + 1) = ⟨[], c + 1⟩) := by
  by_cases ho : opB s[q] = true
  · obtain ⟨K, hK⟩ := end_ex s hd q hq (dl_is_op ho)
    exact Or.inr ⟨ho, K, hK, W_after hd hK ho hW⟩
  · left
    refine ⟨by simpa using ho, ?_⟩
    have hne : enB s[q] = false := by
      cases he : enB s[q] with
      | false => rfl
      | true =>
        have h1 := dep_succ s q hq
        have h2 := (dep_bd s hd (q + 1) (by omega)).1
        have h3 := W_len s hd q (by omega)
        rw [hW] at h3
        simp only [List.length_nil] at h3
        rw [show dl s[q] = -1 by simp [dl, op_of_en he, he]] at h1
        omega
    rw [W_succ s q hq, wst_pl (by simpa using ho) hne, hW]
theorem top_beyond {s : ByteArray} (hd : doc s.data.toList = true) {q K b c : Nat} (hK : IsEnd s q K) (ho : opB (s[q]'(by have := hK.lo; have := hK.hi; omega)) = true) (hq : W s.data.toList q = ⟨[], c⟩) (hb : b ≤ s.size) (hqb : q < b) (hW : (W s.data.toList b).op = []) : K < b := by
  apply Classical.byContradiction
  intro hn
  have h1 := end_gt hK (dl_is_op ho) b hqb (by omega)
  have h2 := W_len s hd b hb
  have h3 := W_len s hd q (by have := hK.lo; have := hK.hi; omega)
  rw [hW] at h2
  rw [hq] at h3
  simp only [List.length_nil] at h2 h3
  omega
theorem kids_mono {s : ByteArray} (hd : doc s.data.toList = true) : ∀ (d q b c c' : Nat), b - q ≤ d → q ≤ b → b ≤ s.size → W s.data.toList q = ⟨[], c⟩ → W s.data.toList b = ⟨[], c'⟩ → c ≤ c'
  | 0, q, b, c, c', h, h1, h2, h3, h4 => by
    obtain rfl : q = b := by omega
    rw [h3] at h4
    injection h4 with _ h5
    omega
  | d + 1, q, b, c, c', h, h1, h2, h3, h4 => by
    by_cases e : q = b
    · subst e; rw [h3] at h4; injection h4 with _ h5; omega
    · rcases top_next hd (by omega) h3 with ⟨_, h5⟩ | ⟨ho, K, hK, h5⟩
      · exact kids_mono hd d (q + 1) b c c' (by omega) (by omega) h2 h5 h4
      · have := top_beyond hd hK ho h3 h2 (by omega) (by rw [h4])
        have hlo := hK.lo
        have := kids_mono hd d (K + 1) b (c + 1) c' (by omega) (by omega) h2 h5 h4
        omega
/-- Two parts of one number are one. -/
theorem same_part {s : ByteArray} (hd : doc s.data.toList = true) {q i m : Nat} (hq : q < s.size) (hi : i < s.size) (oq : opB s[q] = true) (oi : opB s[i] = true) (hW : W s.data.toList q = ⟨[], m⟩) (hW' : W s.data.toList i = ⟨[], m⟩) : q = i := by
  have key : ∀ {a b : Nat} (ha : a < s.size) (_ : b < s.size), opB (s[a]'ha) = true → W s.data.toList a = ⟨[], m⟩ → W s.data.toList b = ⟨[], m⟩ → ¬ a < b := by
    intro a b ha hb oa h1 h2 hlt
    rcases top_next hd ha h1 with ⟨h, _⟩ | ⟨_, K, hK, h5⟩
    · rw [oa] at h; cases h
    · have := top_beyond hd hK oa h1 (by omega) hlt (by rw [h2])
      have := kids_mono hd (b - (K + 1)) (K + 1) b (m + 1) m (Nat.le_refl _) (by omega) (by omega) h5 h2
      omega
  have h1 := key hq hi oq hW hW'
  have h2 := key hi hq oi hW' hW
  omega
theorem end_one {s : ByteArray} {a K K' : Nat} (h : IsEnd s a K) (h' : IsEnd s a K') : K = K' := by
  have h1 := h.no K'
  have h2 := h'.no K
  have := h.lo
  have := h'.lo
  have := h.at_
  have := h'.at_
  apply Classical.byContradiction
  intro hne
  by_cases hlt : K < K'
  · exact h2 (by omega) hlt h.at_
  · exact h1 (by omega) (by omega) h'.at_
/-- A place that is not outside of all parts is in one. -/
theorem part_of {s : ByteArray} (hd : doc s.data.toList = true) {a : Nat} (ha : a ≤ s.size) (hne : (W s.data.toList a).op ≠ []) : ∀ (d q c : Nat), a - q ≤ d → q ≤ a → W s.data.toList q = ⟨[], c⟩ →
    ∃ (i K m : Nat) (hi : i < s.size), opB s[i] = true ∧ IsEnd s i K ∧ W s.data.toList i = ⟨[], m⟩ ∧ i < a ∧ a ≤ K
  | 0, q, c, h, h1, h2 => by
    obtain rfl : q = a := by omega
    rw [h2] at hne; exact absurd rfl hne
  | d + 1, q, c, h, h1, h2 => by
    by_cases e : q = a
    · subst e; rw [h2] at hne; exact absurd rfl hne
    · rcases top_next hd (by omega) h2 with ⟨_, h5⟩ | ⟨ho, K, hK, h5⟩
      · exact part_of hd ha hne d (q + 1) c (by omega) (by omega) h5
      · by_cases hKa : a ≤ K
        · exact ⟨q, K, c, by omega, ho, hK, h2, by omega, hKa⟩
        · have := hK.lo
          exact part_of hd ha hne d (K + 1) (c + 1) (by omega) (by omega) h5
theorem part_ex {s : ByteArray} (hd : doc s.data.toList = true) {a : Nat} (ha : a ≤ s.size) (hne : (W s.data.toList a).op ≠ []) : ∃ (i K m : Nat) (hi : i < s.size), opB s[i] = true ∧ IsEnd s i K ∧ W s.data.toList i = ⟨[], m⟩ ∧ i < a ∧ a ≤ K :=
  part_of hd ha hne a 0 0 (by omega) (by omega) rfl
theorem path_one {s : ByteArray} {a : Nat} : (W s.data.toList a).op = [] → path s.data.toList a = [(a : Int)] := by
  intro h; unfold path pathL; rw [h]; simp
theorem path_ne (s : List UInt8) (a : Nat) : path s a ≠ [] := by unfold path pathL; simp
/-- A path tells its place. -/
theorem path_inj : ∀ (n : Nat) (s : ByteArray), s.size ≤ n → doc s.data.toList = true → ∀ a b, a ≤ s.size → b ≤ s.size → path s.data.toList a = path s.data.toList b → a = b := by
  intro n
  induction n with
  | zero => intro s hs _ a b ha hb _; omega
  | succ n ih =>
    intro s hs hd a b ha hb h
    by_cases h1 : (W s.data.toList a).op = []
    · by_cases h2 : (W s.data.toList b).op = []
      · rw [path_one h1, path_one h2] at h
        injection h with h _
        omega
      · obtain ⟨i, K, m, hi, ho, hK, hW, h3, h4⟩ := part_ex hd hb h2
        rw [path_one h1, path_in hd hK ho hW h3 h4] at h
        injection h with _ h
        exact absurd h.symm (path_ne _ _)
    · obtain ⟨i, K, m, hi, ho, hK, hW, h3, h4⟩ := part_ex hd ha h1
      by_cases h2 : (W s.data.toList b).op = []
      · rw [path_one h2, path_in hd hK ho hW h3 h4] at h
        injection h with _ h
        exact absurd h (path_ne _ _)
      · obtain ⟨i', K', m', hi', ho', hK', hW', h3', h4'⟩ := part_ex hd hb h2
        rw [path_in hd hK ho hW h3 h4, path_in hd hK' ho' hW' h3' h4'] at h
        injection h with hm h
        obtain rfl : m = m' := by omega
        obtain rfl := same_part hd hi hi' ho ho' hW hW'
        obtain rfl := end_one hK hK'
        have hlo := hK.lo
        have hhi := hK.hi
        have := ih (s.extract (i + 1) K) (by rw [ByteArray.size_extract]; omega) (doc_inner3 hd hK ho) (a - (i + 1)) (b - (i + 1)) (by rw [ByteArray.size_extract]; omega) (by rw [ByteArray.size_extract]; omega) h
        omega
end Go.Proofs.YtbmnciejaknonatDoor
