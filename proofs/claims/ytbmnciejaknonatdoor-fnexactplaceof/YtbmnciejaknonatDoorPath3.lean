/- The plain mathematics of chapter 2, on: how a path is followed from part to part. -/
import Derived.Test.YtbmnciejaknonatDoorPath2
namespace Go.Proofs.YtbmnciejaknonatDoor
open Doc1

theorem get_sub (s : ByteArray) (b e j : Nat) (he : e ≤ s.size) (hj : j < e - b) : ∃ h1 : j < (s.extract b e).size, ∃ h2 : b + j < s.size, (s.extract b e)[j] = s[b + j] := by
  have h1 : j < (s.extract b e).size := by rw [ByteArray.size_extract]; omega
  exact ⟨h1, by omega, by simp [ByteArray.getElem_extract]⟩
theorem dep_shift (s : ByteArray) (b e : Nat) (he : e ≤ s.size) : ∀ j, j ≤ e - b → dep s.data.toList (b + j) = dep s.data.toList b + dep (s.extract b e).data.toList j
  | 0, _ => by rw [dep_zero]; simp
  | j + 1, h => by
    obtain ⟨h1, h2, hg⟩ := get_sub s b e j he (by omega)
    have ih := dep_shift s b e he j (by omega)
    rw [show b + (j + 1) = b + j + 1 by omega, dep_succ s (b + j) h2, dep_succ (s.extract b e) j h1, hg, ih]; omega
theorem end_up {s : ByteArray} {b e i K : Nat} (he : e ≤ s.size) (hK : IsEnd (s.extract b e) i K) : IsEnd s (b + i) (b + K) := by
  have hlo := hK.lo
  have hhi := hK.hi
  rw [ByteArray.size_extract] at hhi
  have D := dep_shift s b e he
  refine ⟨by omega, by omega, ?_, fun j h1 h2 => ?_⟩
  · rw [show b + K + 1 = b + (K + 1) by omega, D (K + 1) (by omega), D i (by omega), hK.at_]
  · have := hK.no (j - b) (by omega) (by omega)
    have e1 := D (j - b + 1) (by omega)
    have e2 := D i (by omega)
    rw [show b + (j - b + 1) = j + 1 by omega] at e1
    omega
/-- So far a path was followed: what lies between b and e. -/
structure Sub (S : ByteArray) (p : List Int) (fo : Option Nat) (j b e : Nat) : Prop where
  be : b ≤ e
  le : e ≤ S.size
  doc : doc (S.extract b e).data.toList = true
  path : ∀ c, b ≤ c → c ≤ e → path S.data.toList c = p.take j ++ Go.Proofs.YtbmnciejaknonatDoor.path (S.extract b e).data.toList (c - b)
  has : ∀ n, fo = some n → b ≤ n ∧ n ≤ e
theorem extract_in (s : ByteArray) (b e a c : Nat) (h : c ≤ e - b) (he : b ≤ e) : (s.extract b e).extract a c = s.extract (b + a) (b + c) := by
  rw [ByteArray.extract_extract]
  congr 1
  omega
theorem extract_all (s : ByteArray) : s.extract 0 s.size = s := by simp
theorem sub_start (S : ByteArray) (p : List Int) (fo : Option Nat) (hd : doc S.data.toList = true) (hf : ∀ n, fo = some n → n ≤ S.size) : Sub S p fo 0 0 S.size where
  be := Nat.zero_le _
  le := Nat.le_refl _
  doc := by rw [extract_all]; exact hd
  path := fun c _ _ => by rw [extract_all]; simp
  has := fun n hn => ⟨Nat.zero_le _, hf n hn⟩
/-- One part further. -/
theorem sub_next {S : ByteArray} {p : List Int} {fo : Option Nat} {j b e i K m : Nat} (h : Sub S p fo j b e) (hj : j + 1 < p.length) (hK : IsEnd (S.extract b e) i K) (ho : opB ((S.extract b e)[i]'(by have := hK.lo; have := hK.hi; omega)) = true) (hW : W (S.extract b e).data.toList i = ⟨[], m⟩) (hm : p[j] = (m : Int))
    (hfo : ∀ n, fo = some n → path S.data.toList n = p) : Sub S p fo (j + 1) (b + i + 1) (b + K) := by
  have hlo := hK.lo
  have hhi := hK.hi
  rw [ByteArray.size_extract] at hhi
  have hle := h.le
  have hbe := h.be
  have ex : S.extract (b + i + 1) (b + K) = (S.extract b e).extract (i + 1) K := by rw [extract_in S b e (i + 1) K (by omega) h.be, Nat.add_assoc]
  refine ⟨by omega, by omega, ?_, ?_, ?_⟩
  · rw [ex]; exact doc_inner3 h.doc hK ho
  · intro c h1 h2
    rw [h.path c (by omega) (by omega), path_in h.doc hK ho hW (by omega) (by omega), ex, List.take_succ_eq_append_getElem (by omega), hm, List.append_assoc]
    rw [show c - b - (i + 1) = c - (b + i + 1) by omega]
    rfl
  · intro n hn
    obtain ⟨g1, g2⟩ := h.has n hn
    have hp := h.path n g1 g2
    rw [hfo n hn] at hp
    have hdr : p.drop j = path (S.extract b e).data.toList (n - b) := by
      have := congrArg (List.drop j) hp
      rw [List.drop_append_of_le_length (by simp; omega)] at this
      simpa using this
    have hsz : n - b ≤ (S.extract b e).size := by rw [ByteArray.size_extract]; omega
    have hne : (W (S.extract b e).data.toList (n - b)).op ≠ [] := by
      intro h0
      rw [path_one h0] at hdr
      have := congrArg List.length hdr
      simp at this; omega
    obtain ⟨i', K', m', hi', ho', hK', hW', h3, h4⟩ := part_ex h.doc hsz hne
    rw [path_in h.doc hK' ho' hW' h3 h4, List.drop_eq_getElem_cons (by omega)] at hdr
    injection hdr with hd1 _
    rw [hm] at hd1
    obtain rfl : m = m' := by omega
    have hi1 : i < (S.extract b e).size := by rw [ByteArray.size_extract]; omega
    obtain rfl := same_part h.doc hi1 hi' ho ho' hW hW'
    obtain rfl := end_one hK hK'
    omega
/-- No part of that number: the path leads nowhere. -/
theorem sub_none {S : ByteArray} {p : List Int} {fo : Option Nat} {j b e c : Nat} (h : Sub S p fo j b e) (hj : j + 1 < p.length) (hW : W (S.extract b e).data.toList (e - b) = ⟨[], c⟩) (hc : 0 ≤ p[j] → (c : Int) ≤ p[j])
    (hfo : ∀ n, fo = some n → path S.data.toList n = p) : fo = none := by
  cases hf : fo with
  | none => rfl
  | some n =>
    exfalso
    obtain ⟨g1, g2⟩ := h.has n hf
    have hle := h.le
    have hp := h.path n g1 g2
    rw [hfo n hf] at hp
    have hdr : p.drop j = path (S.extract b e).data.toList (n - b) := by
      have := congrArg (List.drop j) hp
      rw [List.drop_append_of_le_length (by simp; omega)] at this
      simpa using this
    have hsz : n - b ≤ (S.extract b e).size := by rw [ByteArray.size_extract]; omega
    have hne : (W (S.extract b e).data.toList (n - b)).op ≠ [] := by
      intro h0
      rw [path_one h0] at hdr
      have := congrArg List.length hdr
      simp at this; omega
    obtain ⟨i', K', m', hi', ho', hK', hW', h3, h4⟩ := part_ex h.doc hsz hne
    rw [path_in h.doc hK' ho' hW' h3 h4, List.drop_eq_getElem_cons (by omega)] at hdr
    injection hdr with hd1 _
    have hhi := hK'.hi
    rw [ByteArray.size_extract] at hhi
    have hA := W_after h.doc hK' ho' hW'
    have := kids_mono h.doc (e - b) (K' + 1) (e - b) (m' + 1) c (by omega) (by omega) (by rw [ByteArray.size_extract]; omega) hA hW
    have := hc (by omega)
    omega
/-- The last number is the place within. -/
theorem sub_last {S : ByteArray} {p : List Int} {fo : Option Nat} {j b e n : Nat} (h : Sub S p fo j b e) (hj : j + 1 = p.length) (hn : fo = some n) (hfo : path S.data.toList n = p) : p[j] = ((n - b : Nat) : Int) ∧ b ≤ n ∧ n ≤ e := by
  obtain ⟨g1, g2⟩ := h.has n hn
  have hp := h.path n g1 g2
  rw [hfo] at hp
  have hle := h.le
  have hdr : p.drop j = path (S.extract b e).data.toList (n - b) := by
    have := congrArg (List.drop j) hp
    rw [List.drop_append_of_le_length (by simp; omega)] at this
    simpa using this
  have hsz : n - b ≤ (S.extract b e).size := by rw [ByteArray.size_extract]; omega
  by_cases h0 : (W (S.extract b e).data.toList (n - b)).op = []
  · rw [path_one h0, List.drop_eq_getElem_cons (by omega)] at hdr
    injection hdr with hd1 _
    exact ⟨hd1, g1, g2⟩
  · exfalso
    obtain ⟨i', K', m', hi', ho', hK', hW', h3, h4⟩ := part_ex h.doc hsz h0
    rw [path_in h.doc hK' ho' hW' h3 h4] at hdr
    have := congrArg List.length hdr
    have h5 := List.length_pos_iff.2 (path_ne ((S.extract b e).extract (i' + 1) K').data.toList (n - b - (i' + 1)))
    simp at this h5; omega
end Go.Proofs.YtbmnciejaknonatDoor
