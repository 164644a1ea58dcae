/- Borders of a text and where it stands in another one: what goes on or falls back is the longest beginning that is met. -/
import Derived.Test.YtfiefklhhchebaaDoorPlain
set_option linter.unusedVariables false
namespace Go.Proofs.YtfiefklhhchebaaDoor
open Go

/-- The last n of the first m of S are the first n of A. -/
def suf (A S : List UInt8) (m n : Nat) : Bool := decide (n ≤ m) && (List.range n).all fun j => A.getD j 0 == S.getD (m - n + j) 0
theorem suf_iff {A S : List UInt8} {m n : Nat} : suf A S m n = true ↔ n ≤ m ∧ ∀ j, j < n → A.getD j 0 = S.getD (m - n + j) 0 := by
  unfold suf; simp [List.all_eq_true]
theorem suf_0 (A S : List UInt8) (m : Nat) : suf A S m 0 = true := suf_iff.2 ⟨Nat.zero_le _, fun j hj => by omega⟩
theorem suf_self (A : List UInt8) (m : Nat) : suf A A m m = true := suf_iff.2 ⟨Nat.le_refl _, fun j hj => by rw [show m - m + j = j by omega]⟩
theorem suf_step {A S : List UInt8} {m n : Nat} : suf A S (m + 1) (n + 1) = true ↔ suf A S m n = true ∧ A.getD n 0 = S.getD m 0 := by
  rw [suf_iff, suf_iff]
  constructor
  · rintro ⟨h1, h2⟩
    refine ⟨⟨by omega, fun j hj => ?_⟩, ?_⟩
    · have := h2 j (by omega)
      rwa [show m + 1 - (n + 1) + j = m - n + j by omega] at this
    · have := h2 n (by omega)
      rwa [show m + 1 - (n + 1) + n = m by omega] at this
  · rintro ⟨⟨h1, h2⟩, h3⟩
    refine ⟨by omega, fun j hj => ?_⟩
    by_cases he : j = n
    · rw [he, show m + 1 - (n + 1) + n = m by omega]; exact h3
    · have := h2 j (by omega)
      rwa [show m + 1 - (n + 1) + j = m - n + j by omega]
theorem suf_trans {A S : List UInt8} {m n k : Nat} (h1 : suf A S m n = true) (h2 : suf A A n k = true) : suf A S m k = true := by
  rw [suf_iff] at *
  refine ⟨by omega, fun j hj => ?_⟩
  rw [h2.2 j hj, h1.2 (n - k + j) (by omega), show m - n + (n - k + j) = m - k + j by omega]
theorem suf_within {A S : List UInt8} {m n k : Nat} (h1 : suf A S m n = true) (h2 : suf A S m k = true) (hk : k ≤ n) : suf A A n k = true := by
  rw [suf_iff] at *
  refine ⟨hk, fun j hj => ?_⟩
  rw [h2.2 j hj, h1.2 (n - k + j) (by omega), show m - n + (n - k + j) = m - k + j by omega]

/-- The greatest below N of which P tells, or nought. -/
def top (P : Nat → Bool) : Nat → Nat
  | 0 => 0
  | n + 1 => if P n then n else top P n
/-- n is the greatest below N. -/
structure Mx (A S : List UInt8) (m N n : Nat) : Prop where
  is : suf A S m n = true
  lt : n < N
  mx : ∀ k, k < N → suf A S m k = true → k ≤ n
theorem Mx.same {A S : List UInt8} {m N n k : Nat} (h : Mx A S m N n) (g : Mx A S m N k) : n = k := Nat.le_antisymm (g.mx n h.lt h.is) (h.mx k g.lt g.is)
theorem top_mx (A S : List UInt8) (m : Nat) : ∀ N, 0 < N → Mx A S m N (top (suf A S m) N)
  | 1, _ => ⟨by unfold top; split <;> exact suf_0 _ _ _, by unfold top; split <;> simp [top], fun k hk _ => by omega⟩
  | N + 2, _ => by
    have ih := top_mx A S m (N + 1) (by omega)
    rw [top]
    by_cases h : suf A S m (N + 1) = true
    · rw [if_pos h]; exact ⟨h, by omega, fun k hk _ => by omega⟩
    · rw [if_neg h]
      refine ⟨ih.is, by have := ih.lt; omega, fun k hk hs => ?_⟩
      by_cases he : k = N + 1
      · rw [he] at hs; exact absurd hs h
      · exact ih.mx k (by omega) hs
/-- How long the longest border of the first k is. -/
def brd (A : List UInt8) (k : Nat) : Nat := top (suf A A k) k
theorem brd_mx (A : List UInt8) {k : Nat} (h : 0 < k) : Mx A A k k (brd A k) := top_mx A A k k h
theorem brd_lt (A : List UInt8) {k : Nat} (h : k ≠ 0) : brd A k < k := (brd_mx A (by omega)).lt
theorem brd_le (A : List UInt8) (k : Nat) : brd A k ≤ k := by
  by_cases h : k = 0
  · subst h; exact Nat.le_refl _
  · exact Nat.le_of_lt (brd_lt A h)
theorem brd_1 (A : List UInt8) : brd A 1 = 0 := by have := brd_lt A (k := 1) (by omega); omega

/-- A border goes on, or falls back. -/
def kfl (A : List UInt8) (c : UInt8) (n : Nat) : Nat := if A.getD n 0 = c then n + 1 else if h : n = 0 then 0 else kfl A c (brd A n)
termination_by n
decreasing_by exact brd_lt A h
/-- How many looks that takes. -/
def kfs (A : List UInt8) (c : UInt8) (n : Nat) : Nat := if A.getD n 0 = c then 1 else if h : n = 0 then 1 else 1 + kfs A c (brd A n)
termination_by n
decreasing_by exact brd_lt A h
theorem kfl_yes {A : List UInt8} {c : UInt8} {n : Nat} (h : A.getD n 0 = c) : kfl A c n = n + 1 := by rw [kfl, if_pos h]
theorem kfl_no {A : List UInt8} {c : UInt8} (h : ¬ A.getD 0 0 = c) : kfl A c 0 = 0 := by rw [kfl, if_neg h, dif_pos rfl]
theorem kfl_back {A : List UInt8} {c : UInt8} {n : Nat} (h : ¬ A.getD n 0 = c) (hn : n ≠ 0) : kfl A c n = kfl A c (brd A n) := by rw [kfl, if_neg h, dif_neg hn]
theorem kfs_yes {A : List UInt8} {c : UInt8} {n : Nat} (h : A.getD n 0 = c) : kfs A c n = 1 := by rw [kfs, if_pos h]
theorem kfs_no {A : List UInt8} {c : UInt8} (h : ¬ A.getD 0 0 = c) : kfs A c 0 = 1 := by rw [kfs, if_neg h, dif_pos rfl]
theorem kfs_back {A : List UInt8} {c : UInt8} {n : Nat} (h : ¬ A.getD n 0 = c) (hn : n ≠ 0) : kfs A c n = 1 + kfs A c (brd A n) := by rw [kfs, if_neg h, dif_neg hn]
theorem kfs_bd (A : List UInt8) (c : UInt8) (n : Nat) : kfs A c n + kfl A c n ≤ n + 2 := by
  induction n using Nat.strongRecOn with
  | ind n ih =>
    by_cases h : A.getD n 0 = c
    · rw [kfs_yes h, kfl_yes h]; omega
    · by_cases hn : n = 0
      · subst hn; rw [kfs_no h, kfl_no h]; omega
      · have := ih _ (brd_lt A hn)
        have := brd_lt A hn
        rw [kfs_back h hn, kfl_back h hn]; omega
theorem kfl_le (A : List UInt8) (c : UInt8) (n : Nat) : kfl A c n ≤ n + 1 := by
  induction n using Nat.strongRecOn with
  | ind n ih =>
    by_cases h : A.getD n 0 = c
    · rw [kfl_yes h]; omega
    · by_cases hn : n = 0
      · subst hn; rw [kfl_no h]; omega
      · have := ih _ (brd_lt A hn)
        have := brd_lt A hn
        rw [kfl_back h hn]; omega

theorem kfl_mx {A S : List UInt8} {m N : Nat} (n : Nat) (h1 : suf A S m n = true) (h2 : n < N) (h3 : ∀ k, k < N → suf A S (m + 1) (k + 1) = true → k ≤ n) : Mx A S (m + 1) (N + 1) (kfl A (S.getD m 0) n) := by
  induction n using Nat.strongRecOn with
  | ind n ih =>
    by_cases h : A.getD n 0 = S.getD m 0
    · rw [kfl_yes h]
      refine ⟨suf_step.2 ⟨h1, h⟩, by omega, fun k hk hs => ?_⟩
      cases k with
      | zero => omega
      | succ k => have := h3 k (by omega) hs; omega
    · by_cases hn : n = 0
      · subst hn
        rw [kfl_no h]
        refine ⟨suf_0 _ _ _, by omega, fun k hk hs => ?_⟩
        cases k with
        | zero => omega
        | succ k =>
          have hk0 := h3 k (by omega) hs
          obtain rfl : k = 0 := by omega
          exact absurd (suf_step.1 hs).2 h
      · rw [kfl_back h hn]
        have hb := brd_mx A (k := n) (by omega)
        refine ih _ hb.lt (suf_trans h1 hb.is) (by have := hb.lt; omega) (fun k hk hs => ?_)
        have hkn := h3 k hk hs
        have hne : k ≠ n := by rintro rfl; exact h (suf_step.1 hs).2
        exact hb.mx k (by omega) (suf_within h1 (suf_step.1 hs).1 hkn)
theorem Mx.step {A S : List UInt8} {m N n : Nat} (h : Mx A S m N n) : Mx A S (m + 1) (N + 1) (kfl A (S.getD m 0) n) :=
  kfl_mx n h.is h.lt (fun k hk hs => h.mx k hk (suf_step.1 hs).1)
/-- The next border. -/
theorem brd_step (A : List UInt8) {i : Nat} (h : 0 < i) : brd A (i + 1) = kfl A (A.getD i 0) (brd A i) := (brd_mx A (by omega)).same (brd_mx A h).step

/-- How much of A is met behind m of S, not all of it. -/
def pos (A S : List UInt8) (m : Nat) : Nat := top (suf A S m) A.length
theorem pos_mx (A S : List UInt8) (m : Nat) (h : 0 < A.length) : Mx A S m A.length (pos A S m) := top_mx A S m _ h
theorem pos_0 (A S : List UInt8) (h : 0 < A.length) : pos A S 0 = 0 := by
  have := (suf_iff.1 (pos_mx A S 0 h).is).1; omega
theorem full_iff {A S : List UInt8} {m : Nat} (h : 0 < A.length) : kfl A (S.getD m 0) (pos A S m) = A.length ↔ suf A S (m + 1) A.length = true := by
  have hx := (pos_mx A S m h).step
  constructor
  · intro e; rw [← e]; exact hx.is
  · intro e; have := hx.mx _ (by omega) e; have := hx.lt; omega
theorem pos_full {A S : List UInt8} {m : Nat} (h : 0 < A.length) (he : kfl A (S.getD m 0) (pos A S m) = A.length) : pos A S (m + 1) = brd A A.length := by
  have hs := (full_iff h).1 he
  have hb := brd_mx A h
  refine (pos_mx A S (m + 1) h).same ⟨suf_trans hs hb.is, hb.lt, fun k hk hk2 => hb.mx k hk (suf_within hs hk2 (by omega))⟩
theorem pos_on {A S : List UInt8} {m : Nat} (h : 0 < A.length) (he : kfl A (S.getD m 0) (pos A S m) ≠ A.length) : pos A S (m + 1) = kfl A (S.getD m 0) (pos A S m) := by
  have hx := (pos_mx A S m h).step
  refine (pos_mx A S (m + 1) h).same ⟨hx.is, by have := hx.lt; omega, fun k hk hk2 => hx.mx k (by omega) hk2⟩
theorem kfl_pos_le {A S : List UInt8} {m : Nat} (h : 0 < A.length) : kfl A (S.getD m 0) (pos A S m) ≤ A.length := by have := (pos_mx A S m h).step.lt; omega

/-- Where A stands within the first m of S. -/
def fnd (A S : List UInt8) : Nat → List Nat
  | 0 => []
  | m + 1 => fnd A S m ++ if suf A S (m + 1) A.length then [m + 1 - A.length] else []
/-- How many looks over the first m of S. -/
def lks (A S : List UInt8) : Nat → Nat
  | 0 => 0
  | m + 1 => lks A S m + kfs A (S.getD m 0) (pos A S m)
theorem fnd_full {A S : List UInt8} {m : Nat} (h : 0 < A.length) (he : kfl A (S.getD m 0) (pos A S m) = A.length) : fnd A S (m + 1) = fnd A S m ++ [m + 1 - A.length] := by
  rw [fnd, if_pos ((full_iff h).1 he)]
theorem fnd_on {A S : List UInt8} {m : Nat} (h : 0 < A.length) (he : kfl A (S.getD m 0) (pos A S m) ≠ A.length) : fnd A S (m + 1) = fnd A S m := by
  rw [fnd, if_neg (fun c => he ((full_iff h).2 c)), List.append_nil]
theorem fnd_len (A S : List UInt8) : ∀ m, (fnd A S m).length ≤ m
  | 0 => Nat.le_refl _
  | m + 1 => by
    have := fnd_len A S m
    rw [fnd, List.length_append]
    split <;> simp <;> omega
theorem fnd_mem {A S : List UInt8} {k : Nat} : ∀ m, k ∈ fnd A S m ↔ k + A.length ≤ m ∧ suf A S (k + A.length) A.length = true ∧ 0 < k + A.length
  | 0 => ⟨fun h => (by cases h), fun h => (by omega)⟩
  | m + 1 => by
    rw [fnd, List.mem_append, fnd_mem m]
    constructor
    · rintro (⟨h1, h2, h3⟩ | h)
      · exact ⟨by omega, h2, h3⟩
      · split at h
        · rename_i hs
          have := (suf_iff.1 hs).1
          simp only [List.mem_singleton] at h
          subst h
          refine ⟨by omega, by rw [show m + 1 - A.length + A.length = m + 1 by omega]; exact hs, by omega⟩
        · cases h
    · rintro ⟨h1, h2, h3⟩
      by_cases he : k + A.length = m + 1
      · right
        rw [← he, if_pos h2]; simp
      · exact .inl ⟨by omega, h2, h3⟩
theorem fnd_rise (A S : List UInt8) : ∀ m, List.Pairwise (· < ·) (fnd A S m)
  | 0 => List.Pairwise.nil
  | m + 1 => by
    rw [fnd, List.pairwise_append]
    refine ⟨fnd_rise A S m, by split <;> simp, fun a ha b hb => ?_⟩
    split at hb
    · rename_i hs
      have := (suf_iff.1 hs).1
      simp only [List.mem_singleton] at hb
      have := ((fnd_mem m).1 ha).1
      omega
    · cases hb
theorem lks_bd (A S : List UInt8) (h : 0 < A.length) : ∀ m, lks A S m + pos A S m ≤ 2 * m
  | 0 => by rw [lks, pos_0 A S h]; omega
  | m + 1 => by
    have ih := lks_bd A S h m
    have hb := kfs_bd A (S.getD m 0) (pos A S m)
    rw [lks]
    by_cases he : kfl A (S.getD m 0) (pos A S m) = A.length
    · rw [pos_full h he]
      have := brd_lt A (k := A.length) (by omega)
      omega
    · rw [pos_on h he]; omega
end Go.Proofs.YtfiefklhhchebaaDoor
