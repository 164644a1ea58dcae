/- The numbers that are drawn, told more sharply: a round that goes further comes within 268,435,460; and of any 2^42 numbers one behind another no more than a quarter are those of a put. How many rounds are left, told more sharply; and how many of the numbers one behind another are those of a put. The drawing of a change of a text of up to 300 bytes, told more sharply. The drawing of a change of a text of up to 2^38 bytes: it ends, for no number comes again. The drawing of two changes one behind the other: the pieces, of long texts. The drawing of two changes one behind the other. -/
import Derived.Test.YtfobkjoinjphdaaDoorCurM
import Derived.Test.YtfobkjoinjphdaaDoorOpOnM
import Derived.Test.YtfobkjoinjphdaaDoorDrwN
import Derived.Test.YtfobkjoinjphdaaDoorOwnM
namespace Go.Proofs.YtfobkjoinjphdaaDoor.Doc1

theorem pw25 : pwN 4398046511104 (1610380290293, 146808144153) 25 = (4347983298561, 146532204544) := by decide +kernel
/-- By how much the upper bits turn in 2^25 rounds: it hangs on the lowest fifteen bits alone. -/
def turn5 (L : Nat) : Nat := (129580 * L + 4367) % 131072
theorem it25 (N : Nat) (hN : N = 2 ^ 25) (x : Nat) : itN lG N x % 4398046511104 = (x + 33554432 * turn5 (x % 32768)) % 4398046511104 := by
  have h := itN_pw (p := (1610380290293, 146808144153)) lG_mod 25 x
  rw [← hN, pw25] at h
  rw [h]
  unfold turn5
  clear h hN
  show (4347983298561 * x + 146532204544) % 4398046511104 = _
  omega
/-- Bits 40 and 41 are not for ever those of a put, if the turn is neither small nor nearly whole. -/
theorem turn_out5 {N : Nat} (hN : N = 2 ^ 25) {x : Nat} (h1 : 4096 ≤ turn5 (x % 32768)) (h2 : turn5 (x % 32768) ≤ 126976) : ∃ m, m ≤ 8 ∧ itN lG (m * N) x / 1099511627776 % 4 ≠ 1 := by
  have st : ∀ y, y % 32768 = x % 32768 → itN lG N y % 32768 = x % 32768 ∧ (itN lG N y / 33554432) % 131072 = (y / 33554432 % 131072 + turn5 (x % 32768)) % 131072 := fun y hy => by
    have h := it25 N hN y
    rw [hy] at h
    generalize itN lG N y = z at h ⊢
    generalize turn5 (x % 32768) = D at h ⊢
    constructor <;> omega
  have S : ∀ m, itN lG (m * N) x % 32768 = x % 32768 := fun m => by
    induction m with
    | zero => rw [Nat.zero_mul]; rfl
    | succ m ih => rw [Nat.succ_mul, itN_add]; exact (st _ ih).1
  have U : ∀ m, (itN lG ((m + 1) * N) x / 33554432) % 131072 = (itN lG (m * N) x / 33554432 % 131072 + turn5 (x % 32768)) % 131072 := fun m => by
    rw [Nat.succ_mul, itN_add]; exact (st _ (S m)).2
  apply Classical.byContradiction
  intro hno
  have A : ∀ m, m ≤ 8 → itN lG (m * N) x / 33554432 % 131072 / 32768 = 1 := fun m hm => by
    have : itN lG (m * N) x / 1099511627776 % 4 = 1 := Classical.byContradiction (fun c => hno ⟨m, hm, c⟩)
    omega
  have a0 := A 0 (by omega)
  have a1 := A 1 (by omega)
  have a2 := A 2 (by omega)
  have a3 := A 3 (by omega)
  have a4 := A 4 (by omega)
  have a5 := A 5 (by omega)
  have a6 := A 6 (by omega)
  have a7 := A 7 (by omega)
  have a8 := A 8 (by omega)
  have u0 := U 0
  have u1 := U 1
  have u2 := U 2
  have u3 := U 3
  have u4 := U 4
  have u5 := U 5
  have u6 := U 6
  have u7 := U 7
  simp only [Nat.zero_add, Nat.reduceAdd] at u0 u1 u2 u3 u4 u5 u6 u7
  generalize itN lG (0 * N) x / 33554432 % 131072 = v0 at *
  generalize itN lG (1 * N) x / 33554432 % 131072 = v1 at *
  generalize itN lG (2 * N) x / 33554432 % 131072 = v2 at *
  generalize itN lG (3 * N) x / 33554432 % 131072 = v3 at *
  generalize itN lG (4 * N) x / 33554432 % 131072 = v4 at *
  generalize itN lG (5 * N) x / 33554432 % 131072 = v5 at *
  generalize itN lG (6 * N) x / 33554432 % 131072 = v6 at *
  generalize itN lG (7 * N) x / 33554432 % 131072 = v7 at *
  generalize itN lG (8 * N) x / 33554432 % 131072 = v8 at *
  generalize turn5 (x % 32768) = D at *
  clear A U S st hno
  by_cases c1 : D ≤ 32768
  · have e0 : v1 = v0 + D := by omega
    have e1 : v2 = v1 + D := by omega
    have e2 : v3 = v2 + D := by omega
    have e3 : v4 = v3 + D := by omega
    have e4 : v5 = v4 + D := by omega
    have e5 : v6 = v5 + D := by omega
    have e6 : v7 = v6 + D := by omega
    have e7 : v8 = v7 + D := by omega
    omega
  · by_cases c2 : D ≤ 98304
    · omega
    · have e0 : v1 + 131072 = v0 + D := by omega
      have e1 : v2 + 131072 = v1 + D := by omega
      have e2 : v3 + 131072 = v2 + D := by omega
      have e3 : v4 + 131072 = v3 + D := by omega
      have e4 : v5 + 131072 = v4 + D := by omega
      have e5 : v6 + 131072 = v5 + D := by omega
      have e6 : v7 + 131072 = v6 + D := by omega
      have e7 : v8 + 131072 = v7 + D := by omega
      omega
/-- The lowest fifteen bits go their own way. -/
def lL5 (x : Nat) : Nat := (10485 * x + 281) % 32768
theorem lG_low5 (x : Nat) : lG x % 32768 = lL5 (x % 32768) := by
  have h := lG_mod x
  unfold lL5
  omega
def midN5 (t : Nat) : Bool := Nat.ble 4096 t && Nat.ble t 126976
def phO : Nat → Nat → Bool
  | 0, _ => false
  | n + 1, L => midN5 (turn5 L) || phO n (lL5 L)
def allP : Nat → Nat → Bool
  | 0, p => phO 5 p
  | d + 1, p => allP d (2 * p) && allP d (2 * p + 1)
set_option maxRecDepth 20000 in
theorem allP_at : ∀ (d p : Nat), allP d p = true → ∀ L, p * 2 ^ d ≤ L → L < (p + 1) * 2 ^ d → phO 5 L = true
  | 0, p, h, L, h1, h2 => by
    have e : L = p := by rw [Nat.pow_zero] at h1 h2; omega
    rw [e]; exact h
  | d + 1, p, h, L, h1, h2 => by
    rw [allP, Bool.and_eq_true] at h
    rw [Nat.pow_succ] at h1 h2
    by_cases c : L < (2 * p + 1) * 2 ^ d
    · refine allP_at d (2 * p) h.1 L ?_ c
      have : p * (2 ^ d * 2) = 2 * p * 2 ^ d := by rw [Nat.mul_comm (2 ^ d) 2, ← Nat.mul_assoc, Nat.mul_comm p 2]
      omega
    · refine allP_at d (2 * p + 1) h.2 L (by omega) ?_
      have : (p + 1) * (2 ^ d * 2) = (2 * p + 1 + 1) * 2 ^ d := by rw [Nat.mul_comm (2 ^ d) 2, ← Nat.mul_assoc, show (p + 1) * 2 = 2 * p + 1 + 1 by omega]
      omega
theorem phases5 : allP 15 0 = true := by decide +kernel
set_option maxRecDepth 20000 in
theorem pho_out : ∀ (n : Nat) (x : Nat), phO n (x % 32768) = true → ∃ j, j < n ∧ 4096 ≤ turn5 (itN lG j x % 32768) ∧ turn5 (itN lG j x % 32768) ≤ 126976
  | 0, _, h => by cases h
  | n + 1, x, h => by
    rw [phO, Bool.or_eq_true] at h
    rcases h with h | h
    · unfold midN5 at h
      rw [Bool.and_eq_true] at h
      exact ⟨0, by omega, by rw [itN_zero]; exact Nat.le_of_ble_eq_true h.1, by rw [itN_zero]; exact Nat.le_of_ble_eq_true h.2⟩
    · rw [← lG_low5] at h
      obtain ⟨j, hj, r⟩ := pho_out n (lG x) h
      exact ⟨j + 1, by omega, by rw [itN]; exact r.1, by rw [itN]; exact r.2⟩
/-- Sooner still a round goes further. -/
theorem adv5 (x : Nat) : ∃ n, n ≤ 268435460 ∧ itN lG n x / 1099511627776 % 4 ≠ 1 := by
  have hp := allP_at 15 0 phases5 (x % 32768) (by omega) (by have := Nat.mod_lt x (show 32768 > 0 by decide); omega)
  obtain ⟨j, hj, h1, h2⟩ := pho_out 5 x hp
  obtain ⟨N, hN⟩ : ∃ N : Nat, N = 2 ^ 25 := ⟨_, rfl⟩
  obtain ⟨m, hm, h⟩ := turn_out5 hN h1 h2
  refine ⟨j + m * N, ?_, ?_⟩
  · have h3 : m * N ≤ 8 * N := Nat.mul_le_mul_right N hm
    have h4 : N = 33554432 := by rw [hN]
    omega
  · rw [itN_add]; exact h
/-- The steps of a power of two numbers: they are all other numbers. -/
theorem lT_pw (k x : Nat) : itN lT (2 ^ k) x % 4398046511104 = ((pwN 4398046511104 (6364136223846793005 % 4398046511104, 1442695040888963407 % 4398046511104) k).1 * x + (pwN 4398046511104 (6364136223846793005 % 4398046511104, 1442695040888963407 % 4398046511104) k).2) % 4398046511104 := by
  refine itN_pw (fun y => ?_) k x
  have h := lT_mod y
  simp only
  omega
def stepOk (k : Nat) : Bool := Nat.beq ((pwN 4398046511104 (6364136223846793005 % 4398046511104, 1442695040888963407 % 4398046511104) k).1 % 2 ^ (k + 1)) (1 % 2 ^ (k + 1)) && Nat.beq ((pwN 4398046511104 (6364136223846793005 % 4398046511104, 1442695040888963407 % 4398046511104) k).2 % 2 ^ (k + 1)) (2 ^ k)
theorem steps_ok : (List.range 42).all stepOk = true := by decide +kernel
theorem lT_step {k : Nat} (hk : k < 42) (x : Nat) : itN lT (2 ^ k) x % 2 ^ (k + 1) = (x + 2 ^ k) % 2 ^ (k + 1) := by
  have h := List.all_eq_true.1 steps_ok k (List.mem_range.2 hk)
  unfold stepOk at h
  rw [Bool.and_eq_true] at h
  have h1 := Nat.eq_of_beq_eq_true h.1
  have h2 := Nat.eq_of_beq_eq_true h.2
  have h3 := lT_pw k x
  have hd : 2 ^ (k + 1) ∣ 4398046511104 := by
    have : (4398046511104 : Nat) = 2 ^ 42 := by decide
    rw [this]
    exact Nat.pow_dvd_pow 2 (by omega)
  have h4 := congrArg (· % 2 ^ (k + 1)) h3
  simp only [Nat.mod_mod_of_dvd _ hd] at h4
  rw [h4, Nat.add_mod, Nat.mul_mod, h1, h2]
  have h5 : 1 % 2 ^ (k + 1) * (x % 2 ^ (k + 1)) % 2 ^ (k + 1) = x % 2 ^ (k + 1) := by
    have h6 : 1 % 2 ^ (k + 1) = 1 := Nat.mod_eq_of_lt (by have := Nat.one_lt_two_pow (show k + 1 ≠ 0 by omega); omega)
    rw [h6, Nat.one_mul, Nat.mod_mod]
  rw [h5, Nat.mod_add_mod]
theorem lT_odd {k : Nat} (hk : k < 42) : ∀ (m x : Nat), itN lT (m * 2 ^ k) x % 2 ^ (k + 1) = (x + m * 2 ^ k) % 2 ^ (k + 1)
  | 0, x => by rw [Nat.zero_mul]; rfl
  | m + 1, x => by
    rw [Nat.succ_mul, itN_add, lT_step hk, Nat.add_mod, lT_odd hk m x, ← Nat.add_mod, Nat.add_assoc]
/-- Within 2^42 steps no number comes again. -/
theorem lT_new {n : Nat} (h0 : 0 < n) (hn : n < 4398046511104) (x : Nat) : itN lT n x % 4398046511104 ≠ x % 4398046511104 := by
  obtain ⟨k, m, hm, rfl⟩ : ∃ k m, m % 2 = 1 ∧ n = m * 2 ^ k := by
    clear hn
    induction n using Nat.strongRecOn with
    | ind n ih =>
      rcases Nat.mod_two_eq_zero_or_one n with c | c
      · obtain ⟨k, m, hm, e⟩ := ih (n / 2) (by omega) (by omega)
        exact ⟨k + 1, m, hm, by rw [Nat.pow_succ, ← Nat.mul_assoc, ← e]; omega⟩
      · exact ⟨0, n, c, by simp⟩
  have hk : k < 42 := by
    apply Classical.byContradiction
    intro c
    have h1 : 2 ^ 42 ≤ 2 ^ k := Nat.pow_le_pow_right (by decide) (by omega)
    have h2 : 1 * 2 ^ k ≤ m * 2 ^ k := Nat.mul_le_mul_right _ (by omega)
    have h3 : (2 : Nat) ^ 42 = 4398046511104 := by decide
    omega
  intro e
  have hd : 2 ^ (k + 1) ∣ 4398046511104 := by
    have : (4398046511104 : Nat) = 2 ^ 42 := by decide
    rw [this]
    exact Nat.pow_dvd_pow 2 (by omega)
  have h4 := congrArg (· % 2 ^ (k + 1)) e
  simp only [Nat.mod_mod_of_dvd _ hd] at h4
  rw [lT_odd hk] at h4
  obtain ⟨q, hq⟩ : ∃ q, m = 2 * q + 1 := ⟨m / 2, by omega⟩
  have h5 : m * 2 ^ k = q * 2 ^ (k + 1) + 2 ^ k := by rw [hq, Nat.pow_succ, Nat.add_mul, Nat.one_mul]; congr 1; rw [Nat.mul_comm 2 q, Nat.mul_assoc, Nat.mul_comm 2]
  rw [h5, ← Nat.add_assoc, Nat.add_right_comm, Nat.add_mul_mod_self_right] at h4
  have h6 : 0 < 2 ^ k := Nat.two_pow_pos k
  rw [Nat.pow_succ] at h4
  clear h5 e hd hn h0
  generalize 2 ^ k = z at *
  have hz : 0 < z * 2 := by omega
  have hr := Nat.mod_lt x hz
  rw [← Nat.mod_add_mod] at h4
  generalize x % (z * 2) = r at *
  by_cases c : r < z
  · rw [Nat.mod_eq_of_lt (by omega)] at h4; omega
  · have e2 : r + z = (r - z) + z * 2 := by omega
    rw [e2, Nat.add_mod_right, Nat.mod_eq_of_lt (by omega)] at h4
    omega
end Go.Proofs.YtfobkjoinjphdaaDoor.Doc1

namespace Go.Proofs.YtfobkjoinjphdaaDoor
open Go.RowKit
open Doc1

/-- From a seed, the least round that goes further. -/
noncomputable def dist5 (y : Nat) : Nat := Classical.choose (least (adv5 y))
theorem dist_spec5 (y : Nat) : (dist5 y ≤ 268435460 ∧ itN lG (dist5 y) y / 1099511627776 % 4 ≠ 1) ∧ ∀ m, m < dist5 y → ¬ (m ≤ 268435460 ∧ itN lG m y / 1099511627776 % 4 ≠ 1) := Classical.choose_spec (least (adv5 y))
theorem dist_pos5 {y : Nat} (h : y / 1099511627776 % 4 = 1) : 0 < dist5 y := by
  have := (dist_spec5 y).1.2
  rcases Nat.eq_zero_or_pos (dist5 y) with h0 | h0
  · rw [h0, itN_zero] at this; exact absurd h this
  · exact h0
theorem dist_next5 {y : Nat} (h : y / 1099511627776 % 4 = 1) : dist5 (lG y) < dist5 y := by
  have h1 := dist_pos5 h
  have h2 := dist_spec5 y
  have h3 := dist_spec5 (lG y)
  obtain ⟨d, hd⟩ : ∃ d, dist5 y = d + 1 := ⟨dist5 y - 1, by omega⟩
  rcases Nat.lt_or_ge d (dist5 (lG y)) with c | c
  · exfalso
    refine h3.2 d c ⟨by omega, ?_⟩
    have := h2.1.2
    rw [hd, itN] at this
    exact this
  · omega
/-- How many rounds may be left: the text that is left, and how far the next step lies. -/
noncomputable def farX5 (n i x : Nat) : Nat := if i < n then n - i + 268435462 else dist5 (lT (lT x))
theorem far_le5 (n i x : Nat) : farX5 n i x ≤ n + 268435462 := by
  unfold farX5
  split
  · omega
  · have := (dist_spec5 (lT (lT x))).1.1; omega
theorem far_next5 {n i x x3 : Nat} (h : n ≤ i → (lT (lT x) / 1099511627776 % 4 = 1 ∧ x3 = lG x)) : farX5 n (i + 3) x3 < farX5 n i x := by
  unfold farX5
  by_cases c : i < n
  · rw [if_pos c]
    split
    · omega
    · have := (dist_spec5 (lT (lT x3))).1.1; omega
  · obtain ⟨h1, h2⟩ := h (by omega)
    rw [if_neg c, if_neg (by omega), h2, lT_lG]
    exact dist_next5 h1

theorem nd_le : ∀ (N a : Nat) (l : List Nat), l.Nodup → (∀ v ∈ l, a ≤ v ∧ v < a + N) → l.length ≤ N
  | 0, a, l, _, h => by
    cases l with
    | nil => simp
    | cons v l => have := h v (by simp); omega
  | N + 1, a, l, hn, h => by
    by_cases c : a + N ∈ l
    · have h1 := List.length_erase_of_mem c
      have h2 := nd_le N a (l.erase (a + N)) (hn.erase _) (fun v hv => by
        have h3 := h v (List.mem_of_mem_erase hv)
        have h4 : v ≠ a + N := fun e => hn.not_mem_erase (e ▸ hv)
        omega)
      omega
    · have := nd_le N a l hn (fun v hv => by
        have h3 := h v hv
        have h4 : v ≠ a + N := fun e => c (e ▸ hv)
        omega)
      omega
/-- Whether a number is that of a put. -/
def isP (x e : Nat) : Bool := decide (itN lT e x / 1099511627776 % 4 = 1)
def cntP (x d : Nat) : Nat := (List.range (d + 1)).countP (isP x)
theorem lT_inj {x a b : Nat} (hab : a < b) (hb : b < 4398046511104) : itN lT a x % 4398046511104 ≠ itN lT b x % 4398046511104 := by
  obtain ⟨d, rfl⟩ : ∃ d, b = a + d := ⟨b - a, by omega⟩
  rw [itN_add]
  exact fun e => lT_new (n := d) (by omega) (by omega) (itN lT a x) e.symm
theorem cnt_le {x d : Nat} (hd : d + 1 ≤ 4398046511104) : cntP x d ≤ 1099511627776 := by
  unfold cntP
  rw [List.countP_eq_length_filter]
  have h := nd_le 1099511627776 1099511627776 (((List.range (d + 1)).filter (isP x)).map (fun e => itN lT e x % 4398046511104)) ?_ ?_
  · rw [List.length_map] at h; exact h
  · rw [List.nodup_iff_pairwise_ne, List.pairwise_map]
    refine ((List.pairwise_lt_range (n := d + 1)).sublist List.filter_sublist).imp_of_mem ?_
    intro a b ha hb hab
    have := List.mem_range.1 (List.mem_filter.1 hb).1
    exact lT_inj hab (by omega)
  · intro v hv
    obtain ⟨e, he, rfl⟩ := List.mem_map.1 hv
    have := of_decide_eq_true (List.mem_filter.1 he).2
    omega
theorem cnt_mono (x : Nat) {d d' : Nat} (h : d ≤ d') : cntP x d ≤ cntP x d' := by
  unfold cntP
  obtain ⟨k, rfl⟩ : ∃ k, d' = d + k := ⟨d' - d, by omega⟩
  have e : d + k + 1 = (d + 1) + k := by omega
  have h2 : List.range (d + 1 + k) = List.range (d + 1) ++ (List.range k).map (fun x => d + 1 + x) := List.range_add
  rw [e, h2, List.countP_append]
  omega
theorem cnt_put {x d : Nat} (h : itN lT (d + 2) x / 1099511627776 % 4 = 1) : cntP x d + 1 ≤ cntP x (d + 3) := by
  have h1 := cnt_mono x (show d ≤ d + 1 by omega)
  have h2 : cntP x (d + 2) = cntP x (d + 1) + 1 := by
    unfold cntP
    rw [List.range_succ, List.countP_append, List.countP_singleton]
    have : isP x (d + 1 + 1) = true := decide_eq_true h
    rw [this]
    rfl
  have h3 := cnt_mono x (show d + 2 ≤ d + 3 by omega)
  omega
end Go.Proofs.YtfobkjoinjphdaaDoor

namespace Go.Proofs.YtfobkjoinjphdaaDoor
open Go.RowKit
open Doc1

/-- What is drawn: at most five bytes are kept or dropped, at most three put. -/
def smR (p : Pt) : Prop := (0 ≤ p.keep ∧ p.keep ≤ 5) ∧ p.put.size ≤ 3 ∧ p.drop.size ≤ 5
theorem smR_Q {p : Pt} (h : smR p) : smQ p := ⟨⟨h.1.1, by have := h.1.2; omega⟩, by have := h.2.1; omega, by have := h.2.2; omega⟩
/-- Between two rounds. -/
structure OI5 (g : Nat) (C : Value) (s : ByteArray) (i0 : Nat) (w : World) (at_ i x : Nat) (v : Value) (L : List Pt) (wr : World) : Prop where
  cur : CurX g C i x wr
  gr : w.grownBy wr (some g)
  own : wr.ownsRow w.heap.size 30 3 v L.length (encP L)
  le : at_ ≤ s.size
  sm : ∀ p ∈ L, smR p
  bd : L.length + (s.size - at_) * 269484039 + farX5 (codeLen C) i x ≤ 301 * 269484039
  ib : i ≤ i0 + 3 * L.length
theorem OI5.next {g : Nat} {C : Value} {s : ByteArray} {i0 : Nat} {w : World} {at_ i x : Nat} {v : Value} {L : List Pt} {wr : World} (h : OI5 g C s i0 w at_ i x v L wr) (hC : codeLen C ≤ 1048576) {n i2 x2 : Nat} {p : Pt} {v' : Value} {wr' : World}
    (hc : CurX g C i2 x2 wr') (hg : w.grownBy wr' (some g)) (ho : wr'.ownsRow w.heap.size 30 3 v' (L.length + 1) (encP L ++ encP [p])) (hn : 0 < n) (hl : at_ + n ≤ s.size) (hp : smR p) (hi : i2 ≤ i + 3) :
    OI5 g C s i0 w (at_ + n) i2 x2 v' (L ++ [p]) wr' ∧ (s.size - (at_ + n)) * 269484039 + farX5 (codeLen C) i2 x2 < (s.size - at_) * 269484039 + farX5 (codeLen C) i x := by
  have hf := far_le5 (codeLen C) i2 x2
  have hm : (s.size - (at_ + n)) * 269484039 + 269484039 ≤ (s.size - at_) * 269484039 := by
    have : s.size - at_ = (s.size - (at_ + n)) + n := by omega
    rw [this, Nat.add_mul]
    have : 1 * 269484039 ≤ n * 269484039 := Nat.mul_le_mul_right _ hn
    omega
  have hb := h.bd
  have hib := h.ib
  refine ⟨⟨hc, hg, by rw [encP_app, List.length_append]; exact ho, hl, fun q hq => ?_, ?_, ?_⟩, by omega⟩
  · rcases List.mem_append.1 hq with c | c
    · exact h.sm q c
    · rw [List.mem_singleton] at c; rw [c]; exact hp
  · rw [List.length_append, List.length_singleton]; omega
  · rw [List.length_append, List.length_singleton]; omega
theorem OI5.stay {g : Nat} {C : Value} {s : ByteArray} {i0 : Nat} {w : World} {at_ i x : Nat} {v : Value} {L : List Pt} {wr : World} (h : OI5 g C s i0 w at_ i x v L wr) {x2 : Nat} {p : Pt} {v' : Value} {wr' : World}
    (hc : CurX g C (i + 3) x2 wr') (hg : w.grownBy wr' (some g)) (ho : wr'.ownsRow w.heap.size 30 3 v' (L.length + 1) (encP L ++ encP [p])) (hp : smR p) (hx : codeLen C ≤ i → (lT (lT x) / 1099511627776 % 4 = 1 ∧ x2 = lG x)) :
    OI5 g C s i0 w at_ (i + 3) x2 v' (L ++ [p]) wr' ∧ (s.size - at_) * 269484039 + farX5 (codeLen C) (i + 3) x2 < (s.size - at_) * 269484039 + farX5 (codeLen C) i x := by
  have hf := far_next5 (n := codeLen C) (x3 := x2) hx
  have hb := h.bd
  have hib := h.ib
  refine ⟨⟨hc, hg, by rw [encP_app, List.length_append]; exact ho, h.le, fun q hq => ?_, ?_, ?_⟩, by omega⟩
  · rcases List.mem_append.1 hq with c | c
    · exact h.sm q c
    · rw [List.mem_singleton] at c; rw [c]; exact hp
  · rw [List.length_append, List.length_singleton]; omega
  · rw [List.length_append, List.length_singleton]; omega

set_option maxRecDepth 100000 in
set_option maxHeartbeats 8000000 in
theorem opOn_s (g : Nat) (C : Value) (M : Nat) (s : ByteArray) (w : World) (hcur0 : CurAt g C M w) (hco : CodeAt g C w) (hC : codeLen C ≤ 1048576) (hi : M ≤ 1000000000000000) (hs : s.size ≤ 300) :
    Calls Tryd.prog 12 #[.pointer (some ⟨g, 0, none⟩), .string s] w fun e w' => ∃ v L, e = .returned v ∧ w'.ownsRow w.heap.size 30 3 v L.length (encP L) ∧ L.length ≤ 81114695741 ∧ (∀ p ∈ L, smR p) ∧ CurAt g C (M + 8000000000000) w' ∧ w.grownBy w' (some g) := by
  obtain ⟨u0, hu0, hz0, hz1, hz2⟩ := info_parts Tryd.infoPart
  obtain ⟨i, x, hiM, hcur⟩ := hcur0.x
  clear hcur0
  have hgl : g < w.heap.size := World.block_lt_of_cell? w _ hcur.c0
  have R0 : Hid (OI5 g C s i w 0 i x (.slice none 0 0) [] w) := hide ⟨hcur, grown_refl _ _, World.ownsRow_nil _ _ _ _, Nat.zero_le _, (fun p hp => by cases hp), by
    have := far_le5 (codeLen C) i x
    have h2 : s.size * 269484039 ≤ 300 * 269484039 := Nat.mul_le_mul_right _ hs
    simp only [List.length_nil, Nat.sub_zero]
    omega, by simp⟩
  have HCO := hide hco
  clear hcur hco
  go_enter Tryd.func12, Tryd.ntmps12
  go_wp2_with fail
  go_loopw [5, 6] (fun v a wr => ∃ k : Nat, a = .int .i64 k ∧ ∃ v0, v0 = v ∧ ∃ j y L, Hid (OI5 g C s i w k j y v0 L wr)) (fun _ a wr => (s.size - (intOf a).toNat) * 269484039 + farX5 (codeLen C) (curI g wr) (curS g wr))
  case atStart => exact ⟨0, rfl, _, rfl, i, x, [], R0⟩
  case round =>
    obtain ⟨k, rfl, v, hv0, j, y, L, HI⟩ := hrel
    subst hv0
    clear R0
    have hle := HI.out.le
    have hbd := HI.out.bd
    have hib := HI.out.ib
    have hLb : L.length ≤ 81114695739 := by omega
    have hel := encP_len L
    have hgs := HI.out.gr.size
    have hne : v.ownBlock ≠ some g := fun e => by have := (HI.out.own.lt g e).1; omega
    by_cases hlt : k < s.size
    · have P1 := hide (pick_x g C j y 5 wr HI.out.cur (HCO.out.grown HI.out.gr) (by omega) (by omega) (by omega))
      go_wp2_with fail
      refine P1.out.mono ?_
      rintro e w1 ⟨y1, x1, rfl, hy1, hx1, hc1, hg1, he1⟩
      have HG1 := hide (HI.out.gr.trans hg1)
      have HO1 := hide (own_grown HI.out.own hg1 (fun b hb' e => by have := (HI.out.own.lt b hb').1; have := Option.some.inj e; omega))
      have P2 := hide (pick_x g C (j + 1) x1 4 w1 hc1 (HCO.out.grown HG1.out) (by omega) (by omega) (by omega))
      have HE1 := hide he1
      clear P1 hg1 hc1 he1
      by_cases hcl : (s.size : Int) - (k : Int) < 1 + (y1 : Int)
      · skip
        go_wp2_with fail
        refine P2.out.mono ?_
        rintro e w2 ⟨y2, x2, rfl, hy2, hx2, hc2, hg2, he2⟩
        have HG2 := hide (HG1.out.trans hg2)
        have hgs2 := HG2.out.size
        have hown := own_grown HO1.out hg2 (fun b hb' e => by have := (HI.out.own.lt b hb').1; have := Option.some.inj e; omega)
        have HC2 := hide hc2
        have HE2 := hide he2
        clear hc2 hg2 he2 P2
        by_cases h0 : y2 = 0
        · subst h0
          go_wp2_with (at_builtin; go_loud (refine wpList_append_own _ rfl _ _ 23 rfl w.heap.size 30 u0 (.agg #[.int .i64 0, .string ⟨#[]⟩, .string ⟨#[]⟩]) 3 40 Tryd.underlying23 hu0 hz0 hz1 hz2 rfl (by decide) _ _ _ rfl (hown.alloc _) ⟨w2.heap.size, 0, none⟩ 1 1 [.int .i64 0, .string ⟨#[]⟩, .string (s.extract k s.size)] rfl rfl (cell3_at _ _ rfl _ _ _ _) (by intro u hu; simp at hu; rcases hu with rfl | rfl | rfl <;> rfl) (by unfold maxLen; omega) (by omega) (by simp; omega) ?_); intro v3 w3 hown3 hgrow3 _; have HO3 := hide hown3; have HGR3 := hide hgrow3; clear hown3 hgrow3 hown)
          have hc3 := (HC2.out.grown (World.grownBy_alloc w2 _ none) (by simp)).grown HGR3.out hne
          have hg3 := grown_far (HG2.out.trans (World.grownBy_alloc w2 _ (some g))) (fun b e => (HI.out.own.lt b e).1) HGR3.out
          have e3 := hc3.i
          have e4 := HI.out.cur.i
          obtain ⟨A, B⟩ := HI.out.next hC (n := (s.size - k)) (p := ⟨0, ⟨#[]⟩, s.extract k s.size⟩) hc3 hg3 HO3.out (by omega) (by omega) ⟨⟨by show (0 : Int) ≤ 0; omega, by show (0 : Int) ≤ 5; omega⟩, by first | (show (0 : Nat) ≤ 3; omega) | (show (0 : Nat) ≤ 5; omega), by show (s.extract k s.size).size ≤ 5; rw [ByteArray.size_extract]; omega⟩ (by omega)
          have ek0 : k + (s.size - k) = s.size := by omega
          rw [ek0] at A B
          refine ⟨⟨s.size, by go_num, _, rfl, _, _, _, hide A⟩, ?_⟩
          rw [e3.1, e3.2, e4.1, e4.2]
          have ek : ((k : Int) + ((s.size : Int) - (k : Int))).toNat = s.size := by omega
          first | (simpa [intOf, ek] using B) | (simpa [intOf] using B)
        · by_cases h1 : y2 = 1
          · subst h1
            have HOF := hide (of_x g C (j + 1 + 1) x2 3 w2.heap.size 0 5 5 _ (HC2.out.grown (World.grownBy_alloc w2 (.cells (fiveTexts.map Value.string).toArray 9) none) (by simp)) ((HCO.out.grown HG2.out).alloc _) (by omega) (by omega) (texts_new w2 fiveTexts 9 3 fiveTexts_le) (by omega) (by omega) (by omega))
            go_wp2_with fail
            refine HOF.out.mono ?_
            rintro e w4 ⟨t4, x4, rfl, ht4, hx4, hc4, hg4, he4⟩
            have hgb := HG2.out.trans (World.grownBy_alloc w2 (.cells (fiveTexts.map Value.string).toArray 9) (some g))
            have HG4 := hide (hgb.trans hg4)
            have hgs4 := HG4.out.size
            replace hown := own_grown (hown.alloc _) hg4 (fun b hb' e => by have := (HI.out.own.lt b hb').1; have := Option.some.inj e; omega)
            have HC4 := hide hc4
            have HX := hide (stay_draw (n := codeLen C) (fun h => (HE1.out h).1) HE2.out he4 rfl)
            clear HOF hc4 hg4 he4 hgb
            go_wp2_with (at_builtin; go_loud (refine wpList_append_own _ rfl _ _ 23 rfl w.heap.size 30 u0 (.agg #[.int .i64 0, .string ⟨#[]⟩, .string ⟨#[]⟩]) 3 40 Tryd.underlying23 hu0 hz0 hz1 hz2 rfl (by decide) _ _ _ rfl (hown.alloc _) ⟨w4.heap.size, 0, none⟩ 1 1 [.int .i64 0, .string t4, .string ⟨#[]⟩] rfl rfl (cell3_at _ _ rfl _ _ _ _) (by intro u hu; simp at hu; rcases hu with rfl | rfl | rfl <;> rfl) (by unfold maxLen; omega) (by omega) (by simp; omega) ?_); intro v3 w3 hown3 hgrow3 _; have HO3 := hide hown3; have HGR3 := hide hgrow3; clear hown3 hgrow3 hown)
            have hc3 := (HC4.out.grown (World.grownBy_alloc w4 _ none) (by simp)).grown HGR3.out hne
            have hg3 := grown_far (HG4.out.trans (World.grownBy_alloc w4 _ (some g))) (fun b e => (HI.out.own.lt b e).1) HGR3.out
            have e3 := hc3.i
            have e4 := HI.out.cur.i
            obtain ⟨A, B⟩ := HI.out.stay (p := ⟨0, t4, ⟨#[]⟩⟩) hc3 hg3 HO3.out ⟨⟨by show (0 : Int) ≤ 0; omega, by show (0 : Int) ≤ 5; omega⟩, by show t4.size ≤ 3; omega, by first | (show (0 : Nat) ≤ 3; omega) | (show (0 : Nat) ≤ 5; omega)⟩ HX.out
            refine ⟨⟨k, rfl, _, rfl, _, _, _, hide A⟩, ?_⟩
            rw [e3.1, e3.2, e4.1, e4.2]
            simpa [intOf] using B
          · have h01 : ¬ (y2 : Int) = 0 := by omega
            have h11 : ¬ (y2 : Int) = 1 := by omega
            have b0 : ((y2 : Int) == 0) = false := by simpa using h01
            have b1 : ((y2 : Int) == 1) = false := by simpa using h11
            go_wp2_with (at_builtin; go_loud (refine wpList_append_own _ rfl _ _ 23 rfl w.heap.size 30 u0 (.agg #[.int .i64 0, .string ⟨#[]⟩, .string ⟨#[]⟩]) 3 40 Tryd.underlying23 hu0 hz0 hz1 hz2 rfl (by decide) _ _ _ rfl (hown.alloc _) ⟨w2.heap.size, 0, none⟩ 1 1 [.int .i64 ((s.size : Int) - (k : Int)), .string ⟨#[]⟩, .string ⟨#[]⟩] rfl rfl (cell3_at _ _ rfl _ _ _ _) (by intro u hu; simp at hu; rcases hu with rfl | rfl | rfl <;> rfl) (by unfold maxLen; omega) (by omega) (by simp; omega) ?_); intro v3 w3 hown3 hgrow3 _; have HO3 := hide hown3; have HGR3 := hide hgrow3; clear hown3 hgrow3 hown)
            have hc3 := (HC2.out.grown (World.grownBy_alloc w2 _ none) (by simp)).grown HGR3.out hne
            have hg3 := grown_far (HG2.out.trans (World.grownBy_alloc w2 _ (some g))) (fun b e => (HI.out.own.lt b e).1) HGR3.out
            have e3 := hc3.i
            have e4 := HI.out.cur.i
            obtain ⟨A, B⟩ := HI.out.next hC (n := (s.size - k)) (p := ⟨(s.size : Int) - (k : Int), ⟨#[]⟩, ⟨#[]⟩⟩) hc3 hg3 HO3.out (by omega) (by omega) ⟨⟨by show (0 : Int) ≤ (s.size : Int) - (k : Int); omega, by show (s.size : Int) - (k : Int) ≤ 5; omega⟩, by first | (show (0 : Nat) ≤ 3; omega) | (show (0 : Nat) ≤ 5; omega), by first | (show (0 : Nat) ≤ 3; omega) | (show (0 : Nat) ≤ 5; omega)⟩ (by omega)
            have ek0 : k + (s.size - k) = s.size := by omega
            rw [ek0] at A B
            refine ⟨⟨s.size, by go_num, _, rfl, _, _, _, hide A⟩, ?_⟩
            rw [e3.1, e3.2, e4.1, e4.2]
            have ek : ((k : Int) + ((s.size : Int) - (k : Int))).toNat = s.size := by omega
            first | (simpa [intOf, ek] using B) | (simpa [intOf] using B)
      · replace hcl : 1 + (y1 : Int) ≤ (s.size : Int) - (k : Int) := by omega
        go_wp2_with fail
        refine P2.out.mono ?_
        rintro e w2 ⟨y2, x2, rfl, hy2, hx2, hc2, hg2, he2⟩
        have HG2 := hide (HG1.out.trans hg2)
        have hgs2 := HG2.out.size
        have hown := own_grown HO1.out hg2 (fun b hb' e => by have := (HI.out.own.lt b hb').1; have := Option.some.inj e; omega)
        have HC2 := hide hc2
        have HE2 := hide he2
        clear hc2 hg2 he2 P2
        by_cases h0 : y2 = 0
        · subst h0
          go_wp2_with (at_builtin; go_loud (refine wpList_append_own _ rfl _ _ 23 rfl w.heap.size 30 u0 (.agg #[.int .i64 0, .string ⟨#[]⟩, .string ⟨#[]⟩]) 3 40 Tryd.underlying23 hu0 hz0 hz1 hz2 rfl (by decide) _ _ _ rfl (hown.alloc _) ⟨w2.heap.size, 0, none⟩ 1 1 [.int .i64 0, .string ⟨#[]⟩, .string ((s.extract k (k + (1 + y1))))] rfl rfl (cell3_at _ _ rfl _ _ _ _) (by intro u hu; simp at hu; rcases hu with rfl | rfl | rfl <;> rfl) (by unfold maxLen; omega) (by omega) (by simp; omega) ?_); intro v3 w3 hown3 hgrow3 _; have HO3 := hide hown3; have HGR3 := hide hgrow3; clear hown3 hgrow3 hown)
          have hc3 := (HC2.out.grown (World.grownBy_alloc w2 _ none) (by simp)).grown HGR3.out hne
          have hg3 := grown_far (HG2.out.trans (World.grownBy_alloc w2 _ (some g))) (fun b e => (HI.out.own.lt b e).1) HGR3.out
          have e3 := hc3.i
          have e4 := HI.out.cur.i
          obtain ⟨A, B⟩ := HI.out.next hC (n := (1 + y1)) (p := ⟨0, ⟨#[]⟩, (s.extract k (k + (1 + y1)))⟩) hc3 hg3 HO3.out (by omega) (by omega) ⟨⟨by show (0 : Int) ≤ 0; omega, by show (0 : Int) ≤ 5; omega⟩, by first | (show (0 : Nat) ≤ 3; omega) | (show (0 : Nat) ≤ 5; omega), by show ((s.extract k (k + (1 + y1)))).size ≤ 5; rw [ByteArray.size_extract]; omega⟩ (by omega)
          have ek0 : k + (1 + y1) = k + (1 + y1) := by omega
          rw [ek0] at A B
          refine ⟨⟨k + (1 + y1), by go_num, _, rfl, _, _, _, hide A⟩, ?_⟩
          rw [e3.1, e3.2, e4.1, e4.2]
          have ek : ((k : Int) + (1 + (y1 : Int))).toNat = k + (1 + y1) := by omega
          first | (simpa [intOf, ek] using B) | (simpa [intOf] using B)
        · by_cases h1 : y2 = 1
          · subst h1
            have HOF := hide (of_x g C (j + 1 + 1) x2 3 w2.heap.size 0 5 5 _ (HC2.out.grown (World.grownBy_alloc w2 (.cells (fiveTexts.map Value.string).toArray 9) none) (by simp)) ((HCO.out.grown HG2.out).alloc _) (by omega) (by omega) (texts_new w2 fiveTexts 9 3 fiveTexts_le) (by omega) (by omega) (by omega))
            go_wp2_with fail
            refine HOF.out.mono ?_
            rintro e w4 ⟨t4, x4, rfl, ht4, hx4, hc4, hg4, he4⟩
            have hgb := HG2.out.trans (World.grownBy_alloc w2 (.cells (fiveTexts.map Value.string).toArray 9) (some g))
            have HG4 := hide (hgb.trans hg4)
            have hgs4 := HG4.out.size
            replace hown := own_grown (hown.alloc _) hg4 (fun b hb' e => by have := (HI.out.own.lt b hb').1; have := Option.some.inj e; omega)
            have HC4 := hide hc4
            have HX := hide (stay_draw (n := codeLen C) (fun h => (HE1.out h).1) HE2.out he4 rfl)
            clear HOF hc4 hg4 he4 hgb
            go_wp2_with (at_builtin; go_loud (refine wpList_append_own _ rfl _ _ 23 rfl w.heap.size 30 u0 (.agg #[.int .i64 0, .string ⟨#[]⟩, .string ⟨#[]⟩]) 3 40 Tryd.underlying23 hu0 hz0 hz1 hz2 rfl (by decide) _ _ _ rfl (hown.alloc _) ⟨w4.heap.size, 0, none⟩ 1 1 [.int .i64 0, .string t4, .string ⟨#[]⟩] rfl rfl (cell3_at _ _ rfl _ _ _ _) (by intro u hu; simp at hu; rcases hu with rfl | rfl | rfl <;> rfl) (by unfold maxLen; omega) (by omega) (by simp; omega) ?_); intro v3 w3 hown3 hgrow3 _; have HO3 := hide hown3; have HGR3 := hide hgrow3; clear hown3 hgrow3 hown)
            have hc3 := (HC4.out.grown (World.grownBy_alloc w4 _ none) (by simp)).grown HGR3.out hne
            have hg3 := grown_far (HG4.out.trans (World.grownBy_alloc w4 _ (some g))) (fun b e => (HI.out.own.lt b e).1) HGR3.out
            have e3 := hc3.i
            have e4 := HI.out.cur.i
            obtain ⟨A, B⟩ := HI.out.stay (p := ⟨0, t4, ⟨#[]⟩⟩) hc3 hg3 HO3.out ⟨⟨by show (0 : Int) ≤ 0; omega, by show (0 : Int) ≤ 5; omega⟩, by show t4.size ≤ 3; omega, by first | (show (0 : Nat) ≤ 3; omega) | (show (0 : Nat) ≤ 5; omega)⟩ HX.out
            refine ⟨⟨k, rfl, _, rfl, _, _, _, hide A⟩, ?_⟩
            rw [e3.1, e3.2, e4.1, e4.2]
            simpa [intOf] using B
          · have h01 : ¬ (y2 : Int) = 0 := by omega
            have h11 : ¬ (y2 : Int) = 1 := by omega
            have b0 : ((y2 : Int) == 0) = false := by simpa using h01
            have b1 : ((y2 : Int) == 1) = false := by simpa using h11
            go_wp2_with (at_builtin; go_loud (refine wpList_append_own _ rfl _ _ 23 rfl w.heap.size 30 u0 (.agg #[.int .i64 0, .string ⟨#[]⟩, .string ⟨#[]⟩]) 3 40 Tryd.underlying23 hu0 hz0 hz1 hz2 rfl (by decide) _ _ _ rfl (hown.alloc _) ⟨w2.heap.size, 0, none⟩ 1 1 [.int .i64 (1 + (y1 : Int)), .string ⟨#[]⟩, .string ⟨#[]⟩] rfl rfl (cell3_at _ _ rfl _ _ _ _) (by intro u hu; simp at hu; rcases hu with rfl | rfl | rfl <;> rfl) (by unfold maxLen; omega) (by omega) (by simp; omega) ?_); intro v3 w3 hown3 hgrow3 _; have HO3 := hide hown3; have HGR3 := hide hgrow3; clear hown3 hgrow3 hown)
            have hc3 := (HC2.out.grown (World.grownBy_alloc w2 _ none) (by simp)).grown HGR3.out hne
            have hg3 := grown_far (HG2.out.trans (World.grownBy_alloc w2 _ (some g))) (fun b e => (HI.out.own.lt b e).1) HGR3.out
            have e3 := hc3.i
            have e4 := HI.out.cur.i
            obtain ⟨A, B⟩ := HI.out.next hC (n := (1 + y1)) (p := ⟨1 + (y1 : Int), ⟨#[]⟩, ⟨#[]⟩⟩) hc3 hg3 HO3.out (by omega) (by omega) ⟨⟨by show (0 : Int) ≤ 1 + (y1 : Int); omega, by show 1 + (y1 : Int) ≤ 5; omega⟩, by first | (show (0 : Nat) ≤ 3; omega) | (show (0 : Nat) ≤ 5; omega), by first | (show (0 : Nat) ≤ 3; omega) | (show (0 : Nat) ≤ 5; omega)⟩ (by omega)
            have ek0 : k + (1 + y1) = k + (1 + y1) := by omega
            rw [ek0] at A B
            refine ⟨⟨k + (1 + y1), by go_num, _, rfl, _, _, _, hide A⟩, ?_⟩
            rw [e3.1, e3.2, e4.1, e4.2]
            have ek : ((k : Int) + (1 + (y1 : Int))).toNat = k + (1 + y1) := by omega
            first | (simpa [intOf, ek] using B) | (simpa [intOf] using B)
    · obtain rfl : k = s.size := by omega
      have HONE := hide (one_any g C (M + 3 * L.length) 3 wr (HI.out.cur.any (by omega)) (HCO.out.grown HI.out.gr) (by omega))
      go_wp2_with fail
      refine HONE.out.mono ?_
      rintro e w1 ⟨b, rfl, hc1, hg1⟩
      have HG1 := hide (HI.out.gr.trans hg1)
      have hgs1 := HG1.out.size
      have hown := own_grown HI.out.own hg1 (fun b hb' e => by have := (HI.out.own.lt b hb').1; have := Option.some.inj e; omega)
      have HC1 := hide hc1
      clear hc1 hg1 HONE
      cases b with
      | true =>
        have HOF := hide (of_any g C _ 3 w1.heap.size 0 2 2 _ (HC1.out.alloc (.cells (endTexts.map Value.string).toArray 9)) ((HCO.out.grown HG1.out).alloc _) (by omega) (by omega) (texts_new w1 endTexts 9 3 endTexts_le) (by omega) (by omega) (by omega))
        go_wp2_with fail
        refine HOF.out.mono ?_
        rintro e w4 ⟨t4, rfl, ht4, hc4, hg4⟩
        have hgb := HG1.out.trans (World.grownBy_alloc w1 (.cells (endTexts.map Value.string).toArray 9) (some g))
        have HG4 := hide (hgb.trans hg4)
        have hgs4 := HG4.out.size
        replace hown := own_grown (hown.alloc _) hg4 (fun b hb' e => by have := (HI.out.own.lt b hb').1; have := Option.some.inj e; omega)
        have HC4 := hide hc4
        clear HOF hc4 hg4 hgb
        go_wp2_with (at_builtin; go_loud (refine wpList_append_own _ rfl _ _ 23 rfl w.heap.size 30 u0 (.agg #[.int .i64 0, .string ⟨#[]⟩, .string ⟨#[]⟩]) 3 40 Tryd.underlying23 hu0 hz0 hz1 hz2 rfl (by decide) _ _ _ rfl (hown.alloc _) ⟨w4.heap.size, 0, none⟩ 1 1 [.int .i64 0, .string t4, .string ⟨#[]⟩] rfl rfl (cell3_at _ _ rfl _ _ _ _) (by intro u hu; simp at hu; rcases hu with rfl | rfl | rfl <;> rfl) (by unfold maxLen; omega) (by omega) (by simp; omega) ?_); intro v3 w3 hown3 hgrow3 _; have HO3 := hide hown3; have HGR3 := hide hgrow3; clear hown3 hgrow3 hown)
        go_ret
        have hc3 := (HC4.out.alloc _).grown HGR3.out hne
        have hg3 := grown_far (HG4.out.trans (World.grownBy_alloc w4 _ (some g))) (fun b e => (HI.out.own.lt b e).1) HGR3.out
        refine ⟨v3, L ++ [⟨0, t4, ⟨#[]⟩⟩], rfl, by rw [encP_app, List.length_append]; exact HO3.out, by simp; omega, fun p hp => ?_, hc3.mono (by omega), hg3⟩
        rcases List.mem_append.1 hp with c | c
        · exact HI.out.sm p c
        · rw [List.mem_singleton] at c; rw [c]; exact ⟨⟨by show (0 : Int) ≤ 0; omega, by show (0 : Int) ≤ 5; omega⟩, by show t4.size ≤ 3; omega, by first | (show (0 : Nat) ≤ 3; omega) | (show (0 : Nat) ≤ 5; omega)⟩
      | false =>
        go_wp2
        go_ret
        exact ⟨v, L, rfl, hown, by omega, HI.out.sm, HC1.out.mono (by omega), HG1.out⟩
end Go.Proofs.YtfobkjoinjphdaaDoor

namespace Go.Proofs.YtfobkjoinjphdaaDoor
open Go.RowKit
open Doc1

theorem itT0 (x : Nat) : itN lT (3 * 0 + 2 * 0) x = x := by
  show itN lT 0 x = x
  rw [itN]
theorem itT2 (x : Nat) : itN lT 2 x = lT (lT x) := by rw [itN, itN, itN]
theorem itT3 (x : Nat) : itN lT 3 x = lG x := by
  rw [itN, itN, itN, itN]
  unfold lG
  rfl
/-- Between two rounds: since the code's end as many numbers were drawn as there were puts three times, and steps twice. -/
structure OJ (g : Nat) (C : Value) (s : ByteArray) (i0 : Nat) (w : World) (at_ i x : Nat) (v : Value) (L : List Pt) (wr : World) : Prop where
  cur : CurX g C i x wr
  gr : w.grownBy wr (some g)
  own : wr.ownsRow w.heap.size 30 3 v L.length (encP L)
  le : at_ ≤ s.size
  sm : ∀ p ∈ L, smR p
  gh : ∃ ib xb p q L0 : Nat, (i < codeLen C → i = ib) ∧ ib ≤ i0 + codeLen C + 3 ∧ L0 + i0 ≤ ib ∧ x = itN lT (3 * p + 2 * q) xb ∧ i = ib + (3 * p + 2 * q) ∧ p ≤ cntP xb (3 * p + 2 * q) ∧ q ≤ at_ ∧ L.length = L0 + p + q ∧ 3 * p + 2 * q ≤ 3848290697216
theorem OJ.bd {g : Nat} {C : Value} {s : ByteArray} {i0 : Nat} {w : World} {at_ i x : Nat} {v : Value} {L : List Pt} {wr : World} (h : OJ g C s i0 w at_ i x v L wr) (hs : s.size ≤ 274877906944) : L.length ≤ codeLen C + 3 + 1099511627776 + 274877906944 ∧ i ≤ i0 + codeLen C + 3 + 3848290697216 ∧ i0 ≤ i := by
  obtain ⟨ib, xb, p, q, L0, h1, h2, h3, h4, h5, h6, h7, h8, h9⟩ := h.gh
  have := cnt_le (x := xb) (d := 3 * p + 2 * q) (by omega)
  have := h.le
  omega
theorem OJ.next {g : Nat} {C : Value} {s : ByteArray} {i0 : Nat} {w : World} {at_ i x : Nat} {v : Value} {L : List Pt} {wr : World} (h : OJ g C s i0 w at_ i x v L wr) (hs : s.size ≤ 274877906944) {n x2 : Nat} {p : Pt} {v' : Value} {wr' : World}
    (hc : CurX g C (i + 1 + 1) x2 wr') (hg : w.grownBy wr' (some g)) (ho : wr'.ownsRow w.heap.size 30 3 v' (L.length + 1) (encP L ++ encP [p])) (hn : 0 < n) (hl : at_ + n ≤ s.size) (hp : smR p) (hx : codeLen C ≤ i → x2 = lT (lT x)) :
    OJ g C s i0 w (at_ + n) (i + 1 + 1) x2 v' (L ++ [p]) wr' := by
  refine ⟨hc, hg, by rw [encP_app, List.length_append]; exact ho, hl, fun q hq => ?_, ?_⟩
  · rcases List.mem_append.1 hq with c | c
    · exact h.sm q c
    · rw [List.mem_singleton] at c; rw [c]; exact hp
  · obtain ⟨ib, xb, p, q, L0, h1, h2, h3, h4, h5, h6, h7, h8, h9⟩ := h.gh
    by_cases c : i < codeLen C
    · exact ⟨i + 2, x2, 0, 0, L.length + 1, fun _ => rfl, by omega, by have := h1 c; omega, (itT0 x2).symm, by omega, Nat.zero_le _, by omega, by simp, by omega⟩
    · refine ⟨ib, xb, p, q + 1, L0, fun d => by omega, h2, h3, ?_, by omega, ?_, by omega, by simp; omega, ?_⟩
      · have e : 3 * p + 2 * (q + 1) = (3 * p + 2 * q) + 2 := by omega
        rw [hx (by omega), e, itN_add, ← h4, itT2]
      · exact Nat.le_trans h6 (cnt_mono xb (by omega))
      · have := cnt_le (x := xb) (d := 3 * p + 2 * q) (by omega)
        omega
theorem OJ.stay {g : Nat} {C : Value} {s : ByteArray} {i0 : Nat} {w : World} {at_ i x : Nat} {v : Value} {L : List Pt} {wr : World} (h : OJ g C s i0 w at_ i x v L wr) (hs : s.size ≤ 274877906944) {x2 : Nat} {p : Pt} {v' : Value} {wr' : World}
    (hc : CurX g C (i + 3) x2 wr') (hg : w.grownBy wr' (some g)) (ho : wr'.ownsRow w.heap.size 30 3 v' (L.length + 1) (encP L ++ encP [p])) (hp : smR p) (hx : codeLen C ≤ i → (lT (lT x) / 1099511627776 % 4 = 1 ∧ x2 = lG x)) :
    OJ g C s i0 w at_ (i + 3) x2 v' (L ++ [p]) wr' := by
  refine ⟨hc, hg, by rw [encP_app, List.length_append]; exact ho, h.le, fun q hq => ?_, ?_⟩
  · rcases List.mem_append.1 hq with c | c
    · exact h.sm q c
    · rw [List.mem_singleton] at c; rw [c]; exact hp
  · obtain ⟨ib, xb, p, q, L0, h1, h2, h3, h4, h5, h6, h7, h8, h9⟩ := h.gh
    have hle := h.le
    by_cases c : i < codeLen C
    · exact ⟨i + 3, x2, 0, 0, L.length + 1, fun _ => rfl, by omega, by have := h1 c; omega, (itT0 x2).symm, by omega, Nat.zero_le _, by omega, by simp, by omega⟩
    · obtain ⟨k1, k2⟩ := hx (by omega)
      have e : 3 * (p + 1) + 2 * q = (3 * p + 2 * q) + 3 := by omega
      have kp : itN lT (3 * p + 2 * q + 2) xb / 1099511627776 % 4 = 1 := by rw [itN_add, ← h4, itT2]; exact k1
      have h10 := cnt_put kp
      have h11 := cnt_le (x := xb) (d := 3 * p + 2 * q + 3) (by omega)
      refine ⟨ib, xb, p + 1, q, L0, fun d => by omega, h2, h3, ?_, by omega, ?_, h7, by simp; omega, by omega⟩
      · rw [k2, e, itN_add, ← h4, itT3]
      · rw [e]; omega

set_option maxRecDepth 100000 in
set_option maxHeartbeats 8000000 in
theorem opOn_b (g : Nat) (C : Value) (M : Nat) (s : ByteArray) (w : World) (hcur0 : CurAt g C M w) (hco : CodeAt g C w) (hC : codeLen C ≤ 1048576) (hi : M ≤ 1000000000000000) (hs : s.size ≤ 274877906944) :
    Calls Tryd.prog 12 #[.pointer (some ⟨g, 0, none⟩), .string s] w fun e w' => ∃ v L, e = .returned v ∧ w'.ownsRow w.heap.size 30 3 v L.length (encP L) ∧ L.length ≤ 2586186935075 ∧ (∀ p ∈ L, smR p) ∧ CurAt g C (M + 8000000000000) w' ∧ w.grownBy w' (some g) := by
  obtain ⟨u0, hu0, hz0, hz1, hz2⟩ := info_parts Tryd.infoPart
  obtain ⟨i, x, hiM, hcur⟩ := hcur0.x
  clear hcur0
  have hgl : g < w.heap.size := World.block_lt_of_cell? w _ hcur.c0
  have R0 : Hid (OJ g C s i w 0 i x (.slice none 0 0) [] w) := hide ⟨hcur, grown_refl _ _, World.ownsRow_nil _ _ _ _, Nat.zero_le _, (fun p hp => by cases hp), i, x, 0, 0, 0, fun _ => rfl, by omega, by omega, (itT0 x).symm, by omega, Nat.zero_le _, by omega, by simp, by omega⟩
  have HCO := hide hco
  clear hcur hco
  go_enter Tryd.func12, Tryd.ntmps12
  go_wp2_with fail
  go_loopw [5, 6] (fun v a wr => ∃ k : Nat, a = .int .i64 k ∧ ∃ v0, v0 = v ∧ ∃ j y L, Hid (OJ g C s i w k j y v0 L wr)) (fun _ _ wr => i + codeLen C + 3 + 3848290697216 - curI g wr)
  case atStart => exact ⟨0, rfl, _, rfl, i, x, [], R0⟩
  case round =>
    obtain ⟨k, rfl, v, hv0, j, y, L, HI⟩ := hrel
    subst hv0
    clear R0
    have hle := HI.out.le
    obtain ⟨hLb, hib, hib0⟩ := HI.out.bd hs
    have hel := encP_len L
    have hgs := HI.out.gr.size
    have hne : v.ownBlock ≠ some g := fun e => by have := (HI.out.own.lt g e).1; omega
    by_cases hlt : k < s.size
    · have P1 := hide (pick_x g C j y 5 wr HI.out.cur (HCO.out.grown HI.out.gr) (by omega) (by omega) (by omega))
      go_wp2_with fail
      refine P1.out.mono ?_
      rintro e w1 ⟨y1, x1, rfl, hy1, hx1, hc1, hg1, he1⟩
      have HG1 := hide (HI.out.gr.trans hg1)
      have HO1 := hide (own_grown HI.out.own hg1 (fun b hb' e => by have := (HI.out.own.lt b hb').1; have := Option.some.inj e; omega))
      have P2 := hide (pick_x g C (j + 1) x1 4 w1 hc1 (HCO.out.grown HG1.out) (by omega) (by omega) (by omega))
      have HE1 := hide he1
      clear P1 hg1 hc1 he1
      by_cases hcl : (s.size : Int) - (k : Int) < 1 + (y1 : Int)
      · skip
        go_wp2_with fail
        refine P2.out.mono ?_
        rintro e w2 ⟨y2, x2, rfl, hy2, hx2, hc2, hg2, he2⟩
        have HG2 := hide (HG1.out.trans hg2)
        have hgs2 := HG2.out.size
        have hown := own_grown HO1.out hg2 (fun b hb' e => by have := (HI.out.own.lt b hb').1; have := Option.some.inj e; omega)
        have HC2 := hide hc2
        have HE2 := hide he2
        have NXT : Hid (codeLen C ≤ j → x2 = lT (lT y)) := hide (fun h => by rw [(he2 (by omega)).1, (HE1.out h).1])
        clear hc2 hg2 he2 P2
        by_cases h0 : y2 = 0
        · subst h0
          go_wp2_with (at_builtin; go_loud (refine wpList_append_own _ rfl _ _ 23 rfl w.heap.size 30 u0 (.agg #[.int .i64 0, .string ⟨#[]⟩, .string ⟨#[]⟩]) 3 40 Tryd.underlying23 hu0 hz0 hz1 hz2 rfl (by decide) _ _ _ rfl (hown.alloc _) ⟨w2.heap.size, 0, none⟩ 1 1 [.int .i64 0, .string ⟨#[]⟩, .string (s.extract k s.size)] rfl rfl (cell3_at _ _ rfl _ _ _ _) (by intro u hu; simp at hu; rcases hu with rfl | rfl | rfl <;> rfl) (by unfold maxLen; omega) (by omega) (by simp; omega) ?_); intro v3 w3 hown3 hgrow3 _; have HO3 := hide hown3; have HGR3 := hide hgrow3; clear hown3 hgrow3 hown)
          have hc3 := (HC2.out.grown (World.grownBy_alloc w2 _ none) (by simp)).grown HGR3.out hne
          have hg3 := grown_far (HG2.out.trans (World.grownBy_alloc w2 _ (some g))) (fun b e => (HI.out.own.lt b e).1) HGR3.out
          have e3 := hc3.i
          have e4 := HI.out.cur.i
          have A := HI.out.next hs (n := (s.size - k)) (p := ⟨0, ⟨#[]⟩, s.extract k s.size⟩) hc3 hg3 HO3.out (by omega) (by omega) ⟨⟨by show (0 : Int) ≤ 0; omega, by show (0 : Int) ≤ 5; omega⟩, by first | (show (0 : Nat) ≤ 3; omega) | (show (0 : Nat) ≤ 5; omega), by show (s.extract k s.size).size ≤ 5; rw [ByteArray.size_extract]; omega⟩ NXT.out
          have A2 := A.bd hs
          have ek0 : k + (s.size - k) = s.size := by omega
          rw [ek0] at A
          refine ⟨⟨s.size, by go_num, _, rfl, _, _, _, hide A⟩, ?_⟩
          rw [e3.1, e4.1]
          omega
        · by_cases h1 : y2 = 1
          · subst h1
            have HOF := hide (of_x g C (j + 1 + 1) x2 3 w2.heap.size 0 5 5 _ (HC2.out.grown (World.grownBy_alloc w2 (.cells (fiveTexts.map Value.string).toArray 9) none) (by simp)) ((HCO.out.grown HG2.out).alloc _) (by omega) (by omega) (texts_new w2 fiveTexts 9 3 fiveTexts_le) (by omega) (by omega) (by omega))
            go_wp2_with fail
            refine HOF.out.mono ?_
            rintro e w4 ⟨t4, x4, rfl, ht4, hx4, hc4, hg4, he4⟩
            have hgb := HG2.out.trans (World.grownBy_alloc w2 (.cells (fiveTexts.map Value.string).toArray 9) (some g))
            have HG4 := hide (hgb.trans hg4)
            have hgs4 := HG4.out.size
            replace hown := own_grown (hown.alloc _) hg4 (fun b hb' e => by have := (HI.out.own.lt b hb').1; have := Option.some.inj e; omega)
            have HC4 := hide hc4
            have HX := hide (stay_draw (n := codeLen C) (fun h => (HE1.out h).1) HE2.out he4 rfl)
            clear HOF hc4 hg4 he4 hgb
            go_wp2_with (at_builtin; go_loud (refine wpList_append_own _ rfl _ _ 23 rfl w.heap.size 30 u0 (.agg #[.int .i64 0, .string ⟨#[]⟩, .string ⟨#[]⟩]) 3 40 Tryd.underlying23 hu0 hz0 hz1 hz2 rfl (by decide) _ _ _ rfl (hown.alloc _) ⟨w4.heap.size, 0, none⟩ 1 1 [.int .i64 0, .string t4, .string ⟨#[]⟩] rfl rfl (cell3_at _ _ rfl _ _ _ _) (by intro u hu; simp at hu; rcases hu with rfl | rfl | rfl <;> rfl) (by unfold maxLen; omega) (by omega) (by simp; omega) ?_); intro v3 w3 hown3 hgrow3 _; have HO3 := hide hown3; have HGR3 := hide hgrow3; clear hown3 hgrow3 hown)
            have hc3 := (HC4.out.grown (World.grownBy_alloc w4 _ none) (by simp)).grown HGR3.out hne
            have hg3 := grown_far (HG4.out.trans (World.grownBy_alloc w4 _ (some g))) (fun b e => (HI.out.own.lt b e).1) HGR3.out
            have e3 := hc3.i
            have e4 := HI.out.cur.i
            have A := HI.out.stay hs (p := ⟨0, t4, ⟨#[]⟩⟩) hc3 hg3 HO3.out ⟨⟨by show (0 : Int) ≤ 0; omega, by show (0 : Int) ≤ 5; omega⟩, by show t4.size ≤ 3; omega, by first | (show (0 : Nat) ≤ 3; omega) | (show (0 : Nat) ≤ 5; omega)⟩ HX.out
            have A2 := A.bd hs
            refine ⟨⟨k, rfl, _, rfl, _, _, _, hide A⟩, ?_⟩
            rw [e3.1, e4.1]
            omega
          · have h01 : ¬ (y2 : Int) = 0 := by omega
            have h11 : ¬ (y2 : Int) = 1 := by omega
            have b0 : ((y2 : Int) == 0) = false := by simpa using h01
            have b1 : ((y2 : Int) == 1) = false := by simpa using h11
            go_wp2_with (at_builtin; go_loud (refine wpList_append_own _ rfl _ _ 23 rfl w.heap.size 30 u0 (.agg #[.int .i64 0, .string ⟨#[]⟩, .string ⟨#[]⟩]) 3 40 Tryd.underlying23 hu0 hz0 hz1 hz2 rfl (by decide) _ _ _ rfl (hown.alloc _) ⟨w2.heap.size, 0, none⟩ 1 1 [.int .i64 ((s.size : Int) - (k : Int)), .string ⟨#[]⟩, .string ⟨#[]⟩] rfl rfl (cell3_at _ _ rfl _ _ _ _) (by intro u hu; simp at hu; rcases hu with rfl | rfl | rfl <;> rfl) (by unfold maxLen; omega) (by omega) (by simp; omega) ?_); intro v3 w3 hown3 hgrow3 _; have HO3 := hide hown3; have HGR3 := hide hgrow3; clear hown3 hgrow3 hown)
            have hc3 := (HC2.out.grown (World.grownBy_alloc w2 _ none) (by simp)).grown HGR3.out hne
            have hg3 := grown_far (HG2.out.trans (World.grownBy_alloc w2 _ (some g))) (fun b e => (HI.out.own.lt b e).1) HGR3.out
            have e3 := hc3.i
            have e4 := HI.out.cur.i
            have A := HI.out.next hs (n := (s.size - k)) (p := ⟨(s.size : Int) - (k : Int), ⟨#[]⟩, ⟨#[]⟩⟩) hc3 hg3 HO3.out (by omega) (by omega) ⟨⟨by show (0 : Int) ≤ (s.size : Int) - (k : Int); omega, by show (s.size : Int) - (k : Int) ≤ 5; omega⟩, by first | (show (0 : Nat) ≤ 3; omega) | (show (0 : Nat) ≤ 5; omega), by first | (show (0 : Nat) ≤ 3; omega) | (show (0 : Nat) ≤ 5; omega)⟩ NXT.out
            have A2 := A.bd hs
            have ek0 : k + (s.size - k) = s.size := by omega
            rw [ek0] at A
            refine ⟨⟨s.size, by go_num, _, rfl, _, _, _, hide A⟩, ?_⟩
            rw [e3.1, e4.1]
            omega
      · replace hcl : 1 + (y1 : Int) ≤ (s.size : Int) - (k : Int) := by omega
        go_wp2_with fail
        refine P2.out.mono ?_
        rintro e w2 ⟨y2, x2, rfl, hy2, hx2, hc2, hg2, he2⟩
        have HG2 := hide (HG1.out.trans hg2)
        have hgs2 := HG2.out.size
        have hown := own_grown HO1.out hg2 (fun b hb' e => by have := (HI.out.own.lt b hb').1; have := Option.some.inj e; omega)
        have HC2 := hide hc2
        have HE2 := hide he2
        have NXT : Hid (codeLen C ≤ j → x2 = lT (lT y)) := hide (fun h => by rw [(he2 (by omega)).1, (HE1.out h).1])
        clear hc2 hg2 he2 P2
        by_cases h0 : y2 = 0
        · subst h0
          go_wp2_with (at_builtin; go_loud (refine wpList_append_own _ rfl _ _ 23 rfl w.heap.size 30 u0 (.agg #[.int .i64 0, .string ⟨#[]⟩, .string ⟨#[]⟩]) 3 40 Tryd.underlying23 hu0 hz0 hz1 hz2 rfl (by decide) _ _ _ rfl (hown.alloc _) ⟨w2.heap.size, 0, none⟩ 1 1 [.int .i64 0, .string ⟨#[]⟩, .string ((s.extract k (k + (1 + y1))))] rfl rfl (cell3_at _ _ rfl _ _ _ _) (by intro u hu; simp at hu; rcases hu with rfl | rfl | rfl <;> rfl) (by unfold maxLen; omega) (by omega) (by simp; omega) ?_); intro v3 w3 hown3 hgrow3 _; have HO3 := hide hown3; have HGR3 := hide hgrow3; clear hown3 hgrow3 hown)
          have hc3 := (HC2.out.grown (World.grownBy_alloc w2 _ none) (by simp)).grown HGR3.out hne
          have hg3 := grown_far (HG2.out.trans (World.grownBy_alloc w2 _ (some g))) (fun b e => (HI.out.own.lt b e).1) HGR3.out
          have e3 := hc3.i
          have e4 := HI.out.cur.i
          have A := HI.out.next hs (n := (1 + y1)) (p := ⟨0, ⟨#[]⟩, (s.extract k (k + (1 + y1)))⟩) hc3 hg3 HO3.out (by omega) (by omega) ⟨⟨by show (0 : Int) ≤ 0; omega, by show (0 : Int) ≤ 5; omega⟩, by first | (show (0 : Nat) ≤ 3; omega) | (show (0 : Nat) ≤ 5; omega), by show ((s.extract k (k + (1 + y1)))).size ≤ 5; rw [ByteArray.size_extract]; omega⟩ NXT.out
          have A2 := A.bd hs
          have ek0 : k + (1 + y1) = k + (1 + y1) := by omega
          rw [ek0] at A
          refine ⟨⟨k + (1 + y1), by go_num, _, rfl, _, _, _, hide A⟩, ?_⟩
          rw [e3.1, e4.1]
          omega
        · by_cases h1 : y2 = 1
          · subst h1
            have HOF := hide (of_x g C (j + 1 + 1) x2 3 w2.heap.size 0 5 5 _ (HC2.out.grown (World.grownBy_alloc w2 (.cells (fiveTexts.map Value.string).toArray 9) none) (by simp)) ((HCO.out.grown HG2.out).alloc _) (by omega) (by omega) (texts_new w2 fiveTexts 9 3 fiveTexts_le) (by omega) (by omega) (by omega))
            go_wp2_with fail
            refine HOF.out.mono ?_
            rintro e w4 ⟨t4, x4, rfl, ht4, hx4, hc4, hg4, he4⟩
            have hgb := HG2.out.trans (World.grownBy_alloc w2 (.cells (fiveTexts.map Value.string).toArray 9) (some g))
            have HG4 := hide (hgb.trans hg4)
            have hgs4 := HG4.out.size
            replace hown := own_grown (hown.alloc _) hg4 (fun b hb' e => by have := (HI.out.own.lt b hb').1; have := Option.some.inj e; omega)
            have HC4 := hide hc4
            have HX := hide (stay_draw (n := codeLen C) (fun h => (HE1.out h).1) HE2.out he4 rfl)
            clear HOF hc4 hg4 he4 hgb
            go_wp2_with (at_builtin; go_loud (refine wpList_append_own _ rfl _ _ 23 rfl w.heap.size 30 u0 (.agg #[.int .i64 0, .string ⟨#[]⟩, .string ⟨#[]⟩]) 3 40 Tryd.underlying23 hu0 hz0 hz1 hz2 rfl (by decide) _ _ _ rfl (hown.alloc _) ⟨w4.heap.size, 0, none⟩ 1 1 [.int .i64 0, .string t4, .string ⟨#[]⟩] rfl rfl (cell3_at _ _ rfl _ _ _ _) (by intro u hu; simp at hu; rcases hu with rfl | rfl | rfl <;> rfl) (by unfold maxLen; omega) (by omega) (by simp; omega) ?_); intro v3 w3 hown3 hgrow3 _; have HO3 := hide hown3; have HGR3 := hide hgrow3; clear hown3 hgrow3 hown)
            have hc3 := (HC4.out.grown (World.grownBy_alloc w4 _ none) (by simp)).grown HGR3.out hne
            have hg3 := grown_far (HG4.out.trans (World.grownBy_alloc w4 _ (some g))) (fun b e => (HI.out.own.lt b e).1) HGR3.out
            have e3 := hc3.i
            have e4 := HI.out.cur.i
            have A := HI.out.stay hs (p := ⟨0, t4, ⟨#[]⟩⟩) hc3 hg3 HO3.out ⟨⟨by show (0 : Int) ≤ 0; omega, by show (0 : Int) ≤ 5; omega⟩, by show t4.size ≤ 3; omega, by first | (show (0 : Nat) ≤ 3; omega) | (show (0 : Nat) ≤ 5; omega)⟩ HX.out
            have A2 := A.bd hs
            refine ⟨⟨k, rfl, _, rfl, _, _, _, hide A⟩, ?_⟩
            rw [e3.1, e4.1]
            omega
          · have h01 : ¬ (y2 : Int) = 0 := by omega
            have h11 : ¬ (y2 : Int) = 1 := by omega
            have b0 : ((y2 : Int) == 0) = false := by simpa using h01
            have b1 : ((y2 : Int) == 1) = false := by simpa using h11
            go_wp2_with (at_builtin; go_loud (refine wpList_append_own _ rfl _ _ 23 rfl w.heap.size 30 u0 (.agg #[.int .i64 0, .string ⟨#[]⟩, .string ⟨#[]⟩]) 3 40 Tryd.underlying23 hu0 hz0 hz1 hz2 rfl (by decide) _ _ _ rfl (hown.alloc _) ⟨w2.heap.size, 0, none⟩ 1 1 [.int .i64 (1 + (y1 : Int)), .string ⟨#[]⟩, .string ⟨#[]⟩] rfl rfl (cell3_at _ _ rfl _ _ _ _) (by intro u hu; simp at hu; rcases hu with rfl | rfl | rfl <;> rfl) (by unfold maxLen; omega) (by omega) (by simp; omega) ?_); intro v3 w3 hown3 hgrow3 _; have HO3 := hide hown3; have HGR3 := hide hgrow3; clear hown3 hgrow3 hown)
            have hc3 := (HC2.out.grown (World.grownBy_alloc w2 _ none) (by simp)).grown HGR3.out hne
            have hg3 := grown_far (HG2.out.trans (World.grownBy_alloc w2 _ (some g))) (fun b e => (HI.out.own.lt b e).1) HGR3.out
            have e3 := hc3.i
            have e4 := HI.out.cur.i
            have A := HI.out.next hs (n := (1 + y1)) (p := ⟨1 + (y1 : Int), ⟨#[]⟩, ⟨#[]⟩⟩) hc3 hg3 HO3.out (by omega) (by omega) ⟨⟨by show (0 : Int) ≤ 1 + (y1 : Int); omega, by show 1 + (y1 : Int) ≤ 5; omega⟩, by first | (show (0 : Nat) ≤ 3; omega) | (show (0 : Nat) ≤ 5; omega), by first | (show (0 : Nat) ≤ 3; omega) | (show (0 : Nat) ≤ 5; omega)⟩ NXT.out
            have A2 := A.bd hs
            have ek0 : k + (1 + y1) = k + (1 + y1) := by omega
            rw [ek0] at A
            refine ⟨⟨k + (1 + y1), by go_num, _, rfl, _, _, _, hide A⟩, ?_⟩
            rw [e3.1, e4.1]
            omega
    · obtain rfl : k = s.size := by omega
      have HONE := hide (one_any g C (M + codeLen C + 3 + 3848290697216) 3 wr (HI.out.cur.any (by omega)) (HCO.out.grown HI.out.gr) (by omega))
      go_wp2_with fail
      refine HONE.out.mono ?_
      rintro e w1 ⟨b, rfl, hc1, hg1⟩
      have HG1 := hide (HI.out.gr.trans hg1)
      have hgs1 := HG1.out.size
      have hown := own_grown HI.out.own hg1 (fun b hb' e => by have := (HI.out.own.lt b hb').1; have := Option.some.inj e; omega)
      have HC1 := hide hc1
      clear hc1 hg1 HONE
      cases b with
      | true =>
        have HOF := hide (of_any g C _ 3 w1.heap.size 0 2 2 _ (HC1.out.alloc (.cells (endTexts.map Value.string).toArray 9)) ((HCO.out.grown HG1.out).alloc _) (by omega) (by omega) (texts_new w1 endTexts 9 3 endTexts_le) (by omega) (by omega) (by omega))
        go_wp2_with fail
        refine HOF.out.mono ?_
        rintro e w4 ⟨t4, rfl, ht4, hc4, hg4⟩
        have hgb := HG1.out.trans (World.grownBy_alloc w1 (.cells (endTexts.map Value.string).toArray 9) (some g))
        have HG4 := hide (hgb.trans hg4)
        have hgs4 := HG4.out.size
        replace hown := own_grown (hown.alloc _) hg4 (fun b hb' e => by have := (HI.out.own.lt b hb').1; have := Option.some.inj e; omega)
        have HC4 := hide hc4
        clear HOF hc4 hg4 hgb
        go_wp2_with (at_builtin; go_loud (refine wpList_append_own _ rfl _ _ 23 rfl w.heap.size 30 u0 (.agg #[.int .i64 0, .string ⟨#[]⟩, .string ⟨#[]⟩]) 3 40 Tryd.underlying23 hu0 hz0 hz1 hz2 rfl (by decide) _ _ _ rfl (hown.alloc _) ⟨w4.heap.size, 0, none⟩ 1 1 [.int .i64 0, .string t4, .string ⟨#[]⟩] rfl rfl (cell3_at _ _ rfl _ _ _ _) (by intro u hu; simp at hu; rcases hu with rfl | rfl | rfl <;> rfl) (by unfold maxLen; omega) (by omega) (by simp; omega) ?_); intro v3 w3 hown3 hgrow3 _; have HO3 := hide hown3; have HGR3 := hide hgrow3; clear hown3 hgrow3 hown)
        go_ret
        have hc3 := (HC4.out.alloc _).grown HGR3.out hne
        have hg3 := grown_far (HG4.out.trans (World.grownBy_alloc w4 _ (some g))) (fun b e => (HI.out.own.lt b e).1) HGR3.out
        refine ⟨v3, L ++ [⟨0, t4, ⟨#[]⟩⟩], rfl, by rw [encP_app, List.length_append]; exact HO3.out, by simp; omega, fun p hp => ?_, hc3.mono (by omega), hg3⟩
        rcases List.mem_append.1 hp with c | c
        · exact HI.out.sm p c
        · rw [List.mem_singleton] at c; rw [c]; exact ⟨⟨by show (0 : Int) ≤ 0; omega, by show (0 : Int) ≤ 5; omega⟩, by show t4.size ≤ 3; omega, by first | (show (0 : Nat) ≤ 3; omega) | (show (0 : Nat) ≤ 5; omega)⟩
      | false =>
        go_wp2
        go_ret
        exact ⟨v, L, rfl, hown, by omega, HI.out.sm, HC1.out.mono (by omega), HG1.out⟩
end Go.Proofs.YtfobkjoinjphdaaDoor

set_option linter.unusedVariables false
namespace Go.Proofs.YtfobkjoinjphdaaDoor
open Go.RowKit
open Doc1

/-- A row of parts of one's own: nil, or cells in a block. -/
theorem own_cells4 {w : World} {B : Nat} {v : Value} {l : List Pt} (h : POwn w B v l) : ∃ aw cap, v = .slice aw l.length cap ∧ l.length ≤ cap ∧ cap ≤ maxLen ∧ (0 < l.length → ∃ g, aw = some ⟨g, 0, none⟩ ∧ CLs w g (encP l) ∧ g < w.heap.size) := by
  rcases h.2 with ⟨rfl, h0⟩ | ⟨g, cap, cur, rfl, hb, hh, hle, hm, hz, ht⟩
  · exact ⟨none, 0, by rw [h0], by omega, by unfold maxLen; omega, fun c => by omega⟩
  · refine ⟨_, cap, rfl, hle, hm, fun _ => ⟨g, rfl, fun j u hu => ?_, (Array.getElem?_eq_some_iff.1 hh).1⟩⟩
    have := h.cells (g := g) rfl j u hu
    have hadd : (⟨g, 0, none⟩ : Addr).add j = ⟨g, j, none⟩ := by unfold Addr.add; split <;> simp_all
    rwa [hadd] at this

theorem grown_below4 {w w1 w2 : World} {g : Nat} (h : w.grownBy w1 (some g)) (hb : Below w1.heap.size w1 w2) : w.grownBy w2 (some g) :=
  h.trans ⟨hb.os, hb.tape, hb.output, hb.size, fun k hk _ => hb.block k hk⟩

set_option maxRecDepth 100000 in
set_option maxHeartbeats 4000000 in
theorem l3Apply_sh {w : World} {B : Nat} {v : Value} {l : List Pt} (s : ByteArray) (h : POwn w B v l) (hl : l.length ≤ 81114695741) (hq : ∀ p ∈ l, smR p) (hs : s.size ≤ 300) :
    Calls Tryd.prog 13 #[v, .string s] w fun e w' => ∃ (t : ByteArray) (b : Bool), e = .returned (.tuple #[.string t, .bool b]) ∧ t.size ≤ 300 + 3 * l.length ∧ Below w.heap.size w w' := by
  obtain ⟨aw, cap, rfl, hle, hcm, hcl⟩ := own_cells4 h
  unfold maxLen at hcm
  have HC := hide hcl
  have HQ := hide hq
  clear h hcl hq
  go_enter Tryd.func13, Tryd.ntmps13
  go_wp2
  go_loopw [1, 6, 12] (fun a b i wr => ∃ (k : Nat) (x y : ByteArray), k ≤ l.length ∧ i = .int .i64 k ∧ a = .string x ∧ b = .string y ∧ x.size ≤ 300 ∧ y.size + x.size ≤ 300 + 3 * k ∧ Below w.heap.size w wr) (fun _ _ i _ => l.length - (intOf i).toNat)
  case atStart => exact ⟨0, s, ⟨#[]⟩, by omega, rfl, rfl, rfl, hs, by show 0 + s.size ≤ 300 + 3 * 0; omega, Below.refl _ _⟩
  case round =>
    obtain ⟨k, x, y, hk, rfl, rfl, rfl, hx, hy, hbel⟩ := hrel
    by_cases hlt : k < l.length
    · obtain ⟨g, rfl, hcls, hglt⟩ := HC.out (by omega)
      obtain ⟨c0, c1, c2⟩ := (hcls.later hbel hglt).ptat k hlt
      have hpq := HQ.out l[k] (List.getElem_mem hlt)
      obtain ⟨⟨k0, k1⟩, hp2, hd2⟩ := hpq
      obtain ⟨K, hK⟩ : ∃ K : Nat, l[k].keep = K := ⟨l[k].keep.toNat, by omega⟩
      have ha := hbel.alloc hbel.size (.cells #[.int .i64 l[k].keep, .string l[k].put, .string l[k].drop] 30)
      rw [hK] at c0 ha k1
      clear hK k0 hcls
      have hK300 : K ≤ 5 := by omega
      clear k1
      have e1 := emp_b l[k].drop
      have e2 := sz_list l[k].drop
      generalize l[k].drop = D at *
      generalize l[k].put = U at *
      by_cases hn : x.size < K + D.size
      · have hdk : decide ((x.size : Int) < (K : Int) + (D.size : Int)) = true := decide_eq_true (by omega)
        clear e1 e2
        go_wp2
        go_region
        go_wp2
        go_ret2
        exact ⟨_, _, rfl, by show 0 ≤ 300 + 3 * l.length; omega, ha.drew⟩
      · have hdk : decide ((x.size : Int) < (K : Int) + (D.size : Int)) = false := decide_eq_false (by omega)
        by_cases hD : D.data.toList = []
        · rw [decide_eq_true hD] at e1
          have hD0 : D.size = 0 := by rw [e2, hD]; rfl
          clear e2 hdk
          have hdk : decide (x.size < K) = false := decide_eq_false (by omega)
          by_cases hK0 : 0 < K
          · go_wp2
            go_region
            go_wp2
            refine ⟨⟨k + 1, _, _, by omega, by go_num, rfl, rfl, ?_, ?_, ha.drew⟩, by simp [intOf]; omega⟩
            · rw [ByteArray.size_extract]; omega
            · simp only [ByteArray.size_append, ByteArray.size_extract]; omega
          · go_wp2
            go_region
            go_wp2
            refine ⟨⟨k + 1, _, _, by omega, by go_num, rfl, rfl, ?_, ?_, ha.drew⟩, by simp [intOf]; omega⟩
            · rw [ByteArray.size_extract]; omega
            · simp only [ByteArray.size_append, ByteArray.size_extract]; omega
        · have hD3 : D.toList.isEmpty = false := by rw [e1]; exact decide_eq_false hD
          clear e1 e2
          cases hE : ((x.extract 0 (K + D.size)).toList == D.toList) with
          | true =>
            by_cases hK0 : 0 < K
            · go_wp2
              go_region
              go_wp2
              refine ⟨⟨k + 1, _, _, by omega, by go_num, rfl, rfl, ?_, ?_, ha.drew⟩, by simp [intOf]; omega⟩
              · rw [ByteArray.size_extract]; omega
              · simp only [ByteArray.size_append, ByteArray.size_extract]; omega
            · go_wp2
              go_region
              go_wp2
              refine ⟨⟨k + 1, _, _, by omega, by go_num, rfl, rfl, ?_, ?_, ha.drew⟩, by simp [intOf]; omega⟩
              · rw [ByteArray.size_extract]; omega
              · simp only [ByteArray.size_append, ByteArray.size_extract]; omega
          | false =>
            go_wp2
            go_region
            go_wp2
            go_ret2
            exact ⟨_, _, rfl, by show 0 ≤ 300 + 3 * l.length; omega, ha.drew⟩
    · go_wp2
      go_ret2
      exact ⟨_, _, rfl, by omega, hbel⟩

set_option maxHeartbeats 2000000 in
theorem spoilt_big (g : Nat) (C : Value) (M : Nat) (t v : ByteArray) (w : World) (hcur : CurAt g C M w) (hco : CodeAt g C w) (hM : M ≤ 3000000000000000000) (ht : t.size ≤ 274877906900) (hv : 0 < v.size) (hv2 : v.size ≤ 100) :
    Calls Tryd.prog 15 #[.pointer (some ⟨g, 0, none⟩), .string t, .string v] w (TextPost g C (M + 20) (t.size + 3) w) := by
  go_enter Tryd.func15, Tryd.ntmps15
  go_wp2_with fail
  refine (pick_any g C M 3 w hcur hco (by omega)).mono ?_
  rintro e w1 ⟨y, rfl, hy0, hy1, hy2, hc1, hg1⟩
  have hy3 := hy2 (by omega)
  clear hy2 hcur
  obtain ⟨n, rfl⟩ : ∃ n : Nat, y = n := ⟨y.toNat, by omega⟩
  go_wp2
  go_loopw [1, 7] (fun tv nv wr => ∃ (m : Nat) (u : ByteArray), m ≤ n ∧ nv = .int .i64 m ∧ tv = .string u ∧ u.size + m ≤ t.size + n ∧ CurAt g C (M + 2 + (n - m) * 6) wr ∧ w.grownBy wr (some g)) (fun _ nv _ => (intOf nv).toNat)
  case atStart => exact ⟨n, t, Nat.le_refl _, rfl, rfl, Nat.le_refl _, by simpa using hc1, hg1⟩
  case round =>
    obtain ⟨m, u, hm, rfl, rfl, hu, hc, hg⟩ := hrel
    by_cases h0 : 0 < m ∧ 0 < u.size
    · obtain ⟨h0, hu0⟩ := h0
      have hcor : CodeAt g C wr := hco.grown hg
      go_wp2_with fail
      refine (pick_any g C _ u.size wr hc hcor (by omega)).mono ?_
      rintro e w2 ⟨i, rfl, hi0, hi1, hi2, hc2, hg2⟩
      have hi3 := hi2 (by omega)
      obtain ⟨k, rfl⟩ : ∃ k : Nat, i = k := ⟨i.toNat, by omega⟩
      have hk : k < u.size := by omega
      have hco2 := hcor.grown hg2
      have hgA := hg.trans hg2
      clear hi2 hc hcor hg hg2
      go_wp2_with fail
      refine (pick_any g C _ v.size w2 hc2 hco2 (by omega)).mono ?_
      rintro e w3 ⟨j, rfl, hj0, hj1, hj2, hc3, hg3⟩
      have hj3 := hj2 (by omega)
      obtain ⟨q, rfl⟩ : ∃ q : Nat, j = q := ⟨j.toNat, by omega⟩
      have hq : q < v.size := by omega
      have hco3 := hco2.grown hg3
      have hgB := hgA.trans hg3
      have hcv := conv_new w3 (v[q].toNat : Int) (by omega) (by have := UInt8.toNat_lt v[q]; omega)
      obtain ⟨z, hz⟩ : ∃ z : ByteArray, z = ⟨#[UInt8.ofNat (v[q].toNat : Int).toNat]⟩ := ⟨_, rfl⟩
      have hz1 : z.size = 1 := by rw [hz]; rfl
      rw [← hz] at hcv
      clear hj2 hc2 hco2 hg3 hgA hz
      go_wp2_with fail
      refine (pick_any g C _ 3 _ (hc3.alloc _) (hco3.alloc _) (by omega)).mono ?_
      rintro e w4 ⟨x, rfl, hx0, hx1, hx2, hc4, hg4⟩
      have hx3 := hx2 (by omega)
      have hgC := (hgB.trans (World.grownBy_alloc w3 _ (some g))).trans hg4
      clear hx2 hc3 hco3 hg4 hgB hcv
      have hz2 : z.size ≤ 1 := by omega
      clear hz1
      go_wp2
      all_goals
        go_quiet (fail)
        go_wp2
        go_roundw
        case rel => exact ⟨m - 1, _, by omega, by go_num, rfl, by simp only [ByteArray.size_append, ByteArray.size_extract]; omega, CurAt.drewN (hc4.mono (by omega)) _, hgC.trans (grown_drewN _)⟩
        case measure => simp [intOf]; omega
    · by_cases hm0 : m = 0
      · subst hm0
        go_wp2
        go_ret
        exact ⟨u, rfl, by omega, hc.mono (by omega), hg⟩
      · have hus : (u.size : Int) ≤ 0 := by omega
        go_wp2
        go_ret
        exact ⟨u, rfl, by omega, hc.mono (by omega), hg⟩

def hugeT : Nat := 10000000000000000
set_option maxHeartbeats 400000 in
theorem l1Text_big (s : ByteArray) (w : World) (hs : s.size ≤ 10000000000000000) :
    Calls Tryd.prog 16 #[.string s] w fun e w' => e = .returned (.bool (allOk s.data.toList)) ∧ w' = w := by
  go_enter Tryd.func16, Tryd.ntmps16
  go_wp2
  go_loop [3] (fun i => ∃ k : Nat, k ≤ s.size ∧ i = .int .i64 k ∧ Hid (allOk s.data.toList = allOk (s.data.toList.drop k))) (fun i => s.size - (intOf i).toNat)
  case atStart => exact ⟨0, Nat.zero_le _, rfl, rfl⟩
  case round =>
    obtain ⟨k, hk, rfl, hr⟩ := hrel
    by_cases hlt : k < s.size
    · have hst : Hid (allOk (s.data.toList.drop k) = (okC s[k] && allOk (s.data.toList.drop (k + 1)))) := allOk_step s k hlt
      go_wp2_with (first | (go_at_call 32; refine (l1Open_any _ _).mono ?_; rintro e w' ⟨rfl, rfl⟩) | (go_at_call 33; refine (l1Plain_any _ _).mono ?_; rintro e w' ⟨rfl, rfl⟩))
      all_goals first
        | (go_round
           case rel => exact ⟨k + 1, by omega, by go_num, rel_ok hr.out hst.out (by first | exact ok_op ‹_› | exact ok_pl ‹_› | exact ok_en ‹_›)⟩
           case measure => simp [intOf]; omega)
        | (go_ret; exact ⟨ret_bool (rel_no hr.out hst.out (ok_no ‹_› ‹_› ‹_›)), rfl⟩)
    · go_wp2
      go_ret
      exact ⟨ret_bool (by rw [hr.out, drop_end s k (by omega)]; rfl), rfl⟩
end Go.Proofs.YtfobkjoinjphdaaDoor

set_option linter.unusedVariables false
namespace Go.Proofs.YtfobkjoinjphdaaDoor
open Go.RowKit
open Doc1

theorem grownB4 {w w1 : World} {r : Option Nat} (h : Below w.heap.size w w1) : w.grownBy w1 r := ⟨h.os, h.tape, h.output, h.size, fun k hk _ => h.block k hk⟩
/-- Two changes. -/
def DcPost (w : World) (e : Ending) (w' : World) : Prop := ∃ va vb A B, e = .returned (.tuple #[va, vb]) ∧ POwn w' w.heap.size va A ∧ A.length ≤ 2586186935075 ∧ (∀ p ∈ A, smP p) ∧ POwn w' w.heap.size vb B ∧ B.length ≤ 2586186935075 ∧ (∀ p ∈ B, smP p) ∧ Below w.heap.size w w'

set_option maxRecDepth 100000 in
set_option maxHeartbeats 4000000 in
theorem drawComposeOps_any (C : Value) (w : World) (hco : CodeAt w.heap.size C w) (hC : codeLen C ≤ 1048576) :
    Calls Tryd.prog 4 #[C] w (DcPost w) := by
  have hcur := cur_new w C
  have hco1 := hco.grown (World.grownBy_alloc w (.cells #[C, .int .i64 0, .int .u64 0] 40) (some w.heap.size))
  obtain ⟨a, len, cap, rfl⟩ := hco.shape
  obtain ⟨W0, hW0⟩ : ∃ W0, w.alloc (.cells #[.slice a len cap, .int .i64 0, .int .u64 0] 40) = W0 := ⟨_, rfl⟩
  have hz0 : W0.heap.size = w.heap.size + 1 := by rw [← hW0]; simp
  have hb0 : Below w.heap.size w W0 := by rw [← hW0]; exact (Below.refl _ _).alloc (Nat.le_refl _) _
  rw [hW0] at hcur hco1
  have PT := hide (plainText_any _ _ _ _ hcur hco1 (by omega))
  have HCO := hide hco1
  clear hco hcur hco1
  go_enter Tryd.func4, Tryd.ntmps4
  go_wp2_with fail
  clear hW0
  refine PT.out.mono ?_
  rintro e w1 ⟨s, rfl, hs, hc1, hg1⟩
  have HG1 := hide hg1
  have hs1 := hg1.size
  have OP := hide (opOn_s _ _ _ s w1 hc1 (HCO.out.grown hg1) hC (by omega) hs)
  clear PT hc1 hg1
  go_wp2_with fail
  refine OP.out.mono ?_
  rintro e w2 ⟨va, A, rfl, oa, hA, hAr, hc2, hg2⟩
  have HG2 := hide (HG1.out.trans hg2)
  have hs2 := HG2.out.size
  have AP := hide (l3Apply_sh s oa hA hAr hs)
  have HOA := hide oa
  obtain ⟨aa, ca, rfl⟩ := own_sl oa
  have HC2 := hide hc2
  clear OP oa hg2 hc2
  go_wp2_with fail
  refine AP.out.mono ?_
  rintro e w3 ⟨t, bt, rfl, ht, hb3⟩
  have ht2 : t.size ≤ 243344087523 := by omega
  have HG3 := hide (HG2.out.trans (grownB4 hb3))
  have HOA3 := hide (own_below HOA.out hb3)
  have HC3 := hide (HC2.out.grown (r := none) (grownB4 hb3) (by simp))
  have hs3 := HG3.out.size
  have ON := hide (one_any _ _ _ 6 w3 HC3.out (HCO.out.grown HG3.out) (by omega))
  clear AP hb3 HC2 HOA HG2 ht
  go_wp2_with fail
  refine ON.out.mono ?_
  rintro e w4 ⟨b4, rfl, hc4, hg4⟩
  have HG4 := hide (HG3.out.trans hg4)
  have hs4 := HG4.out.size
  have HOA4 := hide (own_grown HOA3.out hg4 (fun b hb e => by have := (HOA3.out.lt b hb).1; have := Option.some.inj e; omega))
  have HC4 := hide hc4
  clear ON hc4 hg4 HC3 HG3 HOA3
  -- the end: the second change of a text
  have FIN : Hid (∀ (w5 : World) (u : ByteArray), u.size ≤ 274877906944 → CurAt w.heap.size (.slice a len cap) 9000000000000 w5 → w4.grownBy w5 (some w.heap.size) → Calls Tryd.prog 12 #[.pointer (some ⟨w.heap.size, 0, none⟩), .string u] w5 fun e w' => ∃ v B, e = .returned v ∧ DcPost w (.returned (.tuple #[.slice aa A.length ca, v])) w' ∧ POwn w' w5.heap.size v B) := hide (fun w5 u hu hc5 hg5 => by
    have g5 := HG4.out.trans hg5
    refine (opOn_b _ _ _ u w5 hc5 (HCO.out.grown g5) hC (by omega) hu).mono ?_
    rintro e w6 ⟨v, B, rfl, ob, hB, hBr, -, hg6⟩
    have h56 := hg5.trans hg6
    have h06 := g5.trans hg6
    have hz5 := g5.size
    refine ⟨v, B, rfl, ⟨_, v, A, B, rfl, POwn.mono (own_grown HOA4.out h56 (fun b hb e => by have := (HOA4.out.lt b hb).1; have := Option.some.inj e; omega)) (by omega), by omega, fun p hp => smQ_P (smR_Q (hAr p hp)), POwn.mono ob (by omega), hB, fun p hp => smQ_P (smR_Q (hBr p hp)), hb0.trans ⟨h06.os, h06.tape, h06.output, h06.size, fun k hk => h06.block k (by omega) (fun e => by have := Option.some.inj e; omega)⟩⟩, ob⟩)
  clear HOA4
  cases b4 with
  | true =>
    have SP := hide (spoilt_big _ _ _ t ⟨#[120, 65]⟩ w4 HC4.out (HCO.out.grown HG4.out) (by omega) (by omega) (by decide) (by decide))
    go_wp2_with fail
    refine SP.out.mono ?_
    rintro e w5 ⟨t5, rfl, ht5, hc5, hg5⟩
    have LT := hide (l1Text_big t5 w5 (by omega))
    cases hok : allOk t5.data.toList with
    | true =>
      rw [hok] at LT
      go_wp2_with fail
      refine LT.out.mono ?_
      rintro e w6 ⟨rfl, hw⟩
      replace hw := hw.symm; subst hw
      have F := hide (FIN.out w5 t5 (by omega) (hc5.mono (by omega)) hg5)
      clear LT SP FIN hc5 hg5
      go_wp2_with fail
      refine F.out.mono ?_
      rintro e w7 ⟨v, B, rfl, hd, ob⟩
      obtain ⟨ab, cb, rfl⟩ := own_sl ob
      go_wp2
      go_ret2
      exact hd
    | false =>
      rw [hok] at LT
      go_wp2_with fail
      refine LT.out.mono ?_
      rintro e w6 ⟨rfl, hw⟩
      replace hw := hw.symm; subst hw
      have F := hide (FIN.out w5 ⟨#[120]⟩ (by decide) (hc5.mono (by omega)) hg5)
      clear LT SP FIN hc5 hg5
      go_wp2_with fail
      refine F.out.mono ?_
      rintro e w7 ⟨v, B, rfl, hd, ob⟩
      obtain ⟨ab, cb, rfl⟩ := own_sl ob
      go_wp2
      go_ret2
      exact hd
  | false =>
    have LT := hide (l1Text_big t w4 (by omega))
    cases hok : allOk t.data.toList with
    | true =>
      rw [hok] at LT
      go_wp2_with fail
      refine LT.out.mono ?_
      rintro e w6 ⟨rfl, hw⟩
      replace hw := hw.symm; subst hw
      have F := hide (FIN.out w4 t (by omega) (HC4.out.mono (by omega)) (grown_refl _ _))
      clear LT FIN HC4
      go_wp2_with fail
      refine F.out.mono ?_
      rintro e w7 ⟨v, B, rfl, hd, ob⟩
      obtain ⟨ab, cb, rfl⟩ := own_sl ob
      go_wp2
      go_ret2
      exact hd
    | false =>
      rw [hok] at LT
      go_wp2_with fail
      refine LT.out.mono ?_
      rintro e w6 ⟨rfl, hw⟩
      replace hw := hw.symm; subst hw
      have F := hide (FIN.out w4 ⟨#[120]⟩ (by decide) (HC4.out.mono (by omega)) (grown_refl _ _))
      clear LT FIN HC4
      go_wp2_with fail
      refine F.out.mono ?_
      rintro e w7 ⟨v, B, rfl, hd, ob⟩
      obtain ⟨ab, cb, rfl⟩ := own_sl ob
      go_wp2
      go_ret2
      exact hd
end Go.Proofs.YtfobkjoinjphdaaDoor
