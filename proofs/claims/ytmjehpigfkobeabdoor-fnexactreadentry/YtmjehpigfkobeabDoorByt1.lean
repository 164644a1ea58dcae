/- The plain mathematics of chapter 18: Adler's sum, numbers in digits, changes and entries as texts and how they are read. -/
import Derived.Test.YtmjehpigfkobeabDoorOpsM
import Derived.Test.YtmjehpigfkobeabDoorSum1
import Derived.Lib.ItoaNum
namespace Go.Proofs.YtmjehpigfkobeabDoor.Doc1

theorem head_app {l r : List UInt8} (h : l ≠ []) : (l ++ r).head? = l.head? := by cases l with
  | nil => exact absurd rfl h
  | cons x l => rfl
/-- The digits of a number. -/
abbrev dig (n : Nat) : List UInt8 := Lib.decDigits n
def isD (c : UInt8) : Prop := 48 ≤ c.toNat ∧ c.toNat ≤ 57
instance (c : UInt8) : Decidable (isD c) := by unfold isD; infer_instance
def dv (c : UInt8) : Nat := c.toNat - 48
/-- What a row of digits is, with what was read ahead. -/
def nv : List UInt8 → Nat → Nat
  | [], n => n
  | c :: l, n => nv l (10 * n + dv c)
theorem nv_snoc : ∀ (l : List UInt8) (c : UInt8) (n : Nat), nv (l ++ [c]) n = 10 * nv l n + dv c
  | [], _, _ => rfl
  | x :: l, c, n => by show nv (l ++ [c]) _ = _; rw [nv_snoc l c]; rfl
/-- A number's text: digits without needless noughts. -/
def nmr (l : List UInt8) : Prop := l ≠ [] ∧ (∀ c ∈ l, isD c) ∧ (l.head? = some 48 → l.length = 1)
instance (l : List UInt8) : Decidable (nmr l) := by unfold nmr; infer_instance
theorem dig_small {n : Nat} (h : n < 10) : dig n = [UInt8.ofNat (48 + n)] := by unfold dig; rw [Lib.decDigits, dif_pos h]
theorem dig_big {n : Nat} (h : ¬ n < 10) : dig n = dig (n / 10) ++ [UInt8.ofNat (48 + n % 10)] := by
  show Lib.decDigits n = _
  rw [Lib.decDigits, dif_neg h]
theorem dc_toNat {k : Nat} (h : k < 10) : (UInt8.ofNat (48 + k)).toNat = 48 + k := by
  rw [UInt8.toNat_ofNat']
  exact Nat.mod_eq_of_lt (by omega)
theorem dc_isD {k : Nat} (h : k < 10) : isD (UInt8.ofNat (48 + k)) := by unfold isD; rw [dc_toNat h]; omega
theorem dc_dv {k : Nat} (h : k < 10) : dv (UInt8.ofNat (48 + k)) = k := by unfold dv; rw [dc_toNat h]; omega
theorem dig_ne (n : Nat) : dig n ≠ [] := by
  by_cases h : n < 10
  · rw [dig_small h]; simp
  · rw [dig_big h]; simp
theorem dig_isD (n : Nat) : ∀ c ∈ dig n, isD c := by
  induction n using Nat.strongRecOn with
  | ind n ih =>
    by_cases h : n < 10
    · rw [dig_small h]
      intro c hc
      rw [List.mem_singleton] at hc
      rw [hc]; exact dc_isD h
    · rw [dig_big h]
      intro c hc
      rcases List.mem_append.1 hc with hc | hc
      · exact ih _ (by omega) c hc
      · rw [List.mem_singleton] at hc
        rw [hc]; exact dc_isD (Nat.mod_lt _ (by decide))
theorem dig_nv (n : Nat) : nv (dig n) 0 = n := by
  induction n using Nat.strongRecOn with
  | ind n ih =>
    by_cases h : n < 10
    · rw [dig_small h]
      show 10 * 0 + dv _ = n
      rw [dc_dv h]; omega
    · rw [dig_big h, nv_snoc, ih _ (by omega), dc_dv (Nat.mod_lt _ (by decide))]
      omega
theorem dig_head (n : Nat) (h0 : 0 < n) : (dig n).head? ≠ some 48 := by
  induction n using Nat.strongRecOn with
  | ind n ih =>
    by_cases h : n < 10
    · rw [dig_small h]
      intro e
      have e := Option.some.inj e
      have := congrArg UInt8.toNat e
      rw [dc_toNat h] at this
      simp at this
      omega
    · rw [dig_big h, head_app (dig_ne _)]
      exact ih _ (by omega) (by omega)
theorem dig_nmr (n : Nat) : nmr (dig n) := by
  refine ⟨dig_ne n, dig_isD n, fun h => ?_⟩
  by_cases h0 : n = 0
  · subst h0
    rw [dig_small (by omega)]; rfl
  · exact absurd h (dig_head n (by omega))
theorem nv_pos : ∀ (l : List UInt8) (n : Nat), 0 < n → n * 10 ^ l.length ≤ nv l n
  | [], n, _ => by simp [nv]
  | c :: l, n, h => by
    have := nv_pos l (10 * n + dv c) (by omega)
    show _ ≤ nv l _
    refine Nat.le_trans ?_ this
    rw [List.length_cons, Nat.pow_succ, show n * (10 ^ l.length * 10) = (10 * n) * 10 ^ l.length from by rw [Nat.mul_comm (10 ^ l.length) 10, ← Nat.mul_assoc, Nat.mul_comm n 10]]
    exact Nat.mul_le_mul_right _ (by omega)
theorem nv_mono : ∀ (l : List UInt8) (n : Nat), n ≤ nv l n
  | [], _ => Nat.le_refl _
  | c :: l, n => Nat.le_trans (by omega) (nv_mono l (10 * n + dv c))
theorem u8_of {c : UInt8} (h : isD c) : UInt8.ofNat (48 + dv c) = c := by
  apply UInt8.toNat_inj.1
  unfold isD at h
  rw [dc_toNat (by unfold dv; omega)]
  unfold dv; omega
/-- A number's text is the text of its number. -/
theorem nmr_dig : ∀ (k : Nat) (l : List UInt8), l.length = k → nmr l → dig (nv l 0) = l := by
  intro k
  induction k with
  | zero => intro l hk h; exact absurd (List.length_eq_zero_iff.1 hk) h.1
  | succ k ih =>
    intro l hk h
    obtain ⟨hne, hd, h0⟩ := h
    obtain ⟨l', c, rfl⟩ : ∃ l' c, l = l' ++ [c] := ⟨l.dropLast, l.getLast hne, (List.dropLast_concat_getLast hne).symm⟩
    have hc := hd c (by simp)
    have hcv : dv c < 10 := by unfold isD at hc; unfold dv; omega
    rw [nv_snoc]
    by_cases hl : l' = []
    · subst hl
      rw [show nv [] 0 = 0 from rfl, dig_small (by omega), show 48 + (10 * 0 + dv c) = 48 + dv c from by omega, u8_of hc]
      rfl
    · have hn : nmr l' := by
        refine ⟨hl, fun x hx => hd x (by simp [hx]), fun e => ?_⟩
        have := h0 (by rw [head_app hl]; exact e)
        rw [List.length_append] at this
        have : l'.length = 0 := by simpa using this
        exact absurd (List.length_eq_zero_iff.1 this) hl
      have e := ih l' (by rw [List.length_append] at hk; simpa using hk) hn
      have hp : 0 < nv l' 0 := by
        refine Nat.pos_of_ne_zero fun z => ?_
        rw [z, dig_small (by omega)] at e
        have := h0 (by rw [head_app hl, ← e]; rfl)
        rw [← e] at this
        simp at this
      rw [dig_big (by omega), show (10 * nv l' 0 + dv c) / 10 = nv l' 0 from by omega, show (10 * nv l' 0 + dv c) % 10 = dv c from by omega, e, u8_of hc]
theorem nmr_iff (l : List UInt8) : nmr l ↔ l = dig (nv l 0) := ⟨fun h => (nmr_dig _ l rfl h).symm, fun h => h ▸ dig_nmr _⟩
theorem dig_inj {m n : Nat} (h : dig m = dig n) : m = n := by rw [← dig_nv m, h, dig_nv]
/-- A number's text of more than ten digits is of more than any of them. -/
theorem nmr_long {l : List UInt8} (h : nmr l) (hl : 10 < l.length) : 10000000000 ≤ nv l 0 := by
  obtain ⟨hne, hd, h0⟩ := h
  cases l with
  | nil => exact absurd rfl hne
  | cons c l =>
    have hc := hd c (by simp)
    have hp : 0 < dv c := by
      refine Nat.pos_of_ne_zero fun z => ?_
      have e : c = 48 := by
        apply UInt8.toNat_inj.1
        unfold dv at z; unfold isD at hc
        show c.toNat = 48
        omega
      have := h0 (by rw [e]; rfl)
      omega
    have := nv_pos l (10 * 0 + dv c) (by omega)
    show _ ≤ nv l _
    refine Nat.le_trans ?_ this
    have h10 : 10 ^ 10 ≤ 10 ^ l.length := Nat.pow_le_pow_right (by decide) (by simp at hl; omega)
    have : 1 * 10 ^ 10 ≤ (10 * 0 + dv c) * 10 ^ l.length := Nat.mul_le_mul (by omega) h10
    simpa using this
theorem nmr_short {l : List UInt8} (hl : l.length ≤ 10) (hd : ∀ c ∈ l, isD c) : nv l 0 < 10000000000 := by
  have : ∀ (l : List UInt8) (n : Nat), (∀ c ∈ l, isD c) → nv l n < (n + 1) * 10 ^ l.length := by
    intro l
    induction l with
    | nil => intro n _; simp [nv]
    | cons c l ih =>
      intro n hd
      have hc := hd c (by simp)
      have hv : dv c < 10 := by unfold isD at hc; unfold dv; omega
      have := ih (10 * n + dv c) (fun x hx => hd x (by simp [hx]))
      show nv l _ < _
      refine Nat.lt_of_lt_of_le this ?_
      rw [List.length_cons, Nat.pow_succ, show (n + 1) * (10 ^ l.length * 10) = (10 * (n + 1)) * 10 ^ l.length from by rw [Nat.mul_comm (10 ^ l.length) 10, ← Nat.mul_assoc, Nat.mul_comm (n + 1) 10]]
      exact Nat.mul_le_mul_right _ (by omega)
  have h1 := this l 0 hd
  have h10 : 10 ^ l.length ≤ 10 ^ 10 := Nat.pow_le_pow_right (by decide) hl
  rw [Nat.zero_add, Nat.one_mul] at h1
  exact Nat.lt_of_lt_of_le h1 (by simpa using h10)

/-- What the program reads of a number: what it is, where it is one of at most so much; and the model, -1 where it is none. -/
def numI (most : Nat) (l : List UInt8) : Nat × Bool := if nmr l ∧ nv l 0 ≤ most then (nv l 0, true) else (0, false)
def numS (l : List UInt8) : Int := if nmr l ∧ l.length ≤ 10 then (nv l 0 : Int) else -1
theorem num_both {most : Nat} (hm : most < 10000000000) (l : List UInt8) : (numI most l).2 = decide (0 ≤ numS l ∧ numS l ≤ most) ∧ ((numI most l).2 = true → numS l = (numI most l).1) := by
  unfold numI numS
  by_cases h : nmr l
  · by_cases hl : l.length ≤ 10
    · rw [if_pos (show nmr l ∧ l.length ≤ 10 from ⟨h, hl⟩)]
      by_cases hv : nv l 0 ≤ most
      · rw [if_pos ⟨h, hv⟩]
        refine ⟨?_, fun _ => rfl⟩
        symm; rw [decide_eq_true_eq]; omega
      · rw [if_neg (fun x => hv x.2)]
        refine ⟨?_, fun x => by simp at x⟩
        symm; rw [decide_eq_false_iff_not]; omega
    · have := nmr_long h (by omega)
      rw [if_neg (fun x => by have := x.2; omega), if_neg (fun x => hl x.2)]
      refine ⟨?_, fun x => by simp at x⟩
      symm; rw [decide_eq_false_iff_not]; omega
  · rw [if_neg (fun x => h x.1), if_neg (fun x => h x.1)]
    refine ⟨?_, fun x => by simp at x⟩
    symm; rw [decide_eq_false_iff_not]; omega

/-- A part and a change as texts. -/
def prt (p : Pt) : List UInt8 := if 0 < p.keep then 61 :: dig p.keep.toNat else if p.put.data.toList ≠ [] then 43 :: p.put.data.toList else 45 :: p.drop.data.toList
def opT : List Pt → List UInt8
  | [] => []
  | p :: l => prt p ++ (59 :: opT l)
theorem opT_snoc : ∀ (l : List Pt) (p : Pt), opT (l ++ [p]) = opT l ++ (prt p ++ [59])
  | [], p => by simp [opT]
  | q :: l, p => by
    show prt q ++ (59 :: opT (l ++ [p])) = _
    rw [opT_snoc l p]
    simp [opT]

end Go.Proofs.YtmjehpigfkobeabDoor.Doc1
