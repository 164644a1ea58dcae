/- How far two rows of bytes are apart, as the least of all ways to make one of the other: it is the same both ways, read from either end, never more than by way of a third. -/
import Derived.Test.YtojlnnlcbpjdlaaDoorPlain
set_option linter.unusedVariables false
namespace Go.Proofs.YtojlnnlcbpjdlaaDoor
open Go

/-- How far apart: what it costs to turn a byte is t. -/
def ed (t : Nat) : List UInt8 → List UInt8 → Nat
  | [], b => b.length
  | a, [] => a.length
  | x :: a, y :: b => if x = y then ed t a b else min (ed t a (y :: b) + 1) (min (ed t (x :: a) b + 1) (ed t a b + t))
termination_by a b => a.length + b.length

theorem ed_nl (t : Nat) (b : List UInt8) : ed t [] b = b.length := by rw [ed]
theorem ed_nr (t : Nat) (a : List UInt8) : ed t a [] = a.length := by
  cases a with
  | nil => rw [ed]
  | cons x a => rw [ed]; simp
theorem ed_cc (t : Nat) (x y : UInt8) (a b : List UInt8) : ed t (x :: a) (y :: b) = if x = y then ed t a b else min (ed t a (y :: b) + 1) (min (ed t (x :: a) b + 1) (ed t a b + t)) := by rw [ed]

theorem ed_comm (t : Nat) (n : Nat) : ∀ a b : List UInt8, a.length + b.length ≤ n → ed t a b = ed t b a := by
  induction n with
  | zero =>
    intro a b h
    have ha : a = [] := List.eq_nil_of_length_eq_zero (by omega)
    have hb : b = [] := List.eq_nil_of_length_eq_zero (by omega)
    subst ha; subst hb; rfl
  | succ n ih =>
    intro a b h
    cases a with
    | nil => rw [ed_nl, ed_nr]
    | cons x a =>
      cases b with
      | nil => rw [ed_nl, ed_nr]
      | cons y b =>
        simp only [List.length_cons] at h
        rw [ed_cc, ed_cc, ih a b (by omega), ih a (y :: b) (by simp; omega), ih (x :: a) b (by simp; omega)]
        by_cases he : x = y
        · simp [he]
        · rw [if_neg he, if_neg (fun e => he e.symm)]; omega

theorem ed_steps (t : Nat) (n : Nat) : ∀ a b : List UInt8, a.length + b.length ≤ n → (∀ x, ed t (x :: a) b ≤ ed t a b + 1) ∧ (∀ y, ed t a b ≤ ed t a (y :: b) + 1) := by
  induction n with
  | zero =>
    intro a b h
    have ha : a = [] := List.eq_nil_of_length_eq_zero (by omega)
    have hb : b = [] := List.eq_nil_of_length_eq_zero (by omega)
    subst ha; subst hb
    exact ⟨fun x => by rw [ed_nr, ed_nr]; simp, fun y => by rw [ed_nl, ed_nl]; simp⟩
  | succ n ih =>
    intro a b h
    refine ⟨fun x => ?_, fun y => ?_⟩
    · cases b with
      | nil => rw [ed_nr, ed_nr]; simp
      | cons y b =>
        simp only [List.length_cons] at h
        rw [ed_cc]
        by_cases he : x = y
        · rw [if_pos he]
          exact (ih a b (by omega)).2 y
        · rw [if_neg he]; omega
    · cases a with
      | nil => rw [ed_nl, ed_nl]; simp; omega
      | cons x a =>
        simp only [List.length_cons] at h
        have h1 := (ih a b (by omega)).1 x
        have h2 := (ih a b (by omega)).2 y
        rw [ed_cc]
        by_cases he : x = y
        · rw [if_pos he]; exact h1
        · rw [if_neg he]; omega

theorem ed_drop (t : Nat) (x : UInt8) (a b : List UInt8) : ed t (x :: a) b ≤ ed t a b + 1 := (ed_steps t _ a b (Nat.le_refl _)).1 x
theorem ed_less (t : Nat) (y : UInt8) (a b : List UInt8) : ed t a b ≤ ed t a (y :: b) + 1 := (ed_steps t _ a b (Nat.le_refl _)).2 y
theorem ed_sym (t : Nat) (a b : List UInt8) : ed t a b = ed t b a := ed_comm t _ a b (Nat.le_refl _)
theorem ed_put (t : Nat) (y : UInt8) (a b : List UInt8) : ed t a (y :: b) ≤ ed t a b + 1 := by
  rw [ed_sym t a (y :: b), ed_sym t a b]; exact ed_drop t y b a
theorem ed_less' (t : Nat) (x : UInt8) (a b : List UInt8) : ed t a b ≤ ed t (x :: a) b + 1 := by
  rw [ed_sym t a b, ed_sym t (x :: a) b]; exact ed_less t x b a

/-- A way to make b of a, and what it costs. -/
inductive Ed (t : Nat) : List UInt8 → List UInt8 → Nat → Prop
  | nil : Ed t [] [] 0
  | keep (x : UInt8) {a b : List UInt8} {n : Nat} : Ed t a b n → Ed t (x :: a) (x :: b) n
  | drop (x : UInt8) {a b : List UInt8} {n : Nat} : Ed t a b n → Ed t (x :: a) b (n + 1)
  | put (y : UInt8) {a b : List UInt8} {n : Nat} : Ed t a b n → Ed t a (y :: b) (n + 1)
  | turn (x y : UInt8) {a b : List UInt8} {n : Nat} : Ed t a b n → Ed t (x :: a) (y :: b) (n + t)

theorem ed_le {t : Nat} {a b : List UInt8} {n : Nat} (h : Ed t a b n) : ed t a b ≤ n := by
  induction h with
  | nil => rw [ed_nl]; simp
  | keep x h ih => rw [ed_cc, if_pos rfl]; exact ih
  | drop x h ih => exact Nat.le_trans (ed_drop t x _ _) (Nat.add_le_add_right ih 1)
  | put y h ih => exact Nat.le_trans (ed_put t y _ _) (Nat.add_le_add_right ih 1)
  | turn x y h ih =>
    rw [ed_cc]
    by_cases he : x = y
    · rw [if_pos he]; omega
    · rw [if_neg he]; omega

theorem Ed.dropAll (t : Nat) : ∀ a : List UInt8, Ed t a [] a.length
  | [] => .nil
  | x :: a => .drop x (Ed.dropAll t a)
theorem Ed.putAll (t : Nat) : ∀ b : List UInt8, Ed t [] b b.length
  | [] => .nil
  | y :: b => .put y (Ed.putAll t b)

theorem ed_is (t : Nat) (n : Nat) : ∀ a b : List UInt8, a.length + b.length ≤ n → Ed t a b (ed t a b) := by
  induction n with
  | zero =>
    intro a b h
    have ha : a = [] := List.eq_nil_of_length_eq_zero (by omega)
    have hb : b = [] := List.eq_nil_of_length_eq_zero (by omega)
    subst ha; subst hb; rw [ed_nl]; exact .nil
  | succ n ih =>
    intro a b h
    cases a with
    | nil => rw [ed_nl]; exact Ed.putAll t b
    | cons x a =>
      cases b with
      | nil => rw [ed_nr]; exact Ed.dropAll t _
      | cons y b =>
        simp only [List.length_cons] at h
        have h1 := ih a b (by omega)
        have h2 := ih a (y :: b) (by simp; omega)
        have h3 := ih (x :: a) b (by simp; omega)
        rw [ed_cc]
        by_cases he : x = y
        · rw [if_pos he]; subst he; exact .keep x h1
        · rw [if_neg he]
          by_cases hA : ed t a (y :: b) + 1 ≤ min (ed t (x :: a) b + 1) (ed t a b + t)
          · rw [Nat.min_eq_left hA]; exact .drop x h2
          · rw [Nat.min_eq_right (by omega)]
            by_cases hB : ed t (x :: a) b + 1 ≤ ed t a b + t
            · rw [Nat.min_eq_left hB]; exact .put y h3
            · rw [Nat.min_eq_right (by omega)]; exact .turn x y h1
theorem Ed.least (t : Nat) (a b : List UInt8) : Ed t a b (ed t a b) := ed_is t _ a b (Nat.le_refl _)

theorem Ed.append {t : Nat} {a b : List UInt8} {n : Nat} (h : Ed t a b n) {a' b' : List UInt8} {m : Nat} (h' : Ed t a' b' m) : Ed t (a ++ a') (b ++ b') (n + m) := by
  induction h with
  | nil => simpa using h'
  | keep x h ih => exact .keep x ih
  | drop x h ih => have := Ed.drop x ih; rwa [show ∀ n : Nat, n + 1 + m = n + m + 1 from fun n => by omega]
  | put y h ih => have := Ed.put y ih; rwa [show ∀ n : Nat, n + 1 + m = n + m + 1 from fun n => by omega]
  | turn x y h ih => have := Ed.turn x y ih; rwa [show ∀ n : Nat, n + t + m = n + m + t from fun n => by omega]

theorem Ed.rev {t : Nat} {a b : List UInt8} {n : Nat} (h : Ed t a b n) : Ed t a.reverse b.reverse n := by
  induction h with
  | nil => exact .nil
  | keep x h ih => simpa using ih.append (Ed.keep x .nil)
  | drop x h ih => simpa using ih.append (Ed.drop x .nil)
  | put y h ih => simpa using ih.append (Ed.put y .nil)
  | turn x y h ih => simpa using ih.append (Ed.turn x y .nil)

theorem ed_rev (t : Nat) (a b : List UInt8) : ed t a.reverse b.reverse = ed t a b := by
  refine Nat.le_antisymm (ed_le (Ed.least t a b).rev) ?_
  have h := (Ed.least t a.reverse b.reverse).rev
  simp only [List.reverse_reverse] at h
  exact ed_le h

/-- What is told of the first bytes, whether they are the same or not. -/
theorem ed_full (t : Nat) (x y : UInt8) (a b : List UInt8) : ed t (x :: a) (y :: b) = min (ed t a b + if x = y then 0 else t) (min (ed t a (y :: b) + 1) (ed t (x :: a) b + 1)) := by
  rw [ed_cc]
  by_cases he : x = y
  · simp only [if_pos he]
    have h1 := ed_less t y a b
    have h2 := ed_less' t x a b
    omega
  · simp only [if_neg he]; omega

/-- And of the last bytes. -/
theorem ed_last (t : Nat) (x y : UInt8) (a b : List UInt8) : ed t (a ++ [x]) (b ++ [y]) = min (ed t a b + if x = y then 0 else t) (min (ed t a (b ++ [y]) + 1) (ed t (a ++ [x]) b + 1)) := by
  have h := ed_full t x y a.reverse b.reverse
  rw [← ed_rev t (a ++ [x]), ← ed_rev t a b, ← ed_rev t a (b ++ [y]), ← ed_rev t (a ++ [x]) b]
  simpa using h

theorem Ed.trans {t : Nat} {a b : List UInt8} {n : Nat} (h : Ed t a b n) : ∀ {c : List UInt8} {m : Nat}, Ed t b c m → ∃ k, k ≤ n + m ∧ Ed t a c k := by
  induction h with
  | nil => intro c m h; exact ⟨m, by omega, h⟩
  | @drop x a b n h ih => intro c m h2; obtain ⟨k, hk, h3⟩ := ih h2; exact ⟨k + 1, by omega, .drop x h3⟩
  | @keep x a b n h ih =>
    intro c m h2
    generalize hB : x :: b = B at h2
    induction h2 with
    | nil => cases hB
    | keep x' h2 _ => cases hB; obtain ⟨k, hk, h3⟩ := ih h2; exact ⟨k, hk, .keep x h3⟩
    | drop x' h2 _ => cases hB; obtain ⟨k, hk, h3⟩ := ih h2; exact ⟨k + 1, by omega, .drop x h3⟩
    | put y h2 ih2 => obtain ⟨k, hk, h3⟩ := ih2 hB; exact ⟨k + 1, by omega, .put y h3⟩
    | turn x' y h2 _ => cases hB; obtain ⟨k, hk, h3⟩ := ih h2; exact ⟨k + t, by omega, .turn x y h3⟩
  | @put z a b n h ih =>
    intro c m h2
    generalize hB : z :: b = B at h2
    induction h2 with
    | nil => cases hB
    | keep x' h2 _ => cases hB; obtain ⟨k, hk, h3⟩ := ih h2; exact ⟨k + 1, by omega, .put z h3⟩
    | drop x' h2 _ => cases hB; obtain ⟨k, hk, h3⟩ := ih h2; exact ⟨k, by omega, h3⟩
    | put y h2 ih2 => obtain ⟨k, hk, h3⟩ := ih2 hB; exact ⟨k + 1, by omega, .put y h3⟩
    | turn x' y h2 _ => cases hB; obtain ⟨k, hk, h3⟩ := ih h2; exact ⟨k + 1, by omega, .put y h3⟩
  | @turn x z a b n h ih =>
    intro c m h2
    generalize hB : z :: b = B at h2
    induction h2 with
    | nil => cases hB
    | keep x' h2 _ => cases hB; obtain ⟨k, hk, h3⟩ := ih h2; exact ⟨k + t, by omega, .turn x z h3⟩
    | drop x' h2 _ => cases hB; obtain ⟨k, hk, h3⟩ := ih h2; exact ⟨k + 1, by omega, .drop x h3⟩
    | put y h2 ih2 => obtain ⟨k, hk, h3⟩ := ih2 hB; exact ⟨k + 1, by omega, .put y h3⟩
    | turn x' y h2 _ => cases hB; obtain ⟨k, hk, h3⟩ := ih h2; exact ⟨k + t, by omega, .turn x y h3⟩

theorem ed_tri (t : Nat) (a b c : List UInt8) : ed t a c ≤ ed t a b + ed t b c := by
  obtain ⟨k, hk, h⟩ := (Ed.least t a b).trans (Ed.least t b c)
  exact Nat.le_trans (ed_le h) hk

theorem Ed.same (t : Nat) : ∀ a : List UInt8, Ed t a a 0
  | [] => .nil
  | x :: a => .keep x (Ed.same t a)
theorem Ed.nought {t : Nat} (ht : 0 < t) {a b : List UInt8} {n : Nat} (h : Ed t a b n) : n = 0 → a = b := by
  induction h with
  | nil => intro _; rfl
  | keep x h ih => intro h0; rw [ih h0]
  | drop x h ih => intro h0; omega
  | put y h ih => intro h0; omega
  | turn x y h ih => intro h0; omega
theorem ed_nought {t : Nat} (ht : 0 < t) (a b : List UInt8) : ed t a b = 0 ↔ a = b := by
  constructor
  · intro h; exact Ed.nought ht (Ed.least t a b) h
  · intro h; subst h; have := ed_le (Ed.same t a); omega

theorem Ed.one {a b : List UInt8} {n : Nat} (h : Ed 2 a b n) : ∃ k, k ≤ n ∧ Ed 1 a b k := by
  induction h with
  | nil => exact ⟨0, by omega, .nil⟩
  | keep x h ih => obtain ⟨k, hk, h⟩ := ih; exact ⟨k, hk, .keep x h⟩
  | drop x h ih => obtain ⟨k, hk, h⟩ := ih; exact ⟨k + 1, by omega, .drop x h⟩
  | put y h ih => obtain ⟨k, hk, h⟩ := ih; exact ⟨k + 1, by omega, .put y h⟩
  | turn x y h ih => obtain ⟨k, hk, h⟩ := ih; exact ⟨k + 1, by omega, .turn x y h⟩
theorem Ed.two {a b : List UInt8} {n : Nat} (h : Ed 1 a b n) : ∃ k, k ≤ 2 * n ∧ Ed 2 a b k := by
  induction h with
  | nil => exact ⟨0, by omega, .nil⟩
  | keep x h ih => obtain ⟨k, hk, h⟩ := ih; exact ⟨k, hk, .keep x h⟩
  | drop x h ih => obtain ⟨k, hk, h⟩ := ih; exact ⟨k + 1, by omega, .drop x h⟩
  | put y h ih => obtain ⟨k, hk, h⟩ := ih; exact ⟨k + 1, by omega, .put y h⟩
  | turn x y h ih => obtain ⟨k, hk, h⟩ := ih; exact ⟨k + 2, by omega, .turn x y h⟩
theorem ed_between (a b : List UInt8) : ed 1 a b ≤ ed 2 a b ∧ ed 2 a b ≤ 2 * ed 1 a b := by
  obtain ⟨k, hk, h⟩ := (Ed.least 2 a b).one
  obtain ⟨m, hm, h'⟩ := (Ed.least 1 a b).two
  exact ⟨Nat.le_trans (ed_le h) hk, Nat.le_trans (ed_le h') hm⟩
theorem ed_most (t : Nat) (a b : List UInt8) : ed t a b ≤ a.length + b.length := ed_le (by simpa using (Ed.dropAll t a).append (Ed.putAll t b))

/-- How many bytes are in common at most. -/
def lc : List UInt8 → List UInt8 → Nat
  | [], _ => 0
  | _, [] => 0
  | x :: a, y :: b => if x = y then lc a b + 1 else max (lc a (y :: b)) (lc (x :: a) b)
termination_by a b => a.length + b.length
theorem lc_nl (b : List UInt8) : lc [] b = 0 := by rw [lc]
theorem lc_nr (a : List UInt8) : lc a [] = 0 := by
  cases a with
  | nil => rw [lc]
  | cons x a => rw [lc]; simp
theorem lc_cc (x y : UInt8) (a b : List UInt8) : lc (x :: a) (y :: b) = if x = y then lc a b + 1 else max (lc a (y :: b)) (lc (x :: a) b) := by rw [lc]

/-- How far apart two rows are where a turn is a drop and a put, by what they have in common. -/
theorem ed_lc_ (n : Nat) : ∀ a b : List UInt8, a.length + b.length ≤ n → ed 2 a b + 2 * lc a b = a.length + b.length := by
  induction n with
  | zero =>
    intro a b h
    have ha : a = [] := List.eq_nil_of_length_eq_zero (by omega)
    have hb : b = [] := List.eq_nil_of_length_eq_zero (by omega)
    subst ha; subst hb; rw [ed_nl, lc_nl]; simp
  | succ n ih =>
    intro a b h
    cases a with
    | nil => rw [ed_nl, lc_nl]; simp
    | cons x a =>
      cases b with
      | nil => rw [ed_nr, lc_nr]; simp
      | cons y b =>
        simp only [List.length_cons] at h
        have h1 := ih a b (by omega)
        have h2 := ih a (y :: b) (by simp; omega)
        have h3 := ih (x :: a) b (by simp; omega)
        have h4 := ed_put 2 y a b
        simp only [List.length_cons] at h2 h3 ⊢
        rw [ed_cc, lc_cc]
        by_cases he : x = y
        · rw [if_pos he, if_pos he]; omega
        · rw [if_neg he, if_neg he]; omega
theorem ed_lc (a b : List UInt8) : ed 2 a b + 2 * lc a b = a.length + b.length := ed_lc_ _ a b (Nat.le_refl _)
theorem lc_sym (a b : List UInt8) : lc a b = lc b a := by
  have h1 := ed_lc a b
  have h2 := ed_lc b a
  have h3 := ed_sym 2 a b
  omega

end Go.Proofs.YtojlnnlcbpjdlaaDoor
