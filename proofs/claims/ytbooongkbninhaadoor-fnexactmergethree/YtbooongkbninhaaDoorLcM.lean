/- How far two rows of bytes are apart, as the least of all ways to make one of the other: it is the same both ways, read from either end, never more than by way of a third. The least of the longest texts in common, byte by byte: where its next byte stands in both texts. -/
import Derived.Test.YtbooongkbninhaaDoorPlain
import Derived.Lib.Bytealg
set_option linter.unusedVariables false
namespace Go.Proofs.YtbooongkbninhaaDoor
open Go

/-- How far apart: what it costs to turn a byte is t. -/
def ed (t : Nat) : List UInt8 → List UInt8 → Nat
  | [], b => b.length
  | a, [] => a.length
  | x :: a, y :: b => if x = y then ed t a b else min (ed t a (y :: b) + 1) (min (ed t (x :: a) b + 1) (ed t a b + t))
termination_by a b => a.length + b.length

theorem ed_nl (t : Nat) (b : List UInt8) : ed t [] b = b.length := by rw [ed]
theorem ed_nr (t : Nat) (a : List UInt8) : ed t a [] = a.length := by
  cases a with
  | nil => rw [ed]
  | cons x a => rw [ed]; simp
theorem ed_cc (t : Nat) (x y : UInt8) (a b : List UInt8) : ed t (x :: a) (y :: b) = if x = y then ed t a b else min (ed t a (y :: b) + 1) (min (ed t (x :: a) b + 1) (ed t a b + t)) := by rw [ed]

theorem ed_comm (t : Nat) (n : Nat) : ∀ a b : List UInt8, a.length + b.length ≤ n → ed t a b = ed t b a := by
  induction n with
  | zero =>
    intro a b h
    have ha : a = [] := List.eq_nil_of_length_eq_zero (by omega)
    have hb : b = [] := List.eq_nil_of_length_eq_zero (by omega)
    subst ha; subst hb; rfl
  | succ n ih =>
    intro a b h
    cases a with
    | nil => rw [ed_nl, ed_nr]
    | cons x a =>
      cases b with
      | nil => rw [ed_nl, ed_nr]
      | cons y b =>
        simp only [List.length_cons] at h
        rw [ed_cc, ed_cc, ih a b (by omega), ih a (y :: b) (by simp; omega), ih (x :: a) b (by simp; omega)]
        by_cases he : x = y
        · simp [he]
        · rw [if_neg he, if_neg (fun e => he e.symm)]; omega

theorem ed_steps (t : Nat) (n : Nat) : ∀ a b : List UInt8, a.length + b.length ≤ n → (∀ x, ed t (x :: a) b ≤ ed t a b + 1) ∧ (∀ y, ed t a b ≤ ed t a (y :: b) + 1) := by
  induction n with
  | zero =>
    intro a b h
    have ha : a = [] := List.eq_nil_of_length_eq_zero (by omega)
    have hb : b = [] := List.eq_nil_of_length_eq_zero (by omega)
    subst ha; subst hb
    exact ⟨fun x => by rw [ed_nr, ed_nr]; simp, fun y => by rw [ed_nl, ed_nl]; simp⟩
  | succ n ih =>
    intro a b h
    refine ⟨fun x => ?_, fun y => ?_⟩
    · cases b with
      | nil => rw [ed_nr, ed_nr]; simp
      | cons y b =>
        simp only [List.length_cons] at h
        rw [ed_cc]
        by_cases he : x = y
        · rw [if_pos he]
          exact (ih a b (by omega)).2 y
        · rw [if_neg he]; omega
    · cases a with
      | nil => rw [ed_nl, ed_nl]; simp; omega
      | cons x a =>
        simp only [List.length_cons] at h
        have h1 := (ih a b (by omega)).1 x
        have h2 := (ih a b (by omega)).2 y
        rw [ed_cc]
        by_cases he : x = y
        · rw [if_pos he]; exact h1
        · rw [if_neg he]; omega

theorem ed_drop (t : Nat) (x : UInt8) (a b : List UInt8) : ed t (x :: a) b ≤ ed t a b + 1 := (ed_steps t _ a b (Nat.le_refl _)).1 x
theorem ed_less (t : Nat) (y : UInt8) (a b : List UInt8) : ed t a b ≤ ed t a (y :: b) + 1 := (ed_steps t _ a b (Nat.le_refl _)).2 y
theorem ed_sym (t : Nat) (a b : List UInt8) : ed t a b = ed t b a := ed_comm t _ a b (Nat.le_refl _)
theorem ed_put (t : Nat) (y : UInt8) (a b : List UInt8) : ed t a (y :: b) ≤ ed t a b + 1 := by
  rw [ed_sym t a (y :: b), ed_sym t a b]; exact ed_drop t y b a
theorem ed_less' (t : Nat) (x : UInt8) (a b : List UInt8) : ed t a b ≤ ed t (x :: a) b + 1 := by
  rw [ed_sym t a b, ed_sym t (x :: a) b]; exact ed_less t x b a

/-- A way to make b of a, and what it costs. -/
inductive Ed (t : Nat) : List UInt8 → List UInt8 → Nat → Prop
  | nil : Ed t [] [] 0
  | keep (x : UInt8) {a b : List UInt8} {n : Nat} : Ed t a b n → Ed t (x :: a) (x :: b) n
  | drop (x : UInt8) {a b : List UInt8} {n : Nat} : Ed t a b n → Ed t (x :: a) b (n + 1)
  | put (y : UInt8) {a b : List UInt8} {n : Nat} : Ed t a b n → Ed t a (y :: b) (n + 1)
  | turn (x y : UInt8) {a b : List UInt8} {n : Nat} : Ed t a b n → Ed t (x :: a) (y :: b) (n + t)

theorem ed_le {t : Nat} {a b : List UInt8} {n : Nat} (h : Ed t a b n) : ed t a b ≤ n := by
  induction h with
  | nil => rw [ed_nl]; simp
  | keep x h ih => rw [ed_cc, if_pos rfl]; exact ih
  | drop x h ih => exact Nat.le_trans (ed_drop t x _ _) (Nat.add_le_add_right ih 1)
  | put y h ih => exact Nat.le_trans (ed_put t y _ _) (Nat.add_le_add_right ih 1)
  | turn x y h ih =>
    rw [ed_cc]
    by_cases he : x = y
    · rw [if_pos he]; omega
    · rw [if_neg he]; omega

theorem Ed.dropAll (t : Nat) : ∀ a : List UInt8, Ed t a [] a.length
  | [] => .nil
  | x :: a => .drop x (Ed.dropAll t a)
theorem Ed.putAll (t : Nat) : ∀ b : List UInt8, Ed t [] b b.length
  | [] => .nil
  | y :: b => .put y (Ed.putAll t b)

theorem ed_is (t : Nat) (n : Nat) : ∀ a b : List UInt8, a.length + b.length ≤ n → Ed t a b (ed t a b) := by
  induction n with
  | zero =>
    intro a b h
    have ha : a = [] := List.eq_nil_of_length_eq_zero (by omega)
    have hb : b = [] := List.eq_nil_of_length_eq_zero (by omega)
    subst ha; subst hb; rw [ed_nl]; exact .nil
  | succ n ih =>
    intro a b h
    cases a with
    | nil => rw [ed_nl]; exact Ed.putAll t b
    | cons x a =>
      cases b with
      | nil => rw [ed_nr]; exact Ed.dropAll t _
      | cons y b =>
        simp only [List.length_cons] at h
        have h1 := ih a b (by omega)
        have h2 := ih a (y :: b) (by simp; omega)
        have h3 := ih (x :: a) b (by simp; omega)
        rw [ed_cc]
        by_cases he : x = y
        · rw [if_pos he]; subst he; exact .keep x h1
        · rw [if_neg he]
          by_cases hA : ed t a (y :: b) + 1 ≤ min (ed t (x :: a) b + 1) (ed t a b + t)
          · rw [Nat.min_eq_left hA]; exact .drop x h2
          · rw [Nat.min_eq_right (by omega)]
            by_cases hB : ed t (x :: a) b + 1 ≤ ed t a b + t
            · rw [Nat.min_eq_left hB]; exact .put y h3
            · rw [Nat.min_eq_right (by omega)]; exact .turn x y h1
theorem Ed.least (t : Nat) (a b : List UInt8) : Ed t a b (ed t a b) := ed_is t _ a b (Nat.le_refl _)

theorem Ed.append {t : Nat} {a b : List UInt8} {n : Nat} (h : Ed t a b n) {a' b' : List UInt8} {m : Nat} (h' : Ed t a' b' m) : Ed t (a ++ a') (b ++ b') (n + m) := by
  induction h with
  | nil => simpa using h'
  | keep x h ih => exact .keep x ih
  | drop x h ih => have := Ed.drop x ih; rwa [show ∀ n : Nat, n + 1 + m = n + m + 1 from fun n => by omega]
  | put y h ih => have := Ed.put y ih; rwa [show ∀ n : Nat, n + 1 + m = n + m + 1 from fun n => by omega]
  | turn x y h ih => have := Ed.turn x y ih; rwa [show ∀ n : Nat, n + t + m = n + m + t from fun n => by omega]

theorem Ed.rev {t : Nat} {a b : List UInt8} {n : Nat} (h : Ed t a b n) : Ed t a.reverse b.reverse n := by
  induction h with
  | nil => exact .nil
  | keep x h ih => simpa using ih.append (Ed.keep x .nil)
  | drop x h ih => simpa using ih.append (Ed.drop x .nil)
  | put y h ih => simpa using ih.append (Ed.put y .nil)
  | turn x y h ih => simpa using ih.append (Ed.turn x y .nil)

theorem ed_rev (t : Nat) (a b : List UInt8) : ed t a.reverse b.reverse = ed t a b := by
  refine Nat.le_antisymm (ed_le (Ed.least t a b).rev) ?_
  have h := (Ed.least t a.reverse b.reverse).rev
  simp only [List.reverse_reverse] at h
  exact ed_le h

/-- What is told of the first bytes, whether they are the same or not. -/
theorem ed_full (t : Nat) (x y : UInt8) (a b : List UInt8) : ed t (x :: a) (y :: b) = min (ed t a b + if x = y then 0 else t) (min (ed t a (y :: b) + 1) (ed t (x :: a) b + 1)) := by
  rw [ed_cc]
  by_cases he : x = y
  · simp only [if_pos he]
    have h1 := ed_less t y a b
    have h2 := ed_less' t x a b
    omega
  · simp only [if_neg he]; omega

/-- And of the last bytes. -/
theorem ed_last (t : Nat) (x y : UInt8) (a b : List UInt8) : ed t (a ++ [x]) (b ++ [y]) = min (ed t a b + if x = y then 0 else t) (min (ed t a (b ++ [y]) + 1) (ed t (a ++ [x]) b + 1)) := by
  have h := ed_full t x y a.reverse b.reverse
  rw [← ed_rev t (a ++ [x]), ← ed_rev t a b, ← ed_rev t a (b ++ [y]), ← ed_rev t (a ++ [x]) b]
  simpa using h

theorem Ed.trans {t : Nat} {a b : List UInt8} {n : Nat} (h : Ed t a b n) : ∀ {c : List UInt8} {m : Nat}, Ed t b c m → ∃ k, k ≤ n + m ∧ Ed t a c k := by
  induction h with
  | nil => intro c m h; exact ⟨m, by omega, h⟩
  | @drop x a b n h ih => intro c m h2; obtain ⟨k, hk, h3⟩ := ih h2; exact ⟨k + 1, by omega, .drop x h3⟩
  | @keep x a b n h ih =>
    intro c m h2
    generalize hB : x :: b = B at h2
    induction h2 with
    | nil => cases hB
    | keep x' h2 _ => cases hB; obtain ⟨k, hk, h3⟩ := ih h2; exact ⟨k, hk, .keep x h3⟩
    | drop x' h2 _ => cases hB; obtain ⟨k, hk, h3⟩ := ih h2; exact ⟨k + 1, by omega, .drop x h3⟩
    | put y h2 ih2 => obtain ⟨k, hk, h3⟩ := ih2 hB; exact ⟨k + 1, by omega, .put y h3⟩
    | turn x' y h2 _ => cases hB; obtain ⟨k, hk, h3⟩ := ih h2; exact ⟨k + t, by omega, .turn x y h3⟩
  | @put z a b n h ih =>
    intro c m h2
    generalize hB : z :: b = B at h2
    induction h2 with
    | nil => cases hB
    | keep x' h2 _ => cases hB; obtain ⟨k, hk, h3⟩ := ih h2; exact ⟨k + 1, by omega, .put z h3⟩
    | drop x' h2 _ => cases hB; obtain ⟨k, hk, h3⟩ := ih h2; exact ⟨k, by omega, h3⟩
    | put y h2 ih2 => obtain ⟨k, hk, h3⟩ := ih2 hB; exact ⟨k + 1, by omega, .put y h3⟩
    | turn x' y h2 _ => cases hB; obtain ⟨k, hk, h3⟩ := ih h2; exact ⟨k + 1, by omega, .put y h3⟩
  | @turn x z a b n h ih =>
    intro c m h2
    generalize hB : z :: b = B at h2
    induction h2 with
    | nil => cases hB
    | keep x' h2 _ => cases hB; obtain ⟨k, hk, h3⟩ := ih h2; exact ⟨k + t, by omega, .turn x z h3⟩
    | drop x' h2 _ => cases hB; obtain ⟨k, hk, h3⟩ := ih h2; exact ⟨k + 1, by omega, .drop x h3⟩
    | put y h2 ih2 => obtain ⟨k, hk, h3⟩ := ih2 hB; exact ⟨k + 1, by omega, .put y h3⟩
    | turn x' y h2 _ => cases hB; obtain ⟨k, hk, h3⟩ := ih h2; exact ⟨k + t, by omega, .turn x y h3⟩

theorem ed_tri (t : Nat) (a b c : List UInt8) : ed t a c ≤ ed t a b + ed t b c := by
  obtain ⟨k, hk, h⟩ := (Ed.least t a b).trans (Ed.least t b c)
  exact Nat.le_trans (ed_le h) hk

theorem Ed.same (t : Nat) : ∀ a : List UInt8, Ed t a a 0
  | [] => .nil
  | x :: a => .keep x (Ed.same t a)
theorem Ed.nought {t : Nat} (ht : 0 < t) {a b : List UInt8} {n : Nat} (h : Ed t a b n) : n = 0 → a = b := by
  induction h with
  | nil => intro _; rfl
  | keep x h ih => intro h0; rw [ih h0]
  | drop x h ih => intro h0; omega
  | put y h ih => intro h0; omega
  | turn x y h ih => intro h0; omega
theorem ed_nought {t : Nat} (ht : 0 < t) (a b : List UInt8) : ed t a b = 0 ↔ a = b := by
  constructor
  · intro h; exact Ed.nought ht (Ed.least t a b) h
  · intro h; subst h; have := ed_le (Ed.same t a); omega

theorem Ed.one {a b : List UInt8} {n : Nat} (h : Ed 2 a b n) : ∃ k, k ≤ n ∧ Ed 1 a b k := by
  induction h with
  | nil => exact ⟨0, by omega, .nil⟩
  | keep x h ih => obtain ⟨k, hk, h⟩ := ih; exact ⟨k, hk, .keep x h⟩
  | drop x h ih => obtain ⟨k, hk, h⟩ := ih; exact ⟨k + 1, by omega, .drop x h⟩
  | put y h ih => obtain ⟨k, hk, h⟩ := ih; exact ⟨k + 1, by omega, .put y h⟩
  | turn x y h ih => obtain ⟨k, hk, h⟩ := ih; exact ⟨k + 1, by omega, .turn x y h⟩
theorem Ed.two {a b : List UInt8} {n : Nat} (h : Ed 1 a b n) : ∃ k, k ≤ 2 * n ∧ Ed 2 a b k := by
  induction h with
  | nil => exact ⟨0, by omega, .nil⟩
  | keep x h ih => obtain ⟨k, hk, h⟩ := ih; exact ⟨k, hk, .keep x h⟩
  | drop x h ih => obtain ⟨k, hk, h⟩ := ih; exact ⟨k + 1, by omega, .drop x h⟩
  | put y h ih => obtain ⟨k, hk, h⟩ := ih; exact ⟨k + 1, by omega, .put y h⟩
  | turn x y h ih => obtain ⟨k, hk, h⟩ := ih; exact ⟨k + 2, by omega, .turn x y h⟩
theorem ed_between (a b : List UInt8) : ed 1 a b ≤ ed 2 a b ∧ ed 2 a b ≤ 2 * ed 1 a b := by
  obtain ⟨k, hk, h⟩ := (Ed.least 2 a b).one
  obtain ⟨m, hm, h'⟩ := (Ed.least 1 a b).two
  exact ⟨Nat.le_trans (ed_le h) hk, Nat.le_trans (ed_le h') hm⟩
theorem ed_most (t : Nat) (a b : List UInt8) : ed t a b ≤ a.length + b.length := ed_le (by simpa using (Ed.dropAll t a).append (Ed.putAll t b))

/-- How many bytes are in common at most. -/
def lc : List UInt8 → List UInt8 → Nat
  | [], _ => 0
  | _, [] => 0
  | x :: a, y :: b => if x = y then lc a b + 1 else max (lc a (y :: b)) (lc (x :: a) b)
termination_by a b => a.length + b.length
theorem lc_nl (b : List UInt8) : lc [] b = 0 := by rw [lc]
theorem lc_nr (a : List UInt8) : lc a [] = 0 := by
  cases a with
  | nil => rw [lc]
  | cons x a => rw [lc]; simp
theorem lc_cc (x y : UInt8) (a b : List UInt8) : lc (x :: a) (y :: b) = if x = y then lc a b + 1 else max (lc a (y :: b)) (lc (x :: a) b) := by rw [lc]

/-- How far apart two rows are where a turn is a drop and a put, by what they have in common. -/
theorem ed_lc_ (n : Nat) : ∀ a b : List UInt8, a.length + b.length ≤ n → ed 2 a b + 2 * lc a b = a.length + b.length := by
  induction n with
  | zero =>
    intro a b h
    have ha : a = [] := List.eq_nil_of_length_eq_zero (by omega)
    have hb : b = [] := List.eq_nil_of_length_eq_zero (by omega)
    subst ha; subst hb; rw [ed_nl, lc_nl]; simp
  | succ n ih =>
    intro a b h
    cases a with
    | nil => rw [ed_nl, lc_nl]; simp
    | cons x a =>
      cases b with
      | nil => rw [ed_nr, lc_nr]; simp
      | cons y b =>
        simp only [List.length_cons] at h
        have h1 := ih a b (by omega)
        have h2 := ih a (y :: b) (by simp; omega)
        have h3 := ih (x :: a) b (by simp; omega)
        have h4 := ed_put 2 y a b
        simp only [List.length_cons] at h2 h3 ⊢
        rw [ed_cc, lc_cc]
        by_cases he : x = y
        · rw [if_pos he, if_pos he]; omega
        · rw [if_neg he, if_neg he]; omega
theorem ed_lc (a b : List UInt8) : ed 2 a b + 2 * lc a b = a.length + b.length := ed_lc_ _ a b (Nat.le_refl _)
theorem lc_sym (a b : List UInt8) : lc a b = lc b a := by
  have h1 := ed_lc a b
  have h2 := ed_lc b a
  have h3 := ed_sym 2 a b
  omega

end Go.Proofs.YtbooongkbninhaaDoor

set_option linter.unusedVariables false
namespace Go.Proofs.YtbooongkbninhaaDoor
open Go

theorem lc_up (x : UInt8) (a b : List UInt8) : lc a b ≤ lc (x :: a) b := by
  have h1 := ed_lc a b
  have h2 := ed_lc (x :: a) b
  have h3 := ed_drop 2 x a b
  simp only [List.length_cons] at h2
  omega
theorem lc_upr (y : UInt8) (a b : List UInt8) : lc a b ≤ lc a (y :: b) := by
  rw [lc_sym a b, lc_sym a (y :: b)]; exact lc_up y b a
theorem lc_dropl (a b : List UInt8) (i : Nat) : lc (a.drop i) b ≤ lc a b := by
  induction a generalizing i with
  | nil => simp
  | cons x a ih =>
    cases i with
    | zero => simp
    | succ i => rw [List.drop_succ_cons]; exact Nat.le_trans (ih i) (lc_up x a b)
theorem lc_dropr (a b : List UInt8) (k : Nat) : lc a (b.drop k) ≤ lc a b := by
  rw [lc_sym a (b.drop k), lc_sym a b]; exact lc_dropl b a k
theorem lc_drop2 (a b : List UInt8) (i k : Nat) : lc (a.drop i) (b.drop k) ≤ lc a b := Nat.le_trans (lc_dropr _ b k) (lc_dropl a b i)
/-- Whatever is met in both goes ahead of what is in common behind it. -/
theorem lc_met {a b : List UInt8} {x y : Nat} {c : UInt8} (hx : a[x]? = some c) (hy : b[y]? = some c) : lc (a.drop (x + 1)) (b.drop (y + 1)) + 1 ≤ lc a b := by
  obtain ⟨h1, e1⟩ := List.getElem?_eq_some_iff.1 hx
  obtain ⟨h2, e2⟩ := List.getElem?_eq_some_iff.1 hy
  have := lc_drop2 a b x y
  rw [List.drop_eq_getElem_cons h1, List.drop_eq_getElem_cons h2, lc_cc, if_pos (by rw [e1, e2])] at this
  exact this
theorem lc_first (n : Nat) : ∀ a b : List UInt8, a.length + b.length ≤ n → 0 < lc a b → ∃ x y c, a[x]? = some c ∧ b[y]? = some c ∧ lc (a.drop (x + 1)) (b.drop (y + 1)) + 1 = lc a b := by
  induction n with
  | zero =>
    intro a b h h0
    have ha : a = [] := List.eq_nil_of_length_eq_zero (by omega)
    subst ha; rw [lc_nl] at h0; omega
  | succ n ih =>
    intro a b h h0
    cases a with
    | nil => rw [lc_nl] at h0; omega
    | cons x a =>
      cases b with
      | nil => rw [lc_nr] at h0; omega
      | cons y b =>
        simp only [List.length_cons] at h
        by_cases he : x = y
        · exact ⟨0, 0, x, by simp, by simp [he], by rw [lc_cc, if_pos he]; simp⟩
        · rw [lc_cc, if_neg he] at h0 ⊢
          by_cases hm : lc (x :: a) b ≤ lc a (y :: b)
          · rw [Nat.max_eq_left hm] at h0 ⊢
            obtain ⟨x', y', c, h1, h2, h3⟩ := ih a (y :: b) (by simp; omega) h0
            exact ⟨x' + 1, y', c, by simpa using h1, h2, by simpa using h3⟩
          · rw [Nat.max_eq_right (by omega)] at h0 ⊢
            obtain ⟨x', y', c, h1, h2, h3⟩ := ih (x :: a) b (by simp; omega) h0
            exact ⟨x', y' + 1, c, h1, by simpa using h2, by simpa using h3⟩

theorem lc_bd' (a b : List UInt8) : lc a b ≤ a.length := by
  have h1 := ed_lc a b
  have h4 : b.length ≤ ed 2 a b + a.length := by
    have := ed_tri 2 [] a b
    rw [ed_nl, ed_nl] at this
    omega
  omega

/-- Where a byte stands first. -/
def fp : List UInt8 → UInt8 → Option Nat
  | [], _ => none
  | b :: l, c => if b = c then some 0 else (fp l c).map (· + 1)
theorem fp_some {l : List UInt8} {c : UInt8} {n : Nat} (h : fp l c = some n) : l[n]? = some c ∧ ∀ j, j < n → l[j]? ≠ some c := by
  induction l generalizing n with
  | nil => cases h
  | cons b l ih =>
    unfold fp at h
    split at h
    · rename_i e; cases h; exact ⟨by simp [e], fun j hj => by omega⟩
    · rename_i e
      cases hq : fp l c with
      | none => rw [hq] at h; cases h
      | some m =>
        rw [hq] at h
        cases h
        obtain ⟨h1, h2⟩ := ih hq
        refine ⟨by simpa using h1, fun j hj => ?_⟩
        cases j with
        | zero => simpa using e
        | succ j => simpa using h2 j (by simp only at hj; omega)
theorem fp_none {l : List UInt8} {c : UInt8} (h : fp l c = none) : ∀ j : Nat, l[j]? ≠ some c := by
  induction l with
  | nil => intro j; simp
  | cons b l ih =>
    unfold fp at h
    split at h
    · cases h
    · rename_i e
      cases hq : fp l c with
      | some m => rw [hq] at h; cases h
      | none =>
        intro j
        cases j with
        | zero => simpa using e
        | succ j => simpa using ih hq j
theorem fp_lt {l : List UInt8} {c : UInt8} {n : Nat} (h : fp l c = some n) : n < l.length := (List.getElem?_eq_some_iff.1 (fp_some h).1).1
theorem index_fp (l : List UInt8) (c : UInt8) : Lib.indexByte l c = match fp l c with | some n => (n : Int) | none => -1 := by
  induction l with
  | nil => rfl
  | cons b l ih =>
    unfold Lib.indexByte fp
    by_cases he : b = c
    · simp [he]
    · rw [if_neg (by simpa using he), if_neg he, ih]
      cases hq : fp l c with
      | none => simp
      | some n =>
        have : ¬ ((n : Int) = -1) := by omega
        simp

/-- Where in b the byte stands that a has at x, if it is a first one of a longest text in common from i and k on. -/
def cnd (A B : List UInt8) (i k x : Nat) : Option Nat :=
  match A[x]? with
  | none => none
  | some c => match fp (B.drop k) c with
    | none => none
    | some y => if lc (A.drop (x + 1)) (B.drop (k + y + 1)) + 1 = lc (A.drop i) (B.drop k) then some (k + y) else none
theorem cnd_no {A B : List UInt8} {i k x : Nat} {c : UInt8} (h : A[x]? = some c) (h2 : fp (B.drop k) c = none) : cnd A B i k x = none := by simp [cnd, h, h2]
theorem cnd_yes {A B : List UInt8} {i k x y : Nat} {c : UInt8} (h : A[x]? = some c) (h2 : fp (B.drop k) c = some y) : cnd A B i k x = if lc (A.drop (x + 1)) (B.drop (k + y + 1)) + 1 = lc (A.drop i) (B.drop k) then some (k + y) else none := by simp [cnd, h, h2]
theorem cnd_is {A B : List UInt8} {i k x y : Nat} (h : cnd A B i k x = some y) : x < A.length ∧ k ≤ y ∧ y < B.length ∧ (∃ c, A[x]? = some c ∧ B[y]? = some c) ∧ lc (A.drop (x + 1)) (B.drop (y + 1)) + 1 = lc (A.drop i) (B.drop k) := by
  unfold cnd at h
  cases hx : A[x]? with
  | none => rw [hx] at h; cases h
  | some c =>
    rw [hx] at h
    simp only at h
    cases hf : fp (B.drop k) c with
    | none => rw [hf] at h; cases h
    | some y' =>
      rw [hf] at h
      simp only at h
      split at h
      · rename_i e
        cases h
        have h1 := fp_lt hf
        have h2 := (fp_some hf).1
        rw [List.length_drop] at h1
        rw [List.getElem?_drop] at h2
        exact ⟨(List.getElem?_eq_some_iff.1 hx).1, by omega, by omega, ⟨c, rfl, h2⟩, e⟩
      · cases h

/-- The next byte: the least one, at its first places; among the n places from i on. -/
def nxt (A B : List UInt8) (i k : Nat) : Nat → Option (Nat × Nat)
  | 0 => none
  | n + 1 => match nxt A B i k n with
    | none => (cnd A B i k (i + n)).map (fun y => (i + n, y))
    | some p => if (A.getD p.1 0).toNat ≤ (A.getD (i + n) 0).toNat then some p else match cnd A B i k (i + n) with
      | some y => some (i + n, y)
      | none => some p
theorem nxt_is {A B : List UInt8} {i k n : Nat} {p : Nat × Nat} (h : nxt A B i k n = some p) : i ≤ p.1 ∧ p.1 < i + n ∧ cnd A B i k p.1 = some p.2 := by
  induction n generalizing p with
  | zero => cases h
  | succ n ih =>
    unfold nxt at h
    cases hq : nxt A B i k n with
    | none =>
      rw [hq] at h
      simp only at h
      cases hc : cnd A B i k (i + n) with
      | none => rw [hc] at h; cases h
      | some y => rw [hc] at h; cases h; exact ⟨by simp, by simp, hc⟩
    | some p0 =>
      rw [hq] at h
      simp only at h
      obtain ⟨h1, h2, h3⟩ := ih hq
      split at h
      · cases h; exact ⟨h1, by omega, h3⟩
      · cases hc : cnd A B i k (i + n) with
        | none => rw [hc] at h; cases h; exact ⟨h1, by omega, h3⟩
        | some y => rw [hc] at h; cases h; exact ⟨by simp, by simp, hc⟩
theorem nxt_none {A B : List UInt8} {i k n : Nat} (h : nxt A B i k n = none) : ∀ j, j < n → cnd A B i k (i + j) = none := by
  induction n with
  | zero => intro j hj; omega
  | succ n ih =>
    unfold nxt at h
    cases hq : nxt A B i k n with
    | none =>
      rw [hq] at h
      simp only at h
      intro j hj
      by_cases he : j = n
      · subst he
        cases hc : cnd A B i k (i + j) with
        | none => rfl
        | some y => rw [hc] at h; cases h
      · exact ih hq j (by omega)
    | some p =>
      rw [hq] at h
      simp only at h
      split at h
      · cases h
      · cases hc : cnd A B i k (i + n) with
        | none => rw [hc] at h; cases h
        | some y => rw [hc] at h; cases h
/-- There is a next byte just where something is in common. -/
theorem nxt_zero {A B : List UInt8} {i k : Nat} (h : lc (A.drop i) (B.drop k) = 0) (n : Nat) : nxt A B i k n = none := by
  cases hq : nxt A B i k n with
  | none => rfl
  | some p =>
    have := (cnd_is (nxt_is hq).2.2).2.2.2.2
    omega
theorem cnd_ex {A B : List UInt8} {i k : Nat} (h : 0 < lc (A.drop i) (B.drop k)) : ∃ j y, i + j < A.length ∧ cnd A B i k (i + j) = some y := by
  obtain ⟨x, y, c, h1, h2, h3⟩ := lc_first _ (A.drop i) (B.drop k) (Nat.le_refl _) h
  have hA : A[i + x]? = some c := by rw [← List.getElem?_drop]; exact h1
  cases hf : fp (B.drop k) c with
  | none => exact absurd h2 (fp_none hf y)
  | some y' =>
    have hle : y' ≤ y := by
      by_cases hc : y' ≤ y
      · exact hc
      · exact absurd h2 ((fp_some hf).2 y (by omega))
    refine ⟨x, k + y', (List.getElem?_eq_some_iff.1 hA).1, ?_⟩
    rw [cnd_yes hA hf, if_pos]
    have u1 := lc_met h1 (fp_some hf).1
    have u2 := lc_dropr ((A.drop i).drop (x + 1)) ((B.drop k).drop (y' + 1)) (y - y')
    rw [List.drop_drop (l := B.drop k), show y' + 1 + (y - y') = y + 1 by omega] at u2
    rw [List.drop_drop, List.drop_drop] at u1 u2 h3
    rw [show i + (x + 1) = i + x + 1 by omega] at u1 u2 h3
    rw [show k + (y' + 1) = k + y' + 1 by omega] at u1
    rw [List.drop_drop, show k + (y' + 1) = k + y' + 1 by omega] at u2
    omega
theorem nxt_ex {A B : List UInt8} {i k : Nat} (h : 0 < lc (A.drop i) (B.drop k)) : nxt A B i k (A.length - i) ≠ none := by
  intro hn
  obtain ⟨j, y, h1, h2⟩ := cnd_ex h
  have := nxt_none hn j (by omega)
  rw [this] at h2
  cases h2

/-- The text in common from i and k on. -/
inductive Cmn (A B : List UInt8) : Nat → Nat → List UInt8 → Prop
  | stop {i k : Nat} : nxt A B i k (A.length - i) = none → Cmn A B i k []
  | more {i k : Nat} {p : Nat × Nat} {L : List UInt8} : nxt A B i k (A.length - i) = some p → Cmn A B (p.1 + 1) (p.2 + 1) L → Cmn A B i k (A.getD p.1 0 :: L)
theorem cmn_ex (A B : List UInt8) (n : Nat) : ∀ i k, A.length - i ≤ n → ∃ L, Cmn A B i k L := by
  induction n with
  | zero => intro i k h; exact ⟨[], .stop (by rw [show A.length - i = 0 by omega]; rfl)⟩
  | succ n ih =>
    intro i k h
    cases hq : nxt A B i k (A.length - i) with
    | none => exact ⟨[], .stop hq⟩
    | some p =>
      have := (nxt_is hq).1
      have h2 := (cnd_is (nxt_is hq).2.2).1
      obtain ⟨L, hL⟩ := ih (p.1 + 1) (p.2 + 1) (by omega)
      exact ⟨_, .more hq hL⟩
theorem Cmn.none {A B : List UInt8} {i k : Nat} {L : List UInt8} (h : Cmn A B i k L) (hn : nxt A B i k (A.length - i) = Option.none) : L = [] := by
  cases h with
  | stop _ => rfl
  | more h' _ => rw [hn] at h'; cases h'
theorem Cmn.some {A B : List UInt8} {i k : Nat} {L : List UInt8} {p : Nat × Nat} (h : Cmn A B i k L) (hn : nxt A B i k (A.length - i) = Option.some p) : ∃ L', L = A.getD p.1 0 :: L' ∧ Cmn A B (p.1 + 1) (p.2 + 1) L' := by
  cases h with
  | stop h' => rw [hn] at h'; cases h'
  | more h' h2 => rw [hn] at h'; cases h'; exact ⟨_, rfl, h2⟩
theorem cmn_len {A B : List UInt8} {i k : Nat} {L : List UInt8} (h : Cmn A B i k L) : L.length = lc (A.drop i) (B.drop k) := by
  induction h with
  | @stop i k h =>
    cases hz : lc (A.drop i) (B.drop k) with
    | zero => rfl
    | succ n => exact absurd h (nxt_ex (by omega))
  | more h _ ih =>
    have := (cnd_is (nxt_is h).2.2).2.2.2.2
    simp only [List.length_cons]
    omega

end Go.Proofs.YtbooongkbninhaaDoor
