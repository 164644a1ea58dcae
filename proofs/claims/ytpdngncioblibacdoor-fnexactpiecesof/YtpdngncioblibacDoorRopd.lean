/- The program's functions over ropes, on: IsBalanced, SplitRope, ByteAt. -/
import Derived.Test.YtpdngncioblibacDoorRopc
set_option linter.unusedVariables false
namespace Go.Proofs.YtpdngncioblibacDoor
open Go.RowKit
open Doc1

/-- The numbers of Fibonacci from the second on. -/
def fb : Nat → Nat
  | 0 => 1
  | 1 => 2
  | n + 2 => fb n + fb (n + 1)

theorem fb_pos : ∀ n, 0 < fb n
  | 0 => by decide
  | 1 => by decide
  | n + 2 => by have := fb_pos n; simp only [fb]; omega

theorem fb_up (n : Nat) : fb n < fb (n + 1) ∧ fb (n + 1) ≤ 2 * fb n := by
  induction n with
  | zero => decide
  | succ n ih => have := fb_pos n; simp only [fb]; omega

theorem fb_mono {n m : Nat} (h : n ≤ m) : fb n ≤ fb m := by
  induction m with
  | zero => rw [Nat.le_zero.1 h]; exact Nat.le_refl _
  | succ m ih =>
    by_cases c : n ≤ m
    · have := ih c; have := fb_up m; omega
    · rw [show n = m + 1 by omega]; exact Nat.le_refl _

def lng (size deep : Nat) : Bool := decide (fb deep ≤ size)

/-- Boughs of a good rope: their numbers are small. -/
theorem pd_small (t : Lm) : ∀ (o : Nat), ∀ b ∈ t.pd o, ∃ (z d : Nat), b.size = (z : Int) ∧ b.deep = (d : Int) ∧ z ≤ t.sz ∧ d ≤ t.dp := by
  induction t with
  | pc s => intro o b hb; simp only [Lm.pd, List.mem_singleton] at hb; subst hb; exact ⟨s.size, 0, rfl, rfl, Nat.le_refl _, Nat.le_refl _⟩
  | jn a b iha ihb =>
    intro o x hx
    simp only [Lm.pd, List.mem_append, List.mem_singleton] at hx
    simp only [Lm.sz, Lm.dp]
    rcases hx with h | h | h
    · obtain ⟨z, d, h1, h2, h3, h4⟩ := iha _ _ h
      exact ⟨z, d, h1, h2, by omega, by omega⟩
    · obtain ⟨z, d, h1, h2, h3, h4⟩ := ihb _ _ h
      exact ⟨z, d, h1, h2, by omega, by omega⟩
    · subst h
      exact ⟨a.sz + b.sz, max a.dp b.dp + 1, rfl, rfl, Nat.le_refl _, Nat.le_refl _⟩

theorem rt_small {l : List Bg} (h : rtB l = true) : ∀ i (hi : i < l.length), ∃ (z d : Nat), l[i].size = (z : Int) ∧ l[i].deep = (d : Int) ∧ z ≤ 300 ∧ d ≤ 200 := by
  intro i hi
  unfold rtB at h
  obtain ⟨o, ho⟩ := Option.isSome_iff_exists.1 h
  obtain ⟨e, hg, hn, hz⟩ := RO_bo (dc_ro ho)
  cases o with
  | none => rw [e] at hi; simp [bo] at hi
  | some t =>
    obtain ⟨b, hb⟩ : ∃ b, l[i] = b := ⟨_, rfl⟩
    have hm : b ∈ l := hb ▸ List.getElem_mem hi
    rw [hb]
    rw [e] at hm
    obtain ⟨z, d, h1, h2, h3, h4⟩ := pd_small t 0 _ hm
    have := Lm.dp_lt t
    simp only [nbO, szO] at hn hz
    exact ⟨z, d, h1, h2, by omega, by omega⟩

def lngB (b : Bg) : Bool := lng b.size.toNat b.deep.toNat

noncomputable def blB (l : List Bg) : Bool := rtB l && l.all lngB

end Go.Proofs.YtpdngncioblibacDoor
