/- The model's own helpers over ropes: a piece, boughs that are joined. -/
import Derived.Test.YtpdngncioblibacDoorRopg
set_option linter.unusedVariables false
namespace Go.Proofs.YtpdngncioblibacDoor
open Go.RowKit
open Doc1

/-- A row of boughs is told: it lies somewhere, and nothing that lay has changed. -/
def BiPost (w : World) (l : List Bg) (e : Ending) (w' : World) : Prop := ∃ a cap, e = .returned (.slice a l.length cap) ∧ BoIn w' a cap l ∧ Below w.heap.size w w'

/-- A row of boughs of its own is told. -/
def OwPost (w : World) (l : List Bg) (e : Ending) (w' : World) : Prop := ∃ v, e = .returned v ∧ BoOwn w' w.heap.size v l ∧ Below w.heap.size w w'

theorem OwPost.bi {w : World} {l : List Bg} {e : Ending} {w' : World} (h : OwPost w l e w') : BiPost w l e w' := by
  obtain ⟨v, rfl, ho, hb⟩ := h
  obtain ⟨a, cap, rfl, hi⟩ := ho.inn
  exact ⟨a, cap, rfl, hi, hb⟩

theorem BoIn.nil (w : World) (a : Option Addr) (cap : Nat) (h : cap ≤ maxLen) : BoIn w a cap [] := ⟨Nat.zero_le _, h, fun c => absurd rfl c⟩

/-- Boughs laid further behind. -/
def shf (n : Nat) (b : Bg) : Bg := if 0 ≤ b.left then ⟨b.left + n, b.right + n, b.text, b.size, b.deep⟩ else b

theorem pd_shf (t : Lm) : ∀ (o n : Nat), (t.pd o).map (shf n) = t.pd (o + n) := by
  induction t with
  | pc s => intro o n; rfl
  | jn a b iha ihb =>
    intro o n
    have ha := Lm.nb_pos a
    simp only [Lm.pd, List.map_append, List.map_cons, List.map_nil, iha, ihb]
    rw [show o + a.nb + n = o + n + a.nb by omega]
    congr 3
    unfold shf
    rw [if_pos (by show (0 : Int) ≤ ((o + a.nb : Nat) : Int) - 1; omega)]
    congr 1
    · show ((o + a.nb : Nat) : Int) - 1 + n = _; omega
    · show ((o + a.nb + b.nb : Nat) : Int) - 1 + n = _; omega

theorem pd_bd (t : Lm) : ∀ (o : Nat), ∀ b ∈ t.pd o, -1 ≤ b.left ∧ b.left ≤ o + t.nb ∧ -1 ≤ b.right ∧ b.right ≤ o + t.nb := by
  induction t with
  | pc s => intro o b hb; simp only [Lm.pd, List.mem_singleton] at hb; subst hb; simp only; omega
  | jn a b iha ihb =>
    intro o x hx
    simp only [Lm.pd, List.mem_append, List.mem_singleton] at hx
    simp only [Lm.nb]
    rcases hx with h | h | h
    · have := iha _ _ h; omega
    · have := ihb _ _ h; omega
    · subst h; simp only; omega

end Go.Proofs.YtpdngncioblibacDoor
