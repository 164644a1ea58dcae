/- Rows of atoms as they came in. -/
import Derived.Test.YtnhooalibadeeabDoorSqW1
set_option linter.unusedVariables false
namespace Go.Proofs.YtnhooalibadeeabDoor
open Go.RowKit
open Doc1

/-- A row of atoms, wherever it lies. -/
structure AmIn (w : World) (a : Option Addr) (cap : Nat) (l : List Am) : Prop where
  le : l.length ≤ cap
  mx : cap ≤ maxLen
  ad : l ≠ [] → ∃ g, a = some ⟨g, 0, none⟩ ∧ g < w.heap.size ∧ CLs w g (encAm l)
theorem AmIn.later {w w1 : World} {a : Option Addr} {cap : Nat} {l : List Am} (h : AmIn w a cap l) (hb : Below w.heap.size w w1) : AmIn w1 a cap l :=
  ⟨h.le, h.mx, fun hl => by obtain ⟨g, e, hg, hc⟩ := h.ad hl; exact ⟨g, e, Nat.lt_of_lt_of_le hg hb.size, hc.later hb hg⟩⟩
theorem AmOwn.inn {w : World} {B : Nat} {v : Value} {l : List Am} (h : AmOwn w B v l) : ∃ a cap, v = .slice a l.length cap ∧ AmIn w a cap l := by
  obtain ⟨a, cap, rfl, h1, h2⟩ := own_shp h
  refine ⟨a, cap, rfl, h1, h2, fun hl => ?_⟩
  obtain ⟨g, c, e, k1, k2, -, k3, k4, -⟩ := own_cat h (List.length_pos_iff.2 hl)
  cases e
  exact ⟨g, rfl, k3, k4⟩
theorem AmCp.inn {w : World} {g : Nat} {l : List Am} (h : AmCp w g l) (hm : l.length ≤ maxLen) : AmIn w (some ⟨g, 0, none⟩) l.length l :=
  ⟨Nat.le_refl _, hm, fun _ => ⟨g, rfl, h.lt, h.at'⟩⟩
theorem AmIn.take {w : World} {a : Option Addr} {cap : Nat} {l : List Am} (h : AmIn w a cap l) (n : Nat) : AmIn w a cap (l.take n) := by
  refine ⟨by have := h.le; rw [List.length_take]; omega, h.mx, fun hl => ?_⟩
  obtain ⟨g, e, hg, hc⟩ := h.ad (fun c => hl (by rw [c]; simp))
  refine ⟨g, e, hg, fun j u hu => hc j u ?_⟩
  have e2 : encAm l = encAm (l.take n) ++ encAm (l.drop n) := by rw [← encAm_app, List.take_append_drop]
  rw [e2]
  have hj : j < (encAm (l.take n)).length := (List.getElem?_eq_some_iff.1 hu).1
  rw [List.getElem?_append_left hj]
  exact hu
theorem AmIn.nil (w : World) (a : Option Addr) (cap : Nat) (h : cap ≤ maxLen) : AmIn w a cap [] := ⟨Nat.zero_le _, h, fun c => absurd rfl c⟩
/-- A sequence that came in: its row, and bounds of it. -/
structure SIn (w : World) (a : Option Addr) (cap : Nat) (l : List Am) : Prop where
  inn : AmIn w a cap l
  len : l.length ≤ 1048576
  txt : ∀ i (hi : i < l.length), l[i].byte.size ≤ 1048576
theorem SIn.later {w w1 : World} {a : Option Addr} {cap : Nat} {l : List Am} (h : SIn w a cap l) (hb : Below w.heap.size w w1) : SIn w1 a cap l := ⟨h.inn.later hb, h.len, h.txt⟩
theorem SIn.take {w : World} {a : Option Addr} {cap : Nat} {l : List Am} (h : SIn w a cap l) (n : Nat) : SIn w a cap (l.take n) :=
  ⟨h.inn.take n, by have := h.len; rw [List.length_take]; omega, fun i hi => by rw [List.getElem_take]; exact h.txt i (by rw [List.length_take] at hi; omega)⟩
/-- A box of an atom. -/
def BxA (w : World) (g : Nat) (x : Am) : Prop := w.heap[g]? = some (.cells #[.int .i64 x.time, .int .i64 x.actor, .int .i64 x.above, .int .i64 x.maker, .string x.byte, .bool x.gone] 47)
theorem BxA.new (w : World) (x : Am) : BxA (w.alloc (.cells #[.int .i64 x.time, .int .i64 x.actor, .int .i64 x.above, .int .i64 x.maker, .string x.byte, .bool x.gone] 47)) w.heap.size x := heap_alloc_new w _
theorem BxA.lt {w : World} {g : Nat} {x : Am} (h : BxA w g x) : g < w.heap.size := (Array.getElem?_eq_some_iff.1 h).1
theorem BxA.later {w w1 : World} {g : Nat} {x : Am} (h : BxA w g x) (hb : Below w.heap.size w w1) : BxA w1 g x := by
  unfold BxA; rw [hb.block g h.lt]; exact h
theorem BxA.cells {w : World} {g : Nat} {x : Am} (h : BxA w g x) : w.cell? ⟨g, 0, none⟩ = some (.int .i64 x.time) ∧ w.cell? ⟨g, 1, none⟩ = some (.int .i64 x.actor) ∧ w.cell? ⟨g, 2, none⟩ = some (.int .i64 x.above) ∧ w.cell? ⟨g, 3, none⟩ = some (.int .i64 x.maker) ∧ w.cell? ⟨g, 4, none⟩ = some (.string x.byte) ∧ w.cell? ⟨g, 5, none⟩ = some (.bool x.gone) :=
  ⟨by rw [cell_of_row _ _ 0 _ _ (0, 0) h]; rfl, by rw [cell_of_row _ _ 1 _ _ (0, 0) h]; rfl, by rw [cell_of_row _ _ 2 _ _ (0, 0) h]; rfl, by rw [cell_of_row _ _ 3 _ _ (0, 0) h]; rfl, by rw [cell_of_row _ _ 4 _ _ (0, 0) h]; rfl, by rw [cell_of_row _ _ 5 _ _ (0, 0) h]; rfl⟩
end Go.Proofs.YtnhooalibadeeabDoor
