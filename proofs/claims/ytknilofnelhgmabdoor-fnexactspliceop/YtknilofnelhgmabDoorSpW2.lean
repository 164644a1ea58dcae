/- The contract of slices.DeleteFunc over parts. -/
import Derived.Test.YtknilofnelhgmabDoorSpW1
import Derived.Laws.CopyRow
namespace Go.Proofs.YtknilofnelhgmabDoor
open Go.RowKit
open Doc1

/-- A row that holds these cells, and nothing else. -/
def RowC (w : World) (g : Nat) (cs : List Value) : Prop := w.heap[g]? = some (.cells cs.toArray 45 (0, 0))
theorem RowC.lt {w : World} {g : Nat} {cs : List Value} (h : RowC w g cs) : g < w.heap.size := (Array.getElem?_eq_some_iff.1 h).1
theorem RowC.cls {w : World} {g : Nat} {cs : List Value} (h : RowC w g cs) : CLs w g cs := fun j u hu => by
  unfold World.cell?
  rw [show w.heap[g]? = _ from h]
  simpa using hu
theorem RowC.fz {w : World} {g : Nat} {cs : List Value} (h : RowC w g cs) (j : Nat) : w.frozen? ⟨g, j, none⟩ = false := by
  unfold World.frozen?
  rw [show w.heap[g]? = _ from h]
  simp
theorem RowC.set {w : World} {g : Nat} {cs : List Value} (h : RowC w g cs) (j : Nat) (v : Value) : RowC (w.setCell ⟨g, j, none⟩ v) g (cs.set j v) := by
  have hl := h.lt
  unfold RowC at *
  show (w.heap.modify g _)[g]? = _
  rw [Array.getElem?_eq_getElem (by rw [Array.size_modify]; exact hl), Array.getElem_modify_self]
  have e : w.heap[g] = .cells cs.toArray 45 (0, 0) := by rw [Array.getElem?_eq_getElem hl] at h; exact Option.some.inj h
  rw [e]
  simp
theorem RowC.up {w w1 : World} {g : Nat} {cs : List Value} (h : RowC w g cs) (hb : Below w.heap.size w w1) : RowC w1 g cs := (hb.block g h.lt).trans h
def flt0 (l : List Pt) : List Pt := l.filter (fun p => decide (¬ nth p))
theorem flt_take {l : List Pt} {k : Nat} (hk : k < l.length) : flt0 (l.take (k + 1)) = flt0 (l.take k) ++ (if nth l[k] then [] else [l[k]]) := by
  unfold flt0
  rw [List.take_succ_eq_append_getElem hk, List.filter_append]
  by_cases h : nth l[k] <;> simp [h]
theorem set3 {cs : List Value} {o : Nat} {a b c : Value} (h : o + 3 ≤ cs.length) : (((cs.set o a).set (o + 1) b).set (o + 2) c).take (o + 3) = cs.take o ++ [a, b, c] := by
  apply List.ext_getElem?
  intro j
  by_cases hj : j < o + 3
  · rw [List.getElem?_take_of_lt hj]
    by_cases h1 : j < o
    · rw [List.getElem?_append_left (by rw [List.length_take]; omega), List.getElem?_take_of_lt h1, List.getElem?_set_ne (by omega), List.getElem?_set_ne (by omega), List.getElem?_set_ne (by omega)]
    · rw [List.getElem?_append_right (by rw [List.length_take]; omega), List.length_take, Nat.min_eq_left (by omega)]
      have : j = o ∨ j = o + 1 ∨ j = o + 2 := by omega
      rcases this with rfl | rfl | rfl
      · rw [List.getElem?_set_ne (by omega), List.getElem?_set_ne (by omega), List.getElem?_set_self (by omega)]; simp
      · rw [List.getElem?_set_ne (by omega), List.getElem?_set_self (by simp; omega)]; simp
      · rw [List.getElem?_set_self (by simp; omega)]; simp
  · rw [List.getElem?_eq_none (by rw [List.length_take]; omega), List.getElem?_eq_none (by simp; omega)]
theorem drop3 {cs : List Value} {o m : Nat} {a b c : Value} (h : o + 3 ≤ m) : (((cs.set o a).set (o + 1) b).set (o + 2) c).drop m = cs.drop m := by
  rw [List.drop_set_of_lt (by omega), List.drop_set_of_lt (by omega), List.drop_set_of_lt (by omega)]
/-- How the row stands between two rounds: i parts are kept of the first j. -/
structure DelAt (l : List Pt) (z : List Value) (w : World) (g i j : Nat) (wr : World) : Prop where
  le : i ≤ j ∧ j ≤ l.length
  row : ∃ cs, RowC wr g cs ∧ cs.length = l.length * 3 + z.length ∧ cs.take (i * 3) = encP (flt0 (l.take j)) ∧ cs.drop (j * 3) = (encP l ++ z).drop (j * 3)
  len : i = (flt0 (l.take j)).length
  mv : Moves (fun k => k = g) w (fun k => k = g) wr
theorem DelAt.part {l : List Pt} {z : List Value} {w wr : World} {g i j : Nat} (h : DelAt l z w g i j wr) (hj : j < l.length) : wr.cell? ⟨g, j * 3, none⟩ = some (.int .i64 l[j].keep) ∧ wr.cell? ⟨g, j * 3 + 1, none⟩ = some (.string l[j].put) ∧ wr.cell? ⟨g, j * 3 + 2, none⟩ = some (.string l[j].drop) := by
  obtain ⟨cs, hr, hl, -, hd⟩ := h.row
  have he := encP_at l j hj
  have key : ∀ m, m < 3 → cs[j * 3 + m]? = (encP l)[j * 3 + m]? := fun m hm => by
    have := congrArg (fun x : List Value => x[m]?) hd
    simp only [List.getElem?_drop] at this
    rw [this, List.getElem?_append_left (by rw [encP_len]; omega)]
  exact ⟨hr.cls _ _ ((key 0 (by omega)).trans he.1), hr.cls _ _ ((key 1 (by omega)).trans he.2.1), hr.cls _ _ ((key 2 (by omega)).trans he.2.2)⟩
theorem DelAt.skip {l : List Pt} {z : List Value} {w wr w2 : World} {g i j : Nat} (h : DelAt l z w g i j wr) (hj : j < l.length) (hn : nth l[j]) (hb : Below wr.heap.size wr w2) : DelAt l z w g i (j + 1) w2 := by
  obtain ⟨cs, hr, hl, ht, hd⟩ := h.row
  have e : flt0 (l.take (j + 1)) = flt0 (l.take j) := by rw [flt_take hj, if_pos hn, List.append_nil]
  refine ⟨⟨by have := h.le.1; omega, hj⟩, ⟨cs, hr.up hb, hl, by rw [e]; exact ht, ?_⟩, by rw [e]; exact h.len, h.mv.trans (moves_up hb)⟩
  rw [show (j + 1) * 3 = j * 3 + 3 by omega, ← List.drop_drop, hd, List.drop_drop]
theorem DelAt.take {l : List Pt} {z : List Value} {w wr w2 : World} {g i j : Nat} (h : DelAt l z w g i j wr) (hj : j < l.length) (hij : i < j) (hn : ¬ nth l[j]) (hb : Below wr.heap.size wr w2) :
    DelAt l z w g (i + 1) (j + 1) (((w2.setCell ⟨g, i * 3, none⟩ (.int .i64 l[j].keep)).setCell ⟨g, i * 3 + 1, none⟩ (.string l[j].put)).setCell ⟨g, i * 3 + 2, none⟩ (.string l[j].drop)) := by
  obtain ⟨cs, hr, hl, ht, hd⟩ := h.row
  have e : flt0 (l.take (j + 1)) = flt0 (l.take j) ++ [l[j]] := by rw [flt_take hj, if_neg hn]
  refine ⟨⟨by omega, hj⟩, ⟨((cs.set (i * 3) (.int .i64 l[j].keep)).set (i * 3 + 1) (.string l[j].put)).set (i * 3 + 2) (.string l[j].drop), (((hr.up hb).set _ _).set _ _).set _ _, by simp [hl], ?_, ?_⟩, ?_, ?_⟩
  · rw [show (i + 1) * 3 = i * 3 + 3 by omega, set3 (by omega), ht, e, encP_snoc]
  · rw [drop3 (by omega), show (j + 1) * 3 = j * 3 + 3 by omega, ← List.drop_drop, hd, List.drop_drop]
  · rw [e, List.length_append, ← h.len]; rfl
  · exact ((((h.mv.trans (moves_up hb)).setCell (fun _ => rfl) _).setCell (fun _ => rfl) _).setCell (fun _ => rfl) _)
end Go.Proofs.YtknilofnelhgmabDoor
