/- The heap of ends in memory, and its order and its swap. -/
import Derived.Test.YtknodkdlphngmaxHeapE
import Derived.Test.YtknodkdlphngmaxCells
import Derived.Test.YtknodkdlphngmaxOwnG
import Derived.BigRegion
namespace Go.Proofs.Ytknodkdlphngmax
open Go.RowKit
open Doc1

def enC (x : En) : List Value := [.string x.st, .int .i64 x.at', .int .i64 x.op]
def enV (x : En) : Value := .agg #[.string x.st, .int .i64 x.at', .int .i64 x.op]
def encE (l : List En) : List Value := l.flatMap enC
theorem encE_len (l : List En) : (encE l).length = l.length * 3 := by
  induction l with
  | nil => rfl
  | cons x l ih => rw [encE, List.flatMap_cons, List.length_append]; change _ + (encE l).length = _; rw [ih]; simp [enC]; omega
theorem encE_app (a b : List En) : encE (a ++ b) = encE a ++ encE b := by simp [encE]
theorem encE_at (l : List En) : ∀ i (h : i < l.length), (encE l)[i * 3]? = some (.string l[i].st) ∧ (encE l)[i * 3 + 1]? = some (.int .i64 l[i].at') ∧ (encE l)[i * 3 + 2]? = some (.int .i64 l[i].op) := by
  induction l with
  | nil => intro i h; simp at h
  | cons x l ih =>
    intro i h
    have e : encE (x :: l) = enC x ++ encE l := by simp [encE]
    cases i with
    | zero => rw [e]; simp [enC]
    | succ i =>
      have := ih i (by simpa using h)
      rw [e, show (i + 1) * 3 = 3 + i * 3 by omega, show 3 + i * 3 + 1 = 3 + (i * 3 + 1) by omega, show 3 + i * 3 + 2 = 3 + (i * 3 + 2) by omega]
      rw [List.getElem?_append_right (by simp [enC]), List.getElem?_append_right (by simp [enC]), List.getElem?_append_right (by simp [enC])]
      simpa [enC] using this
theorem encE_set (l : List En) (x : En) : ∀ i, i < l.length → (((encE l).set (i * 3) (.string x.st)).set (i * 3 + 1) (.int .i64 x.at')).set (i * 3 + 2) (.int .i64 x.op) = encE (l.set i x) := by
  induction l with
  | nil => intro i h; simp at h
  | cons y l ih =>
    intro i h
    have e : ∀ z (m : List En), encE (z :: m) = .string z.st :: .int .i64 z.at' :: .int .i64 z.op :: encE m := fun z m => by simp [encE, enC]
    cases i with
    | zero => simp [e]
    | succ i =>
      have := ih i (by simpa using h)
      rw [show (i + 1) * 3 = i * 3 + 2 + 1 by omega]
      simp only [e, List.set_cons_succ]
      rw [← this]

/-- The heap: a box that names a row of its own. -/
structure Hb (h g n cap : Nat) (cs : List Value) (w : World) : Prop where
  c : w.cell? ⟨h, 0, none⟩ = some (.slice (some ⟨g, 0, none⟩) n cap)
  fz : w.frozen? ⟨h, 0, none⟩ = false
  ne : h ≠ g
  row : w.heap[g]? = some (.cells cs.toArray 87 (0, 0))
  len : cs.length = cap * 3
  cap : n ≤ cap ∧ cap ≤ maxLen
/-- It holds these ends. -/
structure Hl (h g cap : Nat) (l : List En) (w : World) : Prop where
  ex : ∃ cs, Hb h g l.length cap cs w ∧ cs.take (l.length * 3) = encE l
theorem Hb.hlt {h g n cap : Nat} {cs : List Value} {w : World} (H : Hb h g n cap cs w) : h < w.heap.size := World.block_lt_of_cell? w _ H.c
theorem Hb.glt {h g n cap : Nat} {cs : List Value} {w : World} (H : Hb h g n cap cs w) : g < w.heap.size := (Array.getElem?_eq_some_iff.1 H.row).1
theorem Hb.kept {h g n cap : Nat} {cs : List Value} {w w2 : World} (H : Hb h g n cap cs w) (h1 : w2.heap[h]? = w.heap[h]?) (h2 : w2.heap[g]? = w.heap[g]?) : Hb h g n cap cs w2 :=
  ⟨(World.cell?_of_block h1).trans H.c, (World.frozen?_of_block h1).trans H.fz, H.ne, h2.trans H.row, H.len, H.cap⟩
theorem Hb.up {h g n cap : Nat} {cs : List Value} {w w2 : World} (H : Hb h g n cap cs w) (hb : Below w.heap.size w w2) : Hb h g n cap cs w2 := H.kept (hb.block _ H.hlt) (hb.block _ H.glt)
theorem Hb.at {h g n cap : Nat} {cs : List Value} {w : World} (H : Hb h g n cap cs w) (j : Nat) (u : Value) (hu : cs[j]? = some u) : w.cell? ⟨g, j, none⟩ = some u := by
  unfold World.cell?
  rw [show w.heap[g]? = _ from H.row]
  simpa using hu
theorem Hb.gz {h g n cap : Nat} {cs : List Value} {w : World} (H : Hb h g n cap cs w) (j : Nat) : w.frozen? ⟨g, j, none⟩ = false := by
  unfold World.frozen?
  rw [show w.heap[g]? = _ from H.row]
  simp
theorem Hb.set {h g n cap : Nat} {cs : List Value} {w : World} (H : Hb h g n cap cs w) (j : Nat) (v : Value) : Hb h g n cap (cs.set j v) (w.setCell ⟨g, j, none⟩ v) := by
  have hl := H.glt
  refine ⟨?_, ?_, H.ne, ?_, by simpa using H.len, H.cap⟩
  · rw [World.cell?_setCell_other _ _ _ _ (fun e => H.ne (by cases e; rfl))]; exact H.c
  · rw [World.frozen?_setCell]; exact H.fz
  · show (w.heap.modify g _)[g]? = _
    rw [Array.getElem?_eq_getElem (by rw [Array.size_modify]; exact hl), Array.getElem_modify_self]
    have e : w.heap[g] = .cells cs.toArray 87 (0, 0) := by have := H.row; rw [Array.getElem?_eq_getElem hl] at this; exact Option.some.inj this
    rw [e]
    simp
theorem Hl.up {h g cap : Nat} {l : List En} {w w2 : World} (H : Hl h g cap l w) (hb : Below w.heap.size w w2) : Hl h g cap l w2 := by
  obtain ⟨cs, h1, h2⟩ := H.ex
  exact ⟨cs, h1.up hb, h2⟩
theorem Hl.cells {h g cap : Nat} {l : List En} {w : World} (H : Hl h g cap l w) {i : Nat} (hi : i < l.length) : w.cell? ⟨g, i * 3, none⟩ = some (.string l[i].st) ∧ w.cell? ⟨g, i * 3 + 1, none⟩ = some (.int .i64 l[i].at') ∧ w.cell? ⟨g, i * 3 + 2, none⟩ = some (.int .i64 l[i].op) := by
  obtain ⟨cs, h1, h2⟩ := H.ex
  have hl := h1.len
  have hc := h1.cap
  have e := encE_at l i hi
  rw [← h2] at e
  have key : ∀ m u, m < 3 → (cs.take (l.length * 3))[i * 3 + m]? = some u → cs[i * 3 + m]? = some u := fun m u hm hu => by
    rw [List.getElem?_take_of_lt (by omega)] at hu; exact hu
  exact ⟨h1.at _ _ (key 0 _ (by omega) e.1), h1.at _ _ (key 1 _ (by omega) e.2.1), h1.at _ _ (key 2 _ (by omega) e.2.2)⟩
theorem Hl.put {h g cap : Nat} {l : List En} {w : World} (H : Hl h g cap l w) {i : Nat} (hi : i < l.length) (x : En) :
    Hl h g cap (l.set i x) (((w.setCell ⟨g, i * 3, none⟩ (.string x.st)).setCell ⟨g, i * 3 + 1, none⟩ (.int .i64 x.at')).setCell ⟨g, i * 3 + 2, none⟩ (.int .i64 x.op)) := by
  obtain ⟨cs, h1, h2⟩ := H.ex
  refine ⟨_, by simpa using ((h1.set (i * 3) (.string x.st)).set (i * 3 + 1) (.int .i64 x.at')).set (i * 3 + 2) (.int .i64 x.op), ?_⟩
  rw [List.length_set, ← encE_set l x i hi, ← h2, List.take_set, List.take_set, List.take_set]
end Go.Proofs.Ytknodkdlphngmax
