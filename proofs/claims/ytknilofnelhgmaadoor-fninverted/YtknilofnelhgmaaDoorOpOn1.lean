/- The drawing of a change of a text: opOn ends, and tells parts that are small. -/
import Derived.Test.YtknilofnelhgmaaDoorCur2
import Derived.Test.YtknilofnelhgmaaDoorOpSA
import Derived.Test.YtknilofnelhgmaaDoorOpSM
namespace Go.Proofs.YtknilofnelhgmaaDoor
open Go.RowKit
open Doc1

theorem CurX.grown {g : Nat} {C : Value} {i x : Nat} {w w' : World} {r : Option Nat} (h : CurX g C i x w) (hg : w.grownBy w' r) (hr : r ≠ some g) : CurX g C i x w' := by
  have hlt : g < w.heap.size := World.block_lt_of_cell? w _ h.c0
  have e := hg.block g hlt (fun c => hr c.symm)
  exact ⟨(World.cell?_of_block e).trans h.c0, (World.cell?_of_block e).trans h.c1, (World.cell?_of_block e).trans h.c2, fun j => (World.frozen?_of_block e).trans (h.fz j)⟩
def curI (g : Nat) (w : World) : Nat := match w.cell? ⟨g, 1, none⟩ with
  | some (.int _ i) => i.toNat
  | _ => 0
def curS (g : Nat) (w : World) : Nat := match w.cell? ⟨g, 2, none⟩ with
  | some (.int _ i) => i.toNat
  | _ => 0
theorem CurX.i {g : Nat} {C : Value} {i x : Nat} {w : World} (h : CurX g C i x w) : curI g w = i ∧ curS g w = x := by
  unfold curI curS
  rw [h.c1, h.c2]
  exact ⟨by simp, by simp⟩
/-- A part that is drawn is small. -/
def smP (p : Pt) : Prop := (-1 ≤ p.keep ∧ p.keep ≤ 301) ∧ p.put.size ≤ 300 ∧ p.drop.size ≤ 300
/-- Between two rounds. -/
structure OI (g : Nat) (C : Value) (s : ByteArray) (i0 : Nat) (w : World) (at_ i x : Nat) (v : Value) (L : List Pt) (wr : World) : Prop where
  cur : CurX g C i x wr
  gr : w.grownBy wr (some g)
  own : wr.ownsRow w.heap.size 38 3 v L.length (encP L)
  le : at_ ≤ s.size
  sm : ∀ p ∈ L, smP p
  bd : L.length + (s.size - at_) * 8591983173 + farX (codeLen C) i x ≤ 301 * 8591983173
  ib : i ≤ i0 + 3 * L.length
theorem OI.next {g : Nat} {C : Value} {s : ByteArray} {i0 : Nat} {w : World} {at_ i x : Nat} {v : Value} {L : List Pt} {wr : World} (h : OI g C s i0 w at_ i x v L wr) (hC : codeLen C ≤ 1048576) {n i2 x2 : Nat} {p : Pt} {v' : Value} {wr' : World}
    (hc : CurX g C i2 x2 wr') (hg : w.grownBy wr' (some g)) (ho : wr'.ownsRow w.heap.size 38 3 v' (L.length + 1) (encP L ++ encP [p])) (hn : 0 < n) (hl : at_ + n ≤ s.size) (hp : smP p) (hi : i2 ≤ i + 3) :
    OI g C s i0 w (at_ + n) i2 x2 v' (L ++ [p]) wr' ∧ (s.size - (at_ + n)) * 8591983173 + farX (codeLen C) i2 x2 < (s.size - at_) * 8591983173 + farX (codeLen C) i x := by
  have hf := far_le (codeLen C) i2 x2
  have hm : (s.size - (at_ + n)) * 8591983173 + 8591983173 ≤ (s.size - at_) * 8591983173 := by
    have : s.size - at_ = (s.size - (at_ + n)) + n := by omega
    rw [this, Nat.add_mul]
    have : 1 * 8591983173 ≤ n * 8591983173 := Nat.mul_le_mul_right _ hn
    omega
  have hb := h.bd
  have hib := h.ib
  refine ⟨⟨hc, hg, by rw [encP_app, List.length_append]; exact ho, hl, fun q hq => ?_, ?_, ?_⟩, by omega⟩
  · rcases List.mem_append.1 hq with c | c
    · exact h.sm q c
    · rw [List.mem_singleton] at c; rw [c]; exact hp
  · rw [List.length_append, List.length_singleton]; omega
  · rw [List.length_append, List.length_singleton]; omega
theorem OI.stay {g : Nat} {C : Value} {s : ByteArray} {i0 : Nat} {w : World} {at_ i x : Nat} {v : Value} {L : List Pt} {wr : World} (h : OI g C s i0 w at_ i x v L wr) {x2 : Nat} {p : Pt} {v' : Value} {wr' : World}
    (hc : CurX g C (i + 3) x2 wr') (hg : w.grownBy wr' (some g)) (ho : wr'.ownsRow w.heap.size 38 3 v' (L.length + 1) (encP L ++ encP [p])) (hp : smP p) (hx : codeLen C ≤ i → (lT (lT x) / 1099511627776 % 4 = 1 ∧ x2 = lG x)) :
    OI g C s i0 w at_ (i + 3) x2 v' (L ++ [p]) wr' ∧ (s.size - at_) * 8591983173 + farX (codeLen C) (i + 3) x2 < (s.size - at_) * 8591983173 + farX (codeLen C) i x := by
  have hf := far_next (n := codeLen C) (x3 := x2) hx
  have hb := h.bd
  have hib := h.ib
  refine ⟨⟨hc, hg, by rw [encP_app, List.length_append]; exact ho, h.le, fun q hq => ?_, ?_, ?_⟩, by omega⟩
  · rcases List.mem_append.1 hq with c | c
    · exact h.sm q c
    · rw [List.mem_singleton] at c; rw [c]; exact hp
  · rw [List.length_append, List.length_singleton]; omega
  · rw [List.length_append, List.length_singleton]; omega
end Go.Proofs.YtknilofnelhgmaaDoor
