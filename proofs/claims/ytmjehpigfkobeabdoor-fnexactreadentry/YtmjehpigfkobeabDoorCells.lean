/- Rows of cells in a block: as they lie, as they are marked, and what is copied into one. -/
import Derived.Test.YtmjehpigfkobeabDoorNodes1
import Derived.Test.YtmjehpigfkobeabDoorRowsG
import Derived.Laws.MakeOwn
namespace Go.Proofs.YtmjehpigfkobeabDoor
open Go.RowKit
open Doc1

/-- Cells lie in a block, from its beginning. -/
def CLs (w : World) (g : Nat) (cs : List Value) : Prop := ∀ j u, cs[j]? = some u → w.cell? ⟨g, j, none⟩ = some u
theorem CLs.later {w w1 : World} {B g : Nat} {cs : List Value} (h : CLs w g cs) (hb : Below B w w1) (hg : g < B) : CLs w1 g cs := fun j u hu => (World.cell?_of_block (hb.block g hg)).trans (h j u hu)
/-- The mark of a cell: of a text, or of a number. -/
def mkCell (ks : Nat → Bool) (j : Nat) : Value := if ks j then .string (mkT (1 + j)) else .int .i64 ((1 + j : Nat) : Int)
def mkAll (ks : Nat → Bool) (n : Nat) : List Value := (List.range n).map (mkCell ks)
theorem mkAll_at (ks : Nat → Bool) {n j : Nat} (h : j < n) : (mkAll ks n)[j]? = some (mkCell ks j) := by simp [mkAll, h]
/-- So many cells of a block are marked. -/
structure MC (ks : Nat → Bool) (w : World) (g n c : Nat) (wr : World) : Prop where
  blk : Blk wr g n
  grown : w.grownBy wr (some g)
  lt : g < w.heap.size
  c : ∀ j, j < c → wr.cell? ⟨g, j, none⟩ = some (mkCell ks j)
theorem MC.below {ks : Nat → Bool} {w wr w1 : World} {g n c : Nat} (h : MC ks w g n c wr) (hb : Below wr.heap.size wr w1) : MC ks w g n c w1 := by
  have hg : g < wr.heap.size := Nat.lt_of_lt_of_le h.lt h.grown.size
  exact ⟨h.blk.later hb hg, grown_below h.grown hb, h.lt, fun j hj => by rw [World.cell?_of_block (hb.block g hg)]; exact h.c j hj⟩
theorem MC.put {ks : Nat → Bool} {w wr : World} {g n c : Nat} (h : MC ks w g n c wr) (hc : c < n) (v : Value) (hv : v = mkCell ks c) : MC ks w g n (c + 1) (wr.setCell ⟨g, c, none⟩ v) := by
  subst hv
  refine ⟨h.blk.set c _, grown_set h.grown c _, h.lt, fun j hj => ?_⟩
  by_cases e : j = c
  · subst e
    obtain ⟨x, hx⟩ := h.blk.ex j hc
    exact World.cell?_setCell_same _ _ _ hx
  · rw [World.cell?_setCell_other _ _ _ _ (off_ne (Ne.symm e))]; exact h.c j (by omega)
theorem MC.all {ks : Nat → Bool} {w wr : World} {g n : Nat} (h : MC ks w g n n wr) : CLs wr g (mkAll ks n) := fun j u hu => by
  have hj : j < n := by
    have := (List.getElem?_eq_some_iff.1 hu).1
    simpa [mkAll] using this
  rw [mkAll_at ks hj] at hu
  cases hu
  exact h.c j hj
theorem mc_start {ks : Nat → Bool} {w : World} {g n : Nat} (hb : Blk w g n) (hg : g < w.heap.size) : MC ks w g n 0 w := ⟨hb, ⟨rfl, rfl, rfl, Nat.le_refl _, fun _ _ _ => rfl⟩, hg, fun j hj => by omega⟩
theorem mkS {ks : Nat → Bool} {j : Nat} (h : ks j = true) : Value.string (mkT (1 + j)) = mkCell ks j := by unfold mkCell; rw [if_pos h]
theorem mkI {ks : Nat → Bool} {j : Nat} (h : ks j = false) : Value.int .i64 ((1 + j : Nat) : Int) = mkCell ks j := by unfold mkCell; rw [h]; rfl
/-- So many cells of a new block are written: those of a row. -/
structure WC (cs : List Value) (w : World) (c : Nat) (wr : World) : Prop where
  blk : Blk wr w.heap.size cs.length
  below : Below w.heap.size w wr
  lt : w.heap.size < wr.heap.size
  c : ∀ j, j < c → ∀ u, cs[j]? = some u → wr.cell? ⟨w.heap.size, j, none⟩ = some u
theorem wc_start {cs : List Value} {w : World} {C : Array Value} {t : TypeId} (hC : C.size = cs.length) : WC cs w 0 (w.alloc (.cells C t)) where
  blk := ⟨fun j hj => ⟨C[j]'(by omega), by rw [cell_of_row _ w.heap.size j C _ (0, 0) (heap_alloc_new w _)]; rw [Array.getElem?_eq_getElem (by omega)]⟩, fun j => World.frozen?_alloc_new _ _ _ _⟩
  below := (Below.refl _ _).alloc (Nat.le_refl _) _
  lt := by simp
  c := fun j hj => by omega
theorem WC.later {cs : List Value} {w wr w1 : World} {c : Nat} (h : WC cs w c wr) (hb : Below wr.heap.size wr w1) : WC cs w c w1 where
  blk := h.blk.later hb h.lt
  below := h.below.trans (hb.mono h.below.size)
  lt := Nat.lt_of_lt_of_le h.lt hb.size
  c := fun j hj u hu => (World.cell?_of_block (hb.block _ h.lt)).trans (h.c j hj u hu)
theorem WC.put {cs : List Value} {w wr : World} {c : Nat} (h : WC cs w c wr) (v : Value) (hv : cs[c]? = some v) : WC cs w (c + 1) (wr.setCell ⟨w.heap.size, c, none⟩ v) where
  blk := h.blk.set _ _
  below := h.below.setCell (Nat.le_refl _) _
  lt := by simpa [World.setCell] using h.lt
  c := fun j hj u hu => by
    by_cases e : j = c
    · subst e
      rw [hv] at hu; cases hu
      obtain ⟨x, hx⟩ := h.blk.ex j (List.getElem?_eq_some_iff.1 hv).1
      exact World.cell?_setCell_same _ _ _ hx
    · rw [World.cell?_setCell_other _ _ _ _ (off_ne (Ne.symm e))]; exact h.c j (by omega) u hu
theorem WC.all {cs : List Value} {w wr : World} (h : WC cs w cs.length wr) : CLs wr w.heap.size cs := fun j u hu => h.c j (List.getElem?_eq_some_iff.1 hu).1 u hu
/-- A row that an answer owns, opened. -/
theorem own_cat {w : World} {B n sz : Nat} {e : TypeId} {v : Value} {cs : List Value} (h : w.ownsRow B e sz v n cs) (hn : 0 < n) : ∃ g cap, v = .slice (some ⟨g, 0, none⟩) n cap ∧ n ≤ cap ∧ cap ≤ maxLen ∧ B ≤ g ∧ g < w.heap.size ∧ CLs w g cs ∧ Blk w g cs.length := by
  obtain ⟨g, cap, hv, h1, h2, h3, h4, h5⟩ := own_open h hn
  refine ⟨g, cap, hv, h1, h2, h3, h4, h5, fun j hj => ⟨_, h5 j _ (List.getElem?_eq_getElem hj)⟩, fun j => ?_⟩
  rcases h.2 with ⟨_, h0⟩ | ⟨g', cap', cur, hv', hb, hh, _⟩
  · omega
  · rw [hv] at hv'
    cases hv'
    unfold World.frozen?
    simp [hh]
end Go.Proofs.YtmjehpigfkobeabDoor
