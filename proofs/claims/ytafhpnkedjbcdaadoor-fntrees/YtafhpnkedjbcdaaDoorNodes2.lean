/- The contracts of the laws' own measuring and copying of a row of nodes that came in. -/
import Derived.Test.YtafhpnkedjbcdaaDoorNodes1
import Derived.Test.YtafhpnkedjbcdaaDoorInts2
namespace Go.Proofs.YtafhpnkedjbcdaaDoor
open Go.RowKit
open Doc1

/-- A slice of nodes as it came in. -/
inductive ArgN (W : World) : Value → List Nd → Prop
  | nil (a : Option Addr) (cap : Nat) : ArgN W (.slice a 0 cap) []
  | row (b off cap : Nat) (l : List Nd) (hb : b < W.heap.size) (hn : 0 < l.length) (hle : l.length ≤ cap) (hm : cap ≤ maxLen) (hc : ∀ i (h : i < l.length), W.cell? ⟨b, off + i * 3, none⟩ = some (.string l[i].name) ∧ W.cell? ⟨b, off + i * 3 + 1, none⟩ = some (.string l[i].text) ∧ W.cell? ⟨b, off + i * 3 + 2, none⟩ = some (.int .i64 l[i].up)) :
      ArgN W (.slice (some ⟨b, off, none⟩) l.length cap) l
theorem ArgN.later {W W1 : World} {v : Value} {l : List Nd} (h : ArgN W v l) (hb : Below W.heap.size W W1) : ArgN W1 v l := by
  cases h with
  | nil a cap => exact .nil a cap
  | row b off cap p h1 h2 h3 h4 h5 => exact .row b off cap _ (Nat.lt_of_lt_of_le h1 hb.size) h2 h3 h4 (fun i hi => by
      have := h5 i hi
      exact ⟨(World.cell?_of_block (hb.block b h1)).trans this.1, (World.cell?_of_block (hb.block b h1)).trans this.2.1, (World.cell?_of_block (hb.block b h1)).trans this.2.2⟩)
/-- What the first nodes have of letters. -/
def szU (l : List Nd) : Nat → Nat
  | 0 => 0
  | i + 1 => szU l i + ((ndAt' l i).name.size + (ndAt' l i).text.size)
where ndAt' (l : List Nd) (i : Nat) : Nd := l.getD i ⟨ba [], ba [], -1⟩
theorem szU_succ (l : List Nd) (i : Nat) (h : i < l.length) : szU l (i + 1) = szU l i + (l[i].name.size + l[i].text.size) := by
  show szU l i + ((szU.ndAt' l i).name.size + (szU.ndAt' l i).text.size) = _
  unfold szU.ndAt'
  rw [List.getD_eq_getElem?_getD, List.getElem?_eq_getElem h]; rfl
theorem szU_mono (l : List Nd) : ∀ i j, i ≤ j → szU l i ≤ szU l j
  | i, 0, h => by obtain rfl : i = 0 := by omega
                  exact Nat.le_refl _
  | i, j + 1, h => by
    by_cases e : i = j + 1
    · subst e; exact Nat.le_refl _
    · have := szU_mono l i j (by omega)
      show _ ≤ szU l j + _
      omega

theorem ret_i2 {x y : Int} (h : x = y) : Ending.returned (.int .i64 x) = .returned (.int .i64 y) := by rw [h]

theorem make_nodes (n : Nat) (hn : n ≤ 2000000) : ∃ C : Array Value, C.size = n * 3 ∧ ∀ w : World, (Instr.makeSlice 39 (.int .i64 (n : Int)) (.int .i64 (n : Int))).run Tryd.prog w = .ok (.slice (some ⟨w.heap.size, 0, none⟩) n n) (w.alloc (.cells C 53)) := by
  have hinfo : (Tryd.prog.info? 53).map (fun i => (i.zero, i.size, i.bytes)) = some (some (.agg #[.string ⟨#[]⟩, .string ⟨#[]⟩, .int .i64 0]), 3, 40) := by kernel_rfl
  obtain ⟨i0, hi0, hz0, hz1, hz2⟩ := info_parts hinfo
  refine ⟨madeCells (Value.agg #[.string ⟨#[]⟩, .string ⟨#[]⟩, .int .i64 0]).cells (n * i0.size), by rw [size_madeCells, hz1], fun w => ?_⟩
  have := run_make (P := Tryd.prog) w 39 53 i0 (.agg #[.string ⟨#[]⟩, .string ⟨#[]⟩, .int .i64 0]) Tryd.underlying39 hi0 hz0 .i64 .i64 n n (by omega) (Int.le_refl _) (by rw [hz2]; omega) (by omega)
  simpa only [Int.toNat_natCast] using this
/-- What is known in the rounds of the copying. -/
structure NCAt (l : List Nd) (w : World) (k : Nat) (wr : World) : Prop where
  blk : Blk wr w.heap.size (3 * l.length)
  below : Below w.heap.size w wr
  lt : w.heap.size < wr.heap.size
  c : ∀ i (h : i < l.length), i < k → wr.cell? ⟨w.heap.size, i * 3, none⟩ = some (.string l[i].name) ∧ wr.cell? ⟨w.heap.size, i * 3 + 1, none⟩ = some (.string l[i].text) ∧ wr.cell? ⟨w.heap.size, i * 3 + 2, none⟩ = some (.int .i64 l[i].up)
theorem ncat_start {l : List Nd} {w : World} {C : Array Value} (hC : C.size = l.length * 3) : NCAt l w 0 (w.alloc (.cells C 53)) where
  blk := ⟨fun j hj => ⟨C[j]'(by omega), by rw [cell_of_row _ w.heap.size j C _ (0, 0) (heap_alloc_new w _)]; rw [Array.getElem?_eq_getElem (by omega)]⟩, fun j => World.frozen?_alloc_new _ _ _ _⟩
  below := (Below.refl _ _).alloc (Nat.le_refl _) _
  lt := by simp
  c := fun i _ hi => by omega
theorem NCAt.later {l : List Nd} {w wr w1 : World} {k : Nat} (h : NCAt l w k wr) (hb : Below wr.heap.size wr w1) : NCAt l w k w1 where
  blk := h.blk.later hb h.lt
  below := h.below.trans (hb.mono h.below.size)
  lt := Nat.lt_of_lt_of_le h.lt hb.size
  c := fun i hi hk => by
    have := h.c i hi hk
    exact ⟨(World.cell?_of_block (hb.block _ h.lt)).trans this.1, (World.cell?_of_block (hb.block _ h.lt)).trans this.2.1, (World.cell?_of_block (hb.block _ h.lt)).trans this.2.2⟩
theorem NCAt.step {l : List Nd} {w wr : World} {k : Nat} (h : NCAt l w k wr) (hk : k < l.length) : NCAt l w (k + 1) (((wr.setCell ⟨w.heap.size, k * 3, none⟩ (.string l[k].name)).setCell ⟨w.heap.size, k * 3 + 1, none⟩ (.string l[k].text)).setCell ⟨w.heap.size, k * 3 + 2, none⟩ (.int .i64 l[k].up)) where
  blk := ((h.blk.set _ _).set _ _).set _ _
  below := ((h.below.setCell (Nat.le_refl _) _).setCell (Nat.le_refl _) _).setCell (Nat.le_refl _) _
  lt := by simpa [World.setCell] using h.lt
  c := fun i hp hi => by
    by_cases e : i = k
    · subst e
      obtain ⟨x0, hx0⟩ := h.blk.ex (i * 3) (by omega)
      obtain ⟨x1, hx1⟩ := (h.blk.set (i * 3) (.string l[i].name)).ex (i * 3 + 1) (by omega)
      obtain ⟨x2, hx2⟩ := ((h.blk.set (i * 3) (.string l[i].name)).set (i * 3 + 1) (.string l[i].text)).ex (i * 3 + 2) (by omega)
      refine ⟨?_, ?_, World.cell?_setCell_same _ _ _ hx2⟩
      · rw [World.cell?_setCell_other _ _ _ _ (off_ne (by omega)), World.cell?_setCell_other _ _ _ _ (off_ne (by omega))]; exact World.cell?_setCell_same _ _ _ hx0
      · rw [World.cell?_setCell_other _ _ _ _ (off_ne (by omega))]; exact World.cell?_setCell_same _ _ _ hx1
    · have := h.c i hp (by omega)
      refine ⟨?_, ?_, ?_⟩
      · rw [World.cell?_setCell_other _ _ _ _ (off_ne (by omega)), World.cell?_setCell_other _ _ _ _ (off_ne (by omega)), World.cell?_setCell_other _ _ _ _ (off_ne (by omega))]; exact this.1
      · rw [World.cell?_setCell_other _ _ _ _ (off_ne (by omega)), World.cell?_setCell_other _ _ _ _ (off_ne (by omega)), World.cell?_setCell_other _ _ _ _ (off_ne (by omega))]; exact this.2.1
      · rw [World.cell?_setCell_other _ _ _ _ (off_ne (by omega)), World.cell?_setCell_other _ _ _ _ (off_ne (by omega)), World.cell?_setCell_other _ _ _ _ (off_ne (by omega))]; exact this.2.2

end Go.Proofs.YtafhpnkedjbcdaaDoor
