/- The contract of the laws' own copying of a row of ints. -/
import Derived.Test.YtafhpnkedjbcdaaDoorInts1
import Derived.Laws.MakeOwn
namespace Go.Proofs.YtafhpnkedjbcdaaDoor
open Go.RowKit
open Doc1

/-- A slice of ints as it came in. -/
inductive ArgI (W : World) : Value → List Int → Prop
  | nil (a : Option Addr) (cap : Nat) : ArgI W (.slice a 0 cap) []
  | row (b off cap : Nat) (p : List Int) (hb : b < W.heap.size) (hn : 0 < p.length) (hle : p.length ≤ cap) (hm : cap ≤ maxLen) (hc : ∀ j (h : j < p.length), W.cell? ⟨b, off + j, none⟩ = some (.int .i64 p[j])) : ArgI W (.slice (some ⟨b, off, none⟩) p.length cap) p
theorem ArgI.later {W W1 : World} {v : Value} {p : List Int} (h : ArgI W v p) (hb : Below W.heap.size W W1) : ArgI W1 v p := by
  cases h with
  | nil a cap => exact .nil a cap
  | row b off cap p h1 h2 h3 h4 h5 => exact .row b off cap p (Nat.lt_of_lt_of_le h1 hb.size) h2 h3 h4 (fun j hj => (World.cell?_of_block (hb.block b h1)).trans (h5 j hj))

theorem make_ints (n : Nat) (hn : n ≤ 2000000) : ∃ C : Array Value, C.size = n ∧ ∀ w : World, (Instr.makeSlice 47 (.int .i64 (n : Int)) (.int .i64 (n : Int))).run Tryd.prog w = .ok (.slice (some ⟨w.heap.size, 0, none⟩) n n) (w.alloc (.cells C 3)) := by
  obtain ⟨i0, hi0, hz0, hz1, hz2⟩ := info_parts Tryd.info3
  refine ⟨madeCells (Value.int .i64 0).cells (n * i0.size), by rw [size_madeCells, hz1]; omega, fun w => ?_⟩
  have := run_make (P := Tryd.prog) w 47 3 i0 (.int .i64 0) Tryd.underlying47 hi0 hz0 .i64 .i64 n n (by omega) (Int.le_refl _) (by rw [hz2]; omega) (by omega)
  simpa only [Int.toNat_natCast] using this
/-- What is known in the rounds of the copying. -/
structure CAt (p : List Int) (w : World) (k : Nat) (wr : World) : Prop where
  blk : IBlk wr w.heap.size p.length
  below : Below w.heap.size w wr
  lt : w.heap.size < wr.heap.size
  c : ∀ i (h : i < p.length), i < k → wr.cell? ⟨w.heap.size, i, none⟩ = some (.int .i64 p[i])
theorem cat_start {p : List Int} {w : World} {C : Array Value} (hC : C.size = p.length) : CAt p w 0 (w.alloc (.cells C 3)) where
  blk := ⟨fun j hj => ⟨C[j]'(by omega), by rw [cell_of_row _ w.heap.size j C 3 (0, 0) (heap_alloc_new w _)]; simp [hC, hj]⟩, fun j => World.frozen?_alloc_new _ _ _ _⟩
  below := (Below.refl _ _).alloc (Nat.le_refl _) _
  lt := by simp
  c := fun i _ hi => by omega
theorem CAt.step {p : List Int} {w wr : World} {k : Nat} (h : CAt p w k wr) (hk : k < p.length) : CAt p w (k + 1) (wr.setCell ⟨w.heap.size, k, none⟩ (.int .i64 p[k])) where
  blk := ⟨fun i hi => by
    obtain ⟨x, hx⟩ := h.blk.ex i hi
    by_cases e : i = k
    · subst e; exact ⟨_, World.cell?_setCell_same _ _ _ hx⟩
    · exact ⟨x, by rw [World.cell?_setCell_other _ _ _ _ (off_neP (Ne.symm e))]; exact hx⟩, fun i => by rw [World.frozen?_setCell]; exact h.blk.fz i⟩
  below := h.below.setCell (Nat.le_refl _) _
  lt := by simpa [World.setCell] using h.lt
  c := fun i hp hi => by
    by_cases e : i = k
    · subst e; obtain ⟨x, hx⟩ := h.blk.ex i hk; exact World.cell?_setCell_same _ _ _ hx
    · rw [World.cell?_setCell_other _ _ _ _ (off_neP (Ne.symm e))]; exact h.c i hp (by omega)

end Go.Proofs.YtafhpnkedjbcdaaDoor
