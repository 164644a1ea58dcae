/- Rows of numbers that are made at once and written one by one. -/
import Derived.Test.YtfiefklhhchebaaDoorWit1
import Derived.Deep.MidRow
import Derived.Deep.WholeRow
import Derived.BigRegion
set_option linter.unusedVariables false
namespace Go.Proofs.YtfiefklhhchebaaDoor
open Go.RowKit
open Doc1

/-- A row of n numbers lies in block g, and may be written. -/
structure RnAt (w : World) (g n : Nat) (f : Nat → Int) : Prop where
  c : ∀ j, j < n → w.cell? ⟨g, j, none⟩ = some (.int .i64 (f j))
  z : ∀ j, j < n → w.frozen? ⟨g, j, none⟩ = false
  l : g < w.heap.size
theorem RnAt.congr {w : World} {g n : Nat} {f f' : Nat → Int} (h : RnAt w g n f) (he : ∀ j, j < n → f j = f' j) : RnAt w g n f' := ⟨fun j hj => by rw [← he j hj]; exact h.c j hj, h.z, h.l⟩
theorem RnAt.set {w : World} {g n : Nat} {f : Nat → Int} (h : RnAt w g n f) {j : Nat} (v : Int) (hj : j < n) : RnAt (w.setCell ⟨g, j, none⟩ (.int .i64 v)) g n (fun i => if i = j then v else f i) := by
  refine ⟨fun i hi => ?_, fun i hi => by rw [World.frozen?_setCell]; exact h.z i hi, by rw [World.size_setCell]; exact h.l⟩
  by_cases he : i = j
  · subst he
    rw [if_pos rfl]
    exact World.cell?_setCell_same _ _ _ (h.c i hi)
  · rw [if_neg he, World.cell?_setCell_other _ _ _ _ (by simp only [ne_eq, Addr.mk.injEq, true_and, and_true]; omega)]
    exact h.c i hi
theorem RnAt.later {w w1 : World} {g n : Nat} {f : Nat → Int} (h : RnAt w g n f) (hb : Below w.heap.size w w1) : RnAt w1 g n f := by
  refine ⟨fun j hj => (World.cell?_of_block (hb.block g h.l)).trans (h.c j hj), fun j hj => ?_, Nat.lt_of_lt_of_le h.l hb.size⟩
  have := h.z j hj
  unfold World.frozen? at this ⊢
  rw [hb.block g h.l]
  exact this
theorem RnAt.drew {w : World} {g n : Nat} {f : Nat → Int} (h : RnAt w g n f) : RnAt w.drew g n f := h.later (Below.refl _ _).drew
theorem RnAt.drewN {w : World} {g n : Nat} {f : Nat → Int} (h : RnAt w g n f) (k : Nat) : RnAt (w.drewN k) g n f := h.later (below_dN (Below.refl _ _) k)
theorem RnAt.grown {w w1 : World} {g g' n : Nat} {f : Nat → Int} (h : RnAt w g n f) (hg : w.grownBy w1 (some g')) (hne : g' ≠ g) : RnAt w1 g n f := by
  have he := hg.block g h.l (fun e => hne (Option.some.inj e).symm)
  refine ⟨fun j hj => (World.cell?_of_block he).trans (h.c j hj), fun j hj => ?_, Nat.lt_of_lt_of_le h.l hg.size⟩
  have := h.z j hj
  unfold World.frozen? at this ⊢
  rw [he]
  exact this
theorem int_bytes : (Tryd.prog.info? 3).map (fun i => (i.zero, i.size, i.bytes)) = some (some (.int .i64 0), 1, 8) := by kernel_rfl
theorem ints_made (n : Nat) (hn : n ≤ 1000000) (w : World) (k : IntKind) : (Instr.makeSlice 25 (.int k (n : Int)) (.int k (n : Int))).run Tryd.prog w = .ok (.slice (some ⟨w.heap.size, 0, none⟩) n n) (w.alloc (.cells (madeCells #[.int .i64 0] n) 3)) := by
  have hi := int_bytes
  cases hq : Tryd.prog.info? 3 with
  | none => rw [hq] at hi; cases hi
  | some i =>
    rw [hq] at hi
    simp only [Option.map_some, Option.some.injEq, Prod.mk.injEq] at hi
    have := run_make (P := Tryd.prog) w 25 3 i _ (by kernel_rfl) hq hi.1 k k (n : Int) (n : Int) (by omega) (Int.le_refl _) (by rw [hi.2.2]; omega) (by omega)
    rw [this]
    simp only [Int.toNat_natCast, hi.2.1, Nat.mul_one]
    rfl
theorem ints_new (n : Nat) (w : World) (t : TypeId) : RnAt (w.alloc (.cells (madeCells #[.int .i64 0] n) t)) w.heap.size n (fun _ => 0) := by
  have hh := heap_alloc_new w (.cells (madeCells #[.int .i64 0] n) t)
  refine ⟨fun j hj => ?_, fun j hj => frozen_of_row _ _ _ _ _ hh, by simp⟩
  rw [cell_of_row _ _ _ _ _ _ hh]
  unfold madeCells
  rw [Array.getElem?_map, Array.getElem?_range, if_pos hj]
  simp [Nat.mod_one]
end Go.Proofs.YtfiefklhhchebaaDoor
