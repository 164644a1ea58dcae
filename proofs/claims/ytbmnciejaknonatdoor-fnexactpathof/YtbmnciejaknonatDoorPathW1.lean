/- The contracts of the walker from place to place: a step, and the path. -/
import Derived.Test.YtbmnciejaknonatDoorRowsG
import Derived.Test.YtbmnciejaknonatDoorPath1
import Derived.Deep.RegionHeld3
import Derived.Deep.RegionLaw
import Derived.Deep.AppendLies
import Derived.Maps.AppendAt
import Derived.Great.Walk
namespace Go.Proofs.YtbmnciejaknonatDoor
open Go.RowKit
open Doc1

theorem Tryd.infoOpened : (Tryd.prog.info? 80).map (fun i => (i.zero, i.size, i.bytes)) = some (some (.agg #[.int .i64 0, .int .i64 0]), 2, 16) := by kernel_rfl

/-- What is open, as cells. -/
def opC (l : List (Nat × Nat)) : List Value := l.flatMap fun x => [.int .i64 (x.1 : Int), .int .i64 (x.2 : Int)]
theorem opC_snoc (l : List (Nat × Nat)) (x : Nat × Nat) : opC (l ++ [x]) = opC l ++ [.int .i64 (x.1 : Int), .int .i64 (x.2 : Int)] := by simp [opC]
theorem opC_len (l : List (Nat × Nat)) : (opC l).length = l.length * 2 := by
  induction l with
  | nil => rfl
  | cons n l ih => rw [opC, List.flatMap_cons, List.length_append]; change _ + (opC l).length = _; rw [ih]; simp; omega
/-- The walker stands in a block. -/
structure WkAt (B g : Nat) (v : Value) (q : WS) (k : Nat) (w : World) : Prop where
  c0 : w.cell? ⟨g, 0, none⟩ = some (.int .i64 (k : Int))
  c1 : w.cell? ⟨g, 1, none⟩ = some v
  c2 : w.cell? ⟨g, 2, none⟩ = some (.int .i64 (q.kids : Int))
  fz : ∀ j, w.frozen? ⟨g, j, none⟩ = false
  own : w.ownsRow B 80 2 v q.op.length (opC q.op.reverse)
  ne : v.ownBlock ≠ some g
  le : B ≤ g

theorem step_op_end {B g gg cap k : Nat} {v : Value} {q : WS} {w w1 w2 : World} {o : Obj} (hne : v.ownBlock ≠ some g) (hle : B ≤ g) (lg : g < w1.heap.size) (s1 : B ≤ w1.heap.size)
    (hown : w1.ownsRow B 80 2 v q.op.length (opC q.op.reverse)) (hx1 : ∃ u, w1.cell? ⟨g, 1, none⟩ = some u)
    (d0 : w1.cell? ⟨g, 0, none⟩ = some (.int .i64 ((k : Int) + 1))) (d2 : w1.cell? ⟨g, 2, none⟩ = some (.int .i64 (q.kids : Int))) (df : ∀ j, w1.frozen? ⟨g, j, none⟩ = false) (hb1 : Below B w w1)
    (hown1 : w2.ownsRow B 80 2 (.slice (some ⟨gg, 0, none⟩) (q.op.length + 1) cap) (q.op.length + 1) (opC q.op.reverse ++ [.int .i64 (q.kids : Int), .int .i64 ((k : Int) + 1)]))
    (hgrow : (w1.alloc o).drew.grownBy w2 v.ownBlock) (hat : v.ownBlock = some gg ∨ gg = w1.heap.size + 1) :
    (w2.setCell ⟨g, 1, none⟩ (.slice (some ⟨gg, 0, none⟩) (q.op.length + 1) cap)).cell? ⟨g, 2, none⟩ = some (.int .i64 (q.kids : Int)) ∧ (w2.setCell ⟨g, 1, none⟩ (.slice (some ⟨gg, 0, none⟩) (q.op.length + 1) cap)).frozen? ⟨g, 2, none⟩ = false ∧
    (WkAt B g (.slice (some ⟨gg, 0, none⟩) (q.op.length + 1) cap) ⟨(q.kids, k + 1) :: q.op, 0⟩ (k + 1) ((w2.setCell ⟨g, 1, none⟩ (.slice (some ⟨gg, 0, none⟩) (q.op.length + 1) cap)).setCell ⟨g, 2, none⟩ (.int .i64 0)) ∧
     Below B w ((w2.setCell ⟨g, 1, none⟩ (.slice (some ⟨gg, 0, none⟩) (q.op.length + 1) cap)).setCell ⟨g, 2, none⟩ (.int .i64 0))) := by
  have blk : w2.heap[g]? = w1.heap[g]? := (hgrow.block g (by simp; omega) (Ne.symm hne)).trans (Below.heap_alloc w1 o g lg)
  have hgg : (Value.slice (some ⟨gg, 0, none⟩) (q.op.length + 1) cap).ownBlock ≠ some g := by
    intro e
    simp [Value.ownBlock] at e
    subst e
    rcases hat with h | h
    · exact hne h
    · omega
  have a0 : w2.cell? ⟨g, 0, none⟩ = some (.int .i64 ((k : Int) + 1)) := (World.cell?_of_block blk).trans d0
  have a2 : w2.cell? ⟨g, 2, none⟩ = some (.int .i64 (q.kids : Int)) := (World.cell?_of_block blk).trans d2
  have af : ∀ j, w2.frozen? ⟨g, j, none⟩ = false := fun j => (World.frozen?_of_block blk).trans (df j)
  have hb2 : Below B w w2 := by
    refine (((hb1.alloc s1 o).drew).grown hgrow (by show B ≤ (w1.alloc o).heap.size; simp; omega) (fun j hj => (hown.lt j hj).1))
  have b1 := set_kept (j := 1) (u := .slice (some ⟨gg, 0, none⟩) (q.op.length + 1) cap) hown1 hgg
  refine ⟨by rw [World.cell?_setCell_other _ _ _ _ (off_neP (by omega))]; exact a2, by rw [World.frozen?_setCell]; exact af 2, ⟨?_, ?_, ?_, ?_, ?_, hgg, hle⟩, (hb2.setCell hle _).setCell hle _⟩
  · rw [World.cell?_setCell_other _ _ _ _ (off_neP (by omega)), World.cell?_setCell_other _ _ _ _ (off_neP (by omega)), a0]; rfl
  · rw [World.cell?_setCell_other _ _ _ _ (off_neP (by omega))]
    obtain ⟨u, hu⟩ := hx1
    exact World.cell?_setCell_same _ _ _ ((World.cell?_of_block blk).trans hu)
  · exact World.cell?_setCell_same _ _ _ (u := .int .i64 (q.kids : Int)) (by rw [World.cell?_setCell_other _ _ _ _ (off_neP (by omega))]; exact a2)
  · intro j; rw [World.frozen?_setCell, World.frozen?_setCell]; exact af j
  · have := set_kept (j := 2) (u := .int .i64 0) b1 hgg
    simp only [List.reverse_cons, opC_snoc, List.length_cons]
    exact this

set_option maxRecDepth 100000 in
set_option maxHeartbeats 2000000 in
theorem step_op (B g : Nat) (v : Value) (q : WS) (k : Nat) (c : UInt8) (w : World) (h : WkAt B g v q k w) (hk : k ≤ 1000) (hq : q.op.length ≤ 1000) (hB : B ≤ w.heap.size) (hT : Tab w) (hTB : 0 < B) (ho : opB c = true) :
    Calls Tryd.prog 41 #[.pointer (some ⟨g, 0, none⟩), .int .u8 (c.toNat : Int)] w fun e w' => e = .returned (.tuple #[]) ∧ (∃ v', WkAt B g v' (wst q k c) (k + 1) w') ∧ Below B w w' := by
  obtain ⟨i0, hi0, hz0, hz1, hz2⟩ := info_parts Tryd.infoOpened
  have hc0 := h.c0
  have hf0 := h.fz 0
  have hb1 : Below B w (w.setCell ⟨g, 0, none⟩ (.int .i64 ((k : Int) + 1))) := (Below.refl _ _).setCell h.le _
  have hT1 := hT.low hb1 hTB
  have hk2 := kd_op c
  rw [ho] at hk2
  go_enter Tryd.func41, Tryd.ntmps41
  go_wp2_with (go_at_call 55; refine (kindOf_any _ _ hT1).mono ?_; rintro e w' ⟨rfl, hw⟩; replace hw := hw.symm; subst hw)
  have d0 : (w.setCell ⟨g, 0, none⟩ (.int .i64 ((k : Int) + 1))).cell? ⟨g, 0, none⟩ = some (.int .i64 ((k : Int) + 1)) := World.cell?_setCell_same _ _ _ hc0
  have d1 : (w.setCell ⟨g, 0, none⟩ (.int .i64 ((k : Int) + 1))).cell? ⟨g, 1, none⟩ = some v := by rw [World.cell?_setCell_other _ _ _ _ (by simp)]; exact h.c1
  have d2 : (w.setCell ⟨g, 0, none⟩ (.int .i64 ((k : Int) + 1))).cell? ⟨g, 2, none⟩ = some (.int .i64 (q.kids : Int)) := by rw [World.cell?_setCell_other _ _ _ _ (by simp)]; exact h.c2
  have df : ∀ j, (w.setCell ⟨g, 0, none⟩ (.int .i64 ((k : Int) + 1))).frozen? ⟨g, j, none⟩ = false := fun j => by rw [World.frozen?_setCell]; exact h.fz j
  have hown : (w.setCell ⟨g, 0, none⟩ (.int .i64 ((k : Int) + 1))).ownsRow B 80 2 v q.op.length (opC q.op.reverse) := h.own.kept (row := some g) ⟨rfl, rfl, rfl, by simp [World.setCell], fun j _ hne => Below.heap_setCell _ _ _ _ (by intro e; subst e; exact hne rfl)⟩ (Or.inr h.ne)
  have hle := h.le
  have hne := h.ne
  have s1 : B ≤ (w.setCell ⟨g, 0, none⟩ (.int .i64 ((k : Int) + 1))).heap.size := by simpa [World.setCell] using hB
  clear hT1 hc0 hf0 h hT
  generalize w.setCell ⟨g, 0, none⟩ (.int .i64 ((k : Int) + 1)) = w1 at *
  have lg : g < w1.heap.size := World.block_lt_of_cell? w1 _ d0
  have nn := World.new_ne w1 _ d0
  go_region_law
    ((refine step_append_lies _ (by rfl) _ _ _ (by rfl) B 80 i0 _ 2 16 Tryd.underlying61 hi0 hz0 hz1 hz2 rfl (by omega) v q.op.length (opC q.op.reverse) (by rfl) ((hown.alloc _).drew)
        ⟨w1.heap.size, 0, none⟩ 1 1 [.int .i64 (q.kids : Int), .int .i64 ((k : Int) + 1)] (by rfl) (by rfl) (World.news_of_block (cs := #[.int .i64 (q.kids : Int), .int .i64 ((k : Int) + 1)]) (t := 80) (fr := (0, 0)) (heap_alloc_new w1 _)) (by simp [Value.oneCell'])
        (by omega) (by unfold maxLen; omega) (by omega) (by simp; omega) (w1.heap.size + 1) (by simp) ?_; intro gg cap w2 hown1 hgrow hat hlt; have hfz := (hgrow.frozen_far ⟨g, 1, none⟩ (by simp; omega) (Ne.symm hne)).trans (fz_al w1 _ _ lg (df 1)); have hcz := (hgrow.cell_far ⟨g, 1, none⟩ (by simp; omega) (Ne.symm hne)).trans (cl_al w1 _ _ d1)))
  all_goals
    obtain ⟨e2, f2, R⟩ := step_op_end (q := q) (k := k) hne hle lg s1 hown ⟨_, d1⟩ d0 d2 df hb1 hown1 hgrow hat
    clear hown1 hgrow hat hlt hfz hcz hown d0 d1 d2 df nn lg
    go_wp2
    go_end0
    rw [wst_op ho]
    exact ⟨rfl, ⟨_, R.1⟩, R.2⟩

set_option maxHeartbeats 1000000 in
theorem step_pl (B g : Nat) (v : Value) (q : WS) (k : Nat) (c : UInt8) (w : World) (h : WkAt B g v q k w) (hk : k ≤ 1000) (hT : Tab w) (hTB : 0 < B) (ho : opB c = false) (he : enB c = false) :
    Calls Tryd.prog 41 #[.pointer (some ⟨g, 0, none⟩), .int .u8 (c.toNat : Int)] w fun e w' => e = .returned (.tuple #[]) ∧ (∃ v', WkAt B g v' (wst q k c) (k + 1) w') ∧ Below B w w' := by
  have hc0 := h.c0
  have hf0 := h.fz 0
  have hb1 : Below B w (w.setCell ⟨g, 0, none⟩ (.int .i64 ((k : Int) + 1))) := (Below.refl _ _).setCell h.le _
  have hT1 := hT.low hb1 hTB
  have hk2 := kd_op c
  rw [ho] at hk2
  have hk3 := kd_en c
  rw [he] at hk3
  have R : WkAt B g v q (k + 1) (w.setCell ⟨g, 0, none⟩ (.int .i64 ((k : Int) + 1))) := ⟨World.cell?_setCell_same _ _ _ hc0, by rw [World.cell?_setCell_other _ _ _ _ (off_neP (by omega))]; exact h.c1, by rw [World.cell?_setCell_other _ _ _ _ (off_neP (by omega))]; exact h.c2, fun j => by rw [World.frozen?_setCell]; exact h.fz j, set_kept h.own h.ne, h.ne, h.le⟩
  have HR := hide R
  clear R h
  go_enter Tryd.func41, Tryd.ntmps41
  go_wp2_with (go_at_call 55; refine (kindOf_any _ _ hT1).mono ?_; rintro e w' ⟨rfl, hw⟩; replace hw := hw.symm; subst hw)
  go_end0
  rw [wst_pl ho he]
  exact ⟨rfl, ⟨_, HR.out⟩, hb1⟩

set_option maxHeartbeats 1000000 in
theorem step_en (B g : Nat) (v : Value) (x : Nat × Nat) (l : List (Nat × Nat)) (m k : Nat) (c : UInt8) (w : World) (h : WkAt B g v ⟨x :: l, m⟩ k w) (hk : k ≤ 1000) (hl : l.length ≤ 1000) (hx : x.1 ≤ 1000) (hT : Tab w) (hTB : 0 < B) (he : enB c = true) :
    Calls Tryd.prog 41 #[.pointer (some ⟨g, 0, none⟩), .int .u8 (c.toNat : Int)] w fun e w' => e = .returned (.tuple #[]) ∧ (∃ v', WkAt B g v' (wst ⟨x :: l, m⟩ k c) (k + 1) w') ∧ Below B w w' := by
  have hc0 := h.c0
  have hf0 := h.fz 0
  have hb1 : Below B w (w.setCell ⟨g, 0, none⟩ (.int .i64 ((k : Int) + 1))) := (Below.refl _ _).setCell h.le _
  have hT1 := hT.low hb1 hTB
  have hk2 := kd_op c
  rw [op_of_en he] at hk2
  have hk3 := kd_en c
  rw [he] at hk3
  have hc1 := h.c1
  have hc2 := h.c2
  have hf1 := h.fz 1
  have hf2 := h.fz 2
  have hown := h.own
  have hrev : opC (x :: l).reverse = opC l.reverse ++ [.int .i64 (x.1 : Int), .int .i64 (x.2 : Int)] := by rw [List.reverse_cons, opC_snoc]
  simp only [List.length_cons] at hown
  rw [hrev] at hown
  obtain ⟨gv, cap, rfl, hcp1, hcp2, hgB, hgl, hcell⟩ := own_open hown (by omega)
  have hgne : gv ≠ g := by have := h.ne; simpa [Value.ownBlock] using this
  have hcut := own_cut hown (by rw [opC_len]; simp)
  have cx : w.cell? ⟨gv, l.length * 2, none⟩ = some (.int .i64 (x.1 : Int)) := hcell _ _ (by rw [List.getElem?_append_right (by rw [opC_len]; simp), opC_len]; simp)
  have hnb : (Value.slice (some ⟨gv, 0, none⟩) l.length cap).ownBlock ≠ some g := by simpa [Value.ownBlock] using hgne
  have R : WkAt B g (.slice (some ⟨gv, 0, none⟩) l.length cap) ⟨l, x.1 + 1⟩ (k + 1) (((w.setCell ⟨g, 0, none⟩ (.int .i64 ((k : Int) + 1))).setCell ⟨g, 2, none⟩ (.int .i64 ((x.1 : Int) + 1))).setCell ⟨g, 1, none⟩ (.slice (some ⟨gv, 0, none⟩) l.length cap)) := by
    refine ⟨?_, ?_, ?_, ?_, set_kept (set_kept (set_kept hcut hnb) hnb) hnb, hnb, h.le⟩
    · rw [World.cell?_setCell_other _ _ _ _ (off_neP (by omega)), World.cell?_setCell_other _ _ _ _ (off_neP (by omega))]; exact World.cell?_setCell_same _ _ _ hc0
    · exact World.cell?_setCell_same _ _ _ (u := .slice (some ⟨gv, 0, none⟩) (l.length + 1) cap) (by rw [World.cell?_setCell_other _ _ _ _ (off_neP (by omega)), World.cell?_setCell_other _ _ _ _ (off_neP (by omega))]; exact hc1)
    · rw [World.cell?_setCell_other _ _ _ _ (off_neP (by omega))]
      exact World.cell?_setCell_same _ _ _ (u := .int .i64 (m : Int)) (by rw [World.cell?_setCell_other _ _ _ _ (off_neP (by omega))]; exact hc2)
    · intro j; rw [World.frozen?_setCell, World.frozen?_setCell, World.frozen?_setCell]; exact h.fz j
  have hB3 : Below B w (((w.setCell ⟨g, 0, none⟩ (.int .i64 ((k : Int) + 1))).setCell ⟨g, 2, none⟩ (.int .i64 ((x.1 : Int) + 1))).setCell ⟨g, 1, none⟩ (.slice (some ⟨gv, 0, none⟩) l.length cap)) := (hb1.setCell h.le _).setCell h.le _
  have HR := hide R
  have HB := hide hB3
  clear h R hB3 hb1 hown hcut hcell hrev hnb
  go_enter Tryd.func41, Tryd.ntmps41
  go_wp2_with (first | (go_at_call 55; refine (kindOf_any _ _ hT1).mono ?_; rintro e w' ⟨rfl, hw⟩; replace hw := hw.symm; subst hw))
  go_end0
  rw [wst_en he]
  exact ⟨rfl, ⟨_, HR.out⟩, HB.out⟩
end Go.Proofs.YtbmnciejaknonatDoor
