/- The contracts of the walker from place to place: a step, and the path. The contracts of the walker's path and of impl.PathOf. The contracts of spec.l2Path and spec.PathOf. -/
import Derived.Test.YtafhpnkedjbcdaaDoorRowsG
import Derived.Test.YtafhpnkedjbcdaaDoorPathM
import Derived.Deep.RegionHeld3
import Derived.Deep.RegionLaw
import Derived.Deep.AppendLies
import Derived.Maps.AppendAt
import Derived.Great.Walk
import Derived.Test.YtafhpnkedjbcdaaDoorWalks5
namespace Go.Proofs.YtafhpnkedjbcdaaDoor
open Go.RowKit
open Doc1

theorem Tryd.infoOpened : (Tryd.prog.info? 139).map (fun i => (i.zero, i.size, i.bytes)) = some (some (.agg #[.int .i64 0, .int .i64 0]), 2, 16) := by kernel_rfl

/-- What is open, as cells. -/
def opC (l : List (Nat × Nat)) : List Value := l.flatMap fun x => [.int .i64 (x.1 : Int), .int .i64 (x.2 : Int)]
theorem opC_snoc (l : List (Nat × Nat)) (x : Nat × Nat) : opC (l ++ [x]) = opC l ++ [.int .i64 (x.1 : Int), .int .i64 (x.2 : Int)] := by simp [opC]
theorem opC_len (l : List (Nat × Nat)) : (opC l).length = l.length * 2 := by
  induction l with
  | nil => rfl
  | cons n l ih => rw [opC, List.flatMap_cons, List.length_append]; change _ + (opC l).length = _; rw [ih]; simp; omega
/-- The walker stands in a block. -/
structure WkAt (B g : Nat) (v : Value) (q : WS) (k : Nat) (w : World) : Prop where
  c0 : w.cell? ⟨g, 0, none⟩ = some (.int .i64 (k : Int))
  c1 : w.cell? ⟨g, 1, none⟩ = some v
  c2 : w.cell? ⟨g, 2, none⟩ = some (.int .i64 (q.kids : Int))
  fz : ∀ j, w.frozen? ⟨g, j, none⟩ = false
  own : w.ownsRow B 139 2 v q.op.length (opC q.op.reverse)
  ne : v.ownBlock ≠ some g
  le : B ≤ g

theorem step_op_end {B g gg cap k : Nat} {v : Value} {q : WS} {w w1 w2 : World} {o : Obj} (hne : v.ownBlock ≠ some g) (hle : B ≤ g) (lg : g < w1.heap.size) (s1 : B ≤ w1.heap.size)
    (hown : w1.ownsRow B 139 2 v q.op.length (opC q.op.reverse)) (hx1 : ∃ u, w1.cell? ⟨g, 1, none⟩ = some u)
    (d0 : w1.cell? ⟨g, 0, none⟩ = some (.int .i64 ((k : Int) + 1))) (d2 : w1.cell? ⟨g, 2, none⟩ = some (.int .i64 (q.kids : Int))) (df : ∀ j, w1.frozen? ⟨g, j, none⟩ = false) (hb1 : Below B w w1)
    (hown1 : w2.ownsRow B 139 2 (.slice (some ⟨gg, 0, none⟩) (q.op.length + 1) cap) (q.op.length + 1) (opC q.op.reverse ++ [.int .i64 (q.kids : Int), .int .i64 ((k : Int) + 1)]))
    (hgrow : (w1.alloc o).drew.grownBy w2 v.ownBlock) (hat : v.ownBlock = some gg ∨ gg = w1.heap.size + 1) :
    (w2.setCell ⟨g, 1, none⟩ (.slice (some ⟨gg, 0, none⟩) (q.op.length + 1) cap)).cell? ⟨g, 2, none⟩ = some (.int .i64 (q.kids : Int)) ∧ (w2.setCell ⟨g, 1, none⟩ (.slice (some ⟨gg, 0, none⟩) (q.op.length + 1) cap)).frozen? ⟨g, 2, none⟩ = false ∧
    (WkAt B g (.slice (some ⟨gg, 0, none⟩) (q.op.length + 1) cap) ⟨(q.kids, k + 1) :: q.op, 0⟩ (k + 1) ((w2.setCell ⟨g, 1, none⟩ (.slice (some ⟨gg, 0, none⟩) (q.op.length + 1) cap)).setCell ⟨g, 2, none⟩ (.int .i64 0)) ∧
     Below B w ((w2.setCell ⟨g, 1, none⟩ (.slice (some ⟨gg, 0, none⟩) (q.op.length + 1) cap)).setCell ⟨g, 2, none⟩ (.int .i64 0))) := by
  have blk : w2.heap[g]? = w1.heap[g]? := (hgrow.block g (by simp; omega) (Ne.symm hne)).trans (Below.heap_alloc w1 o g lg)
  have hgg : (Value.slice (some ⟨gg, 0, none⟩) (q.op.length + 1) cap).ownBlock ≠ some g := by
    intro e
    simp [Value.ownBlock] at e
    subst e
    rcases hat with h | h
    · exact hne h
    · omega
  have a0 : w2.cell? ⟨g, 0, none⟩ = some (.int .i64 ((k : Int) + 1)) := (World.cell?_of_block blk).trans d0
  have a2 : w2.cell? ⟨g, 2, none⟩ = some (.int .i64 (q.kids : Int)) := (World.cell?_of_block blk).trans d2
  have af : ∀ j, w2.frozen? ⟨g, j, none⟩ = false := fun j => (World.frozen?_of_block blk).trans (df j)
  have hb2 : Below B w w2 := by
    refine (((hb1.alloc s1 o).drew).grown hgrow (by show B ≤ (w1.alloc o).heap.size; simp; omega) (fun j hj => (hown.lt j hj).1))
  have b1 := set_kept (j := 1) (u := .slice (some ⟨gg, 0, none⟩) (q.op.length + 1) cap) hown1 hgg
  refine ⟨by rw [World.cell?_setCell_other _ _ _ _ (off_neP (by omega))]; exact a2, by rw [World.frozen?_setCell]; exact af 2, ⟨?_, ?_, ?_, ?_, ?_, hgg, hle⟩, (hb2.setCell hle _).setCell hle _⟩
  · rw [World.cell?_setCell_other _ _ _ _ (off_neP (by omega)), World.cell?_setCell_other _ _ _ _ (off_neP (by omega)), a0]; rfl
  · rw [World.cell?_setCell_other _ _ _ _ (off_neP (by omega))]
    obtain ⟨u, hu⟩ := hx1
    exact World.cell?_setCell_same _ _ _ ((World.cell?_of_block blk).trans hu)
  · exact World.cell?_setCell_same _ _ _ (u := .int .i64 (q.kids : Int)) (by rw [World.cell?_setCell_other _ _ _ _ (off_neP (by omega))]; exact a2)
  · intro j; rw [World.frozen?_setCell, World.frozen?_setCell]; exact af j
  · have := set_kept (j := 2) (u := .int .i64 0) b1 hgg
    simp only [List.reverse_cons, opC_snoc, List.length_cons]
    exact this

set_option maxRecDepth 100000 in
set_option maxHeartbeats 2000000 in
theorem step_op (B g : Nat) (v : Value) (q : WS) (k : Nat) (c : UInt8) (w : World) (h : WkAt B g v q k w) (hk : k ≤ 1000) (hq : q.op.length ≤ 1000) (hB : B ≤ w.heap.size) (hT : Tab w) (hTB : 0 < B) (ho : opB c = true) :
    Calls Tryd.prog 85 #[.pointer (some ⟨g, 0, none⟩), .int .u8 (c.toNat : Int)] w fun e w' => e = .returned (.tuple #[]) ∧ (∃ v', WkAt B g v' (wst q k c) (k + 1) w') ∧ Below B w w' := by
  obtain ⟨i0, hi0, hz0, hz1, hz2⟩ := info_parts Tryd.infoOpened
  have hc0 := h.c0
  have hf0 := h.fz 0
  have hb1 : Below B w (w.setCell ⟨g, 0, none⟩ (.int .i64 ((k : Int) + 1))) := (Below.refl _ _).setCell h.le _
  have hT1 := hT.low hb1 hTB
  have hk2 := kd_op c
  rw [ho] at hk2
  go_enter Tryd.func85, Tryd.ntmps85
  go_wp2_with (go_at_call 59; refine (kindOf_any _ _ hT1).mono ?_; rintro e w' ⟨rfl, hw⟩; replace hw := hw.symm; subst hw)
  have d0 : (w.setCell ⟨g, 0, none⟩ (.int .i64 ((k : Int) + 1))).cell? ⟨g, 0, none⟩ = some (.int .i64 ((k : Int) + 1)) := World.cell?_setCell_same _ _ _ hc0
  have d1 : (w.setCell ⟨g, 0, none⟩ (.int .i64 ((k : Int) + 1))).cell? ⟨g, 1, none⟩ = some v := by rw [World.cell?_setCell_other _ _ _ _ (by simp)]; exact h.c1
  have d2 : (w.setCell ⟨g, 0, none⟩ (.int .i64 ((k : Int) + 1))).cell? ⟨g, 2, none⟩ = some (.int .i64 (q.kids : Int)) := by rw [World.cell?_setCell_other _ _ _ _ (by simp)]; exact h.c2
  have df : ∀ j, (w.setCell ⟨g, 0, none⟩ (.int .i64 ((k : Int) + 1))).frozen? ⟨g, j, none⟩ = false := fun j => by rw [World.frozen?_setCell]; exact h.fz j
  have hown : (w.setCell ⟨g, 0, none⟩ (.int .i64 ((k : Int) + 1))).ownsRow B 139 2 v q.op.length (opC q.op.reverse) := h.own.kept (row := some g) ⟨rfl, rfl, rfl, by simp [World.setCell], fun j _ hne => Below.heap_setCell _ _ _ _ (by intro e; subst e; exact hne rfl)⟩ (Or.inr h.ne)
  have hle := h.le
  have hne := h.ne
  have s1 : B ≤ (w.setCell ⟨g, 0, none⟩ (.int .i64 ((k : Int) + 1))).heap.size := by simpa [World.setCell] using hB
  clear hT1 hc0 hf0 h hT
  generalize w.setCell ⟨g, 0, none⟩ (.int .i64 ((k : Int) + 1)) = w1 at *
  have lg : g < w1.heap.size := World.block_lt_of_cell? w1 _ d0
  have nn := World.new_ne w1 _ d0
  go_region_law
    ((refine step_append_lies _ (by rfl) _ _ _ (by rfl) B 139 i0 _ 2 16 Tryd.underlying96 hi0 hz0 hz1 hz2 rfl (by omega) v q.op.length (opC q.op.reverse) (by rfl) ((hown.alloc _).drew)
        ⟨w1.heap.size, 0, none⟩ 1 1 [.int .i64 (q.kids : Int), .int .i64 ((k : Int) + 1)] (by rfl) (by rfl) (World.news_of_block (cs := #[.int .i64 (q.kids : Int), .int .i64 ((k : Int) + 1)]) (t := 139) (fr := (0, 0)) (heap_alloc_new w1 _)) (by simp [Value.oneCell'])
        (by omega) (by unfold maxLen; omega) (by omega) (by simp; omega) (w1.heap.size + 1) (by simp) ?_; intro gg cap w2 hown1 hgrow hat hlt; have hfz := (hgrow.frozen_far ⟨g, 1, none⟩ (by simp; omega) (Ne.symm hne)).trans (fz_al w1 _ _ lg (df 1)); have hcz := (hgrow.cell_far ⟨g, 1, none⟩ (by simp; omega) (Ne.symm hne)).trans (cl_al w1 _ _ d1)))
  all_goals
    obtain ⟨e2, f2, R⟩ := step_op_end (q := q) (k := k) hne hle lg s1 hown ⟨_, d1⟩ d0 d2 df hb1 hown1 hgrow hat
    clear hown1 hgrow hat hlt hfz hcz hown d0 d1 d2 df nn lg
    go_wp2
    go_end0
    rw [wst_op ho]
    exact ⟨rfl, ⟨_, R.1⟩, R.2⟩

set_option maxHeartbeats 1000000 in
theorem step_pl (B g : Nat) (v : Value) (q : WS) (k : Nat) (c : UInt8) (w : World) (h : WkAt B g v q k w) (hk : k ≤ 1000) (hT : Tab w) (hTB : 0 < B) (ho : opB c = false) (he : enB c = false) :
    Calls Tryd.prog 85 #[.pointer (some ⟨g, 0, none⟩), .int .u8 (c.toNat : Int)] w fun e w' => e = .returned (.tuple #[]) ∧ (∃ v', WkAt B g v' (wst q k c) (k + 1) w') ∧ Below B w w' := by
  have hc0 := h.c0
  have hf0 := h.fz 0
  have hb1 : Below B w (w.setCell ⟨g, 0, none⟩ (.int .i64 ((k : Int) + 1))) := (Below.refl _ _).setCell h.le _
  have hT1 := hT.low hb1 hTB
  have hk2 := kd_op c
  rw [ho] at hk2
  have hk3 := kd_en c
  rw [he] at hk3
  have R : WkAt B g v q (k + 1) (w.setCell ⟨g, 0, none⟩ (.int .i64 ((k : Int) + 1))) := ⟨World.cell?_setCell_same _ _ _ hc0, by rw [World.cell?_setCell_other _ _ _ _ (off_neP (by omega))]; exact h.c1, by rw [World.cell?_setCell_other _ _ _ _ (off_neP (by omega))]; exact h.c2, fun j => by rw [World.frozen?_setCell]; exact h.fz j, set_kept h.own h.ne, h.ne, h.le⟩
  have HR := hide R
  clear R h
  go_enter Tryd.func85, Tryd.ntmps85
  go_wp2_with (go_at_call 59; refine (kindOf_any _ _ hT1).mono ?_; rintro e w' ⟨rfl, hw⟩; replace hw := hw.symm; subst hw)
  go_end0
  rw [wst_pl ho he]
  exact ⟨rfl, ⟨_, HR.out⟩, hb1⟩

set_option maxHeartbeats 1000000 in
theorem step_en (B g : Nat) (v : Value) (x : Nat × Nat) (l : List (Nat × Nat)) (m k : Nat) (c : UInt8) (w : World) (h : WkAt B g v ⟨x :: l, m⟩ k w) (hk : k ≤ 1000) (hl : l.length ≤ 1000) (hx : x.1 ≤ 1000) (hT : Tab w) (hTB : 0 < B) (he : enB c = true) :
    Calls Tryd.prog 85 #[.pointer (some ⟨g, 0, none⟩), .int .u8 (c.toNat : Int)] w fun e w' => e = .returned (.tuple #[]) ∧ (∃ v', WkAt B g v' (wst ⟨x :: l, m⟩ k c) (k + 1) w') ∧ Below B w w' := by
  have hc0 := h.c0
  have hf0 := h.fz 0
  have hb1 : Below B w (w.setCell ⟨g, 0, none⟩ (.int .i64 ((k : Int) + 1))) := (Below.refl _ _).setCell h.le _
  have hT1 := hT.low hb1 hTB
  have hk2 := kd_op c
  rw [op_of_en he] at hk2
  have hk3 := kd_en c
  rw [he] at hk3
  have hc1 := h.c1
  have hc2 := h.c2
  have hf1 := h.fz 1
  have hf2 := h.fz 2
  have hown := h.own
  have hrev : opC (x :: l).reverse = opC l.reverse ++ [.int .i64 (x.1 : Int), .int .i64 (x.2 : Int)] := by rw [List.reverse_cons, opC_snoc]
  simp only [List.length_cons] at hown
  rw [hrev] at hown
  obtain ⟨gv, cap, rfl, hcp1, hcp2, hgB, hgl, hcell⟩ := own_open hown (by omega)
  have hgne : gv ≠ g := by have := h.ne; simpa [Value.ownBlock] using this
  have hcut := own_cut hown (by rw [opC_len]; simp)
  have cx : w.cell? ⟨gv, l.length * 2, none⟩ = some (.int .i64 (x.1 : Int)) := hcell _ _ (by rw [List.getElem?_append_right (by rw [opC_len]; simp), opC_len]; simp)
  have hnb : (Value.slice (some ⟨gv, 0, none⟩) l.length cap).ownBlock ≠ some g := by simpa [Value.ownBlock] using hgne
  have R : WkAt B g (.slice (some ⟨gv, 0, none⟩) l.length cap) ⟨l, x.1 + 1⟩ (k + 1) (((w.setCell ⟨g, 0, none⟩ (.int .i64 ((k : Int) + 1))).setCell ⟨g, 2, none⟩ (.int .i64 ((x.1 : Int) + 1))).setCell ⟨g, 1, none⟩ (.slice (some ⟨gv, 0, none⟩) l.length cap)) := by
    refine ⟨?_, ?_, ?_, ?_, set_kept (set_kept (set_kept hcut hnb) hnb) hnb, hnb, h.le⟩
    · rw [World.cell?_setCell_other _ _ _ _ (off_neP (by omega)), World.cell?_setCell_other _ _ _ _ (off_neP (by omega))]; exact World.cell?_setCell_same _ _ _ hc0
    · exact World.cell?_setCell_same _ _ _ (u := .slice (some ⟨gv, 0, none⟩) (l.length + 1) cap) (by rw [World.cell?_setCell_other _ _ _ _ (off_neP (by omega)), World.cell?_setCell_other _ _ _ _ (off_neP (by omega))]; exact hc1)
    · rw [World.cell?_setCell_other _ _ _ _ (off_neP (by omega))]
      exact World.cell?_setCell_same _ _ _ (u := .int .i64 (m : Int)) (by rw [World.cell?_setCell_other _ _ _ _ (off_neP (by omega))]; exact hc2)
    · intro j; rw [World.frozen?_setCell, World.frozen?_setCell, World.frozen?_setCell]; exact h.fz j
  have hB3 : Below B w (((w.setCell ⟨g, 0, none⟩ (.int .i64 ((k : Int) + 1))).setCell ⟨g, 2, none⟩ (.int .i64 ((x.1 : Int) + 1))).setCell ⟨g, 1, none⟩ (.slice (some ⟨gv, 0, none⟩) l.length cap)) := (hb1.setCell h.le _).setCell h.le _
  have HR := hide R
  have HB := hide hB3
  clear h R hB3 hb1 hown hcut hcell hrev hnb
  go_enter Tryd.func85, Tryd.ntmps85
  go_wp2_with (first | (go_at_call 59; refine (kindOf_any _ _ hT1).mono ?_; rintro e w' ⟨rfl, hw⟩; replace hw := hw.symm; subst hw))
  go_end0
  rw [wst_en he]
  exact ⟨rfl, ⟨_, HR.out⟩, HB.out⟩
end Go.Proofs.YtafhpnkedjbcdaaDoor

namespace Go.Proofs.YtafhpnkedjbcdaaDoor
open Go.RowKit
open Doc1

def inn (l : List (Nat × Nat)) : Nat := match l.getLast? with | some x => x.2 | none => 0
def nums (l : List (Nat × Nat)) : List Value := l.map fun x => Value.int .i64 (x.1 : Int)
theorem inn_snoc (l : List (Nat × Nat)) (x : Nat × Nat) : inn (l ++ [x]) = x.2 := by simp [inn]
theorem nums_snoc (l : List (Nat × Nat)) (x : Nat × Nat) : nums (l ++ [x]) = nums l ++ [.int .i64 (x.1 : Int)] := by simp [nums]
theorem inn_rev (l : List (Nat × Nat)) : inn l.reverse = (l.headD (0, 0)).2 := by
  cases l with
  | nil => rfl
  | cons a l => simp [inn]
theorem inn_le {l : List (Nat × Nat)} {M : Nat} (h : ∀ x ∈ l, x.1 ≤ M ∧ x.2 ≤ M) : inn l ≤ M := by
  unfold inn
  split
  · rename_i x hx; exact (h x (List.mem_of_getLast? hx)).2
  · omega
theorem path_cells (q : WS) (k : Nat) : ints (pathL q k) = nums q.op.reverse ++ [.int .i64 ((k : Int) - (inn q.op.reverse : Int))] := by
  rw [inn_rev]; simp [ints, pathL, nums]
theorem path_len (q : WS) (k : Nat) : (pathL q k).length = q.op.length + 1 := by simp [pathL]
theorem opC_at (l : List (Nat × Nat)) : ∀ i (h : i < l.length), (opC l)[i * 2]? = some (.int .i64 (l[i].1 : Int)) ∧ (opC l)[i * 2 + 1]? = some (.int .i64 (l[i].2 : Int)) := by
  induction l with
  | nil => intro i h; simp at h
  | cons n l ih =>
    intro i h
    have e : opC (n :: l) = [.int .i64 (n.1 : Int), .int .i64 (n.2 : Int)] ++ opC l := by simp [opC]
    cases i with
    | zero => rw [e]; simp
    | succ i =>
      have := ih i (by simpa using h)
      rw [e, show (i + 1) * 2 = 2 + i * 2 by omega, show 2 + i * 2 + 1 = 2 + (i * 2 + 1) by omega]
      rw [List.getElem?_append_right (by simp), List.getElem?_append_right (by simp)]
      simpa using this

/-- What is known in the rounds of path. -/
structure RAt (R : List (Nat × Nat)) (w : World) (v : Value) (i : Nat) (wr : World) : Prop where
  hi : i ≤ R.length
  own : wr.ownsRow w.heap.size 3 1 v i (nums (R.take i))
  below : Below w.heap.size w wr

set_option maxRecDepth 100000 in
set_option maxHeartbeats 2000000 in
theorem path_any (B g : Nat) (v : Value) (q : WS) (k : Nat) (w : World) (h : WkAt B g v q k w) (hk : k ≤ 1000) (hq : q.op.length ≤ 1000) (hx : ∀ x ∈ q.op, x.1 ≤ 1000 ∧ x.2 ≤ 1000) :
    Calls Tryd.prog 86 #[.pointer (some ⟨g, 0, none⟩)] w fun e w' => ∃ v', e = .returned v' ∧ w'.ownsRow w.heap.size 3 1 v' (pathL q k).length (ints (pathL q k)) ∧ Below w.heap.size w w' := by
  obtain ⟨i0, hi0, hz0, hz1, hz2⟩ := info_parts Tryd.info3
  have lg : g < w.heap.size := World.block_lt_of_cell? w _ h.c0
  have hc0 := h.c0
  have hc1 := h.c1
  obtain ⟨R, hR⟩ : ∃ R, R = q.op.reverse := ⟨_, rfl⟩
  have hRx : Hid (∀ x ∈ R, x.1 ≤ 1000 ∧ x.2 ≤ 1000) := hide (fun x hx' => hx x (by rw [hR] at hx'; simpa using hx'))
  have hRl : R.length = q.op.length := by rw [hR]; simp
  have hP := path_cells q k
  have hPl := path_len q k
  rw [← hR] at hP
  rw [← hRl] at hPl hq
  have hown := h.own
  rw [← hR, ← hRl] at hown
  have hv : ∃ a cap, v = .slice a R.length cap ∧ R.length ≤ cap ∧ cap ≤ maxLen := by
    rcases hown.2 with ⟨rfl, h0⟩ | ⟨g, cap, cur, hv, hb, hh, hle, hm, hs, ht⟩
    · exact ⟨none, 0, by rw [h0], by omega, by unfold maxLen; omega⟩
    · exact ⟨_, cap, hv, hle, hm⟩
  have hcell : Hid (∀ i (hi : i < R.length), ∃ gv cap, v = .slice (some ⟨gv, 0, none⟩) R.length cap ∧ gv < w.heap.size ∧ w.cell? ⟨gv, i * 2, none⟩ = some (.int .i64 (R[i].1 : Int)) ∧ w.cell? ⟨gv, i * 2 + 1, none⟩ = some (.int .i64 (R[i].2 : Int))) := hide (fun i hi => by
    obtain ⟨gv, cap, hv, -, -, -, hl, hc⟩ := own_open hown (by omega)
    exact ⟨gv, cap, hv, hl, hc _ _ (opC_at R i hi).1, hc _ _ (opC_at R i hi).2⟩)
  clear hown h hx hR hRl
  obtain ⟨av, cv, rfl, hcv1, hcv2⟩ := hv
  have HP := hide hP
  have HPl := hide hPl
  clear hP hPl
  go_enter Tryd.func86, Tryd.ntmps86
  go_wp2
  go_loopw [3, 4, 12] (fun u n i wr => ∃ k : Nat, i = .int .i64 k ∧ n = .int .i64 (inn (R.take k) : Int) ∧ RAt R w u k wr) (fun _ _ i _ => R.length - (intOf i).toNat)
  case atStart => exact ⟨0, rfl, rfl, Nat.zero_le _, World.ownsRow_nil _ _ _ _, Below.refl _ _⟩
  case round =>
    obtain ⟨i, rfl, rfl, hat⟩ := hrel
    have hi := hat.hi
    by_cases hlt : i < R.length
    · obtain ⟨gv, cap', hv, hl, e0, e1⟩ := hcell.out i hlt
      injection hv with hv1 hv2 hv3
      subst hv1 hv3
      have f0 := (World.cell?_of_block (a := ⟨gv, i * 2, none⟩) (hat.below.block gv hl)).trans e0
      have f1 := (World.cell?_of_block (a := ⟨gv, i * 2 + 1, none⟩) (hat.below.block gv hl)).trans e1
      have hown := hat.own
      have hbel := hat.below
      have hsz := hat.below.size
      have hb := hRx.out R[i] (List.getElem_mem hlt)
      have T : R.take (i + 1) = R.take i ++ [R[i]] := List.take_succ_eq_append_getElem hlt
      have HT := hide T
      clear hat e0 e1 T hcell
      go_wp2_with (at_builtin; refine wpList_append_own _ rfl _ _ 47 rfl w.heap.size 3 i0 (.int .i64 0) 1 8 Tryd.underlying47 hi0 hz0 hz1 hz2 rfl (by decide) _ _ _ rfl ((hown.alloc _).alloc _) ⟨wr.heap.size + 1, 0, none⟩ 1 1 [.int .i64 (R[i].1 : Int)] rfl rfl ?c1 ?c2 ?c3 ?c4 ?c5 ?_)
      all_goals try (first | exact cell_two_new _ _ _ _ | exact cell_one_new _ _ _ | rfl | (intro u hu; simp at hu; subst hu; rfl) | (unfold maxLen; omega) | omega | (simp; omega))
      intro v' w2 hown' hgrow _
      have A : RAt R w v' (i + 1) w2 := ⟨by omega, by rw [HT.out, nums_snoc]; exact hown', below_append (hbel.alloc hsz _) (hown.alloc _) (by simp; omega) hgrow⟩
      have d1 : w2.cell? ⟨wr.heap.size, 1, none⟩ = some (.int .i64 (R[i].2 : Int)) := by
        refine (World.cell?_of_block (hgrow.block wr.heap.size (by simp; omega) ?_)).trans ?_
        · intro e
          have := hown.lt _ e.symm
          omega
        · rw [World.cell?_of_block (Below.heap_alloc _ _ _ (by simp)), World.cell?_alloc_at _ _ _ _ rfl]; rfl
      have HA := hide A
      clear hown' hgrow A hown
      go_wp2
      refine ⟨⟨i + 1, by go_num, by rw [HT.out, inn_snoc], HA.out⟩, by simp [intOf]; omega⟩
    · obtain rfl : i = R.length := by omega
      have hown := hat.own
      have hbel := hat.below
      have hsz := hat.below.size
      have d0 := (World.cell?_of_block (a := ⟨g, 0, none⟩) (hat.below.block g lg)).trans hc0
      rw [List.take_length] at hown
      have hin : inn R ≤ 1000 := inn_le hRx.out
      have e : inn (R.take R.length) = inn R := by rw [List.take_length]
      rw [e]
      clear hat hcell
      go_wp2_with (at_builtin; refine wpList_append_own _ rfl _ _ 47 rfl w.heap.size 3 i0 (.int .i64 0) 1 8 Tryd.underlying47 hi0 hz0 hz1 hz2 rfl (by decide) _ _ _ rfl (hown.alloc _) ⟨wr.heap.size, 0, none⟩ 1 1 [.int .i64 ((k : Int) - (inn R : Int))] rfl rfl ?k1 ?k2 ?k3 ?k4 ?k5 ?_)
      all_goals try (first | exact cell_two_new _ _ _ _ | exact cell_one_new _ _ _ | rfl | (intro u hu; simp at hu; subst hu; rfl) | (unfold maxLen; omega) | omega | (simp; omega))
      intro v' w2 hown' hgrow _
      have hb2 := below_append hbel hown hsz hgrow
      clear hown hgrow
      go_wp2
      go_ret
      exact ⟨_, rfl, by rw [HPl.out, HP.out]; exact hown', hb2⟩

theorem own_base {w : World} {B B' n sz : Nat} {e : TypeId} {v : Value} {xs : List Value} (h : w.ownsRow B e sz v n xs) (hB : B' ≤ B) : w.ownsRow B' e sz v n xs := by
  refine ⟨h.1, h.2.imp id ?_⟩
  rintro ⟨g, cap, cur, hv, hb, r⟩
  exact ⟨g, cap, cur, hv, Nat.le_trans hB hb, r⟩
/-- The walker at a place of a document takes its step. -/
theorem step_any (s : ByteArray) (hd : doc s.data.toList = true) (hs : s.size ≤ 300) (B g : Nat) (v : Value) (k : Nat) (w : World) (hk : k < s.size) (h : WkAt B g v (W s.data.toList k) k w) (hB : B ≤ w.heap.size) (hT : Tab w) (hTB : 0 < B) :
    Calls Tryd.prog 85 #[.pointer (some ⟨g, 0, none⟩), .int .u8 (s[k].toNat : Int)] w fun e w' => e = .returned (.tuple #[]) ∧ (∃ v', WkAt B g v' (W s.data.toList (k + 1)) (k + 1) w') ∧ Below B w w' := by
  obtain ⟨b1, b2, b3⟩ := W_bd s k (by omega)
  rw [W_succ s k hk]
  by_cases ho : opB s[k] = true
  · exact step_op B g v _ k s[k] w h (by omega) (by omega) hB hT hTB ho
  · by_cases he : enB s[k] = true
    · have hl := W_len s hd k (by omega)
      have hb := (dep_bd s hd (k + 1) (by omega)).1
      rw [dep_succ s k hk, show dl s[k] = -1 by simp [dl, ho, he]] at hb
      cases hq : (W s.data.toList k).op with
      | nil => rw [hq] at hl; simp only [List.length_nil] at hl; omega
      | cons x l =>
        have e : W s.data.toList k = ⟨x :: l, (W s.data.toList k).kids⟩ := by rw [← hq]
        rw [e] at h ⊢
        have hx := b2 x (by rw [hq]; simp)
        rw [hq] at b3
        simp at b3
        exact step_en B g v x l _ k s[k] w h (by omega) (by omega) (by omega) hT hTB he
    · exact step_pl B g v _ k s[k] w h (by omega) hT hTB (by simpa using ho) (by simpa using he)

set_option maxHeartbeats 2000000 in
theorem pathI_yes (s : ByteArray) (n : Nat) (w : World) (hs : s.size ≤ 1048576) (hT : Tab w) (hd : doc s.data.toList = true) (hn : n ≤ s.size) :
    Calls Tryd.prog 38 #[.string s, .int .i64 n] w fun e w' => ∃ v, e = .returned (.tuple #[v, .bool true]) ∧ w'.ownsRow w.heap.size 3 1 v (path s.data.toList n).length (ints (path s.data.toList n)) ∧ Below w.heap.size w w' := by
  have hs3 : s.size ≤ 300 := by
    unfold doc good at hd
    simp only [Bool.and_eq_true, decide_eq_true_eq] at hd
    have := hd.1.2
    simpa using this
  have hTl := hT.lt
  have G := goodDocI_any s w hs hT
  rw [hd] at G
  replace G := hide G
  have Hd := hide hd
  clear hd
  go_enter Tryd.func38, Tryd.ntmps38
  go_wp2_with (go_at_call 14; refine G.out.mono ?_; rintro e w1 ⟨rfl, hb1⟩)
  clear G
  go_loopw [20] (fun _ wr => ∃ (k : Nat) (v : Value), k ≤ n ∧ WkAt w.heap.size w1.heap.size v (W s.data.toList k) k wr ∧ Below w.heap.size w wr) (fun _ wr => n - (intOf ((wr.cell? ⟨w1.heap.size, 0, none⟩).getD undef)).toNat)
  case atStart =>
    exact ⟨0, _, Nat.zero_le _, ⟨by rw [World.cell?_alloc_at _ _ _ _ rfl]; rfl, by rw [World.cell?_alloc_at _ _ _ _ rfl]; rfl, by rw [World.cell?_alloc_at _ _ _ _ rfl]; rfl, fun j => World.frozen?_alloc_new _ _ _ _, World.ownsRow_nil _ _ _ _, by simp [Value.ownBlock], hb1.size⟩, hb1.alloc hb1.size _⟩
  case round =>
    obtain ⟨k, v, hk, hat, hbel⟩ := hrel
    have c0 := hat.c0
    by_cases hlt : k < n
    · have hks : k < s.size := by omega
      have St := hide (step_any s Hd.out hs3 _ _ v k wr hks hat hbel.size (hT.low hbel hTl) hTl)
      have HC := hide hat.c0
      clear hat
      go_wp2_with fail
      refine St.out.mono ?_
      rintro e w2 ⟨rfl, ⟨v', hat'⟩, hb2⟩
      have HD := hide hat'.c0
      go_wp2
      go_roundw
      case rel =>
        have h1 : decide (s.size < n) = false := decide_eq_false (by omega)
        have h2 : decide ((n : Int) < 0) = false := decide_eq_false (by omega)
        exact ⟨_, _, _, _, _, _, _, _, _, ⟨k + 1, v', by omega, hat', hbel.trans hb2⟩, by rw [h1, h2]; rfl⟩
      case measure => rw [HD.out, HC.out]; simp [intOf]; omega
    · obtain rfl : k = n := by omega
      obtain ⟨b1, b2, b3⟩ := W_bd s k hn
      have Pa := hide (path_any _ _ v _ k wr hat (by omega) (by omega) (fun x hx => by have := b2 x hx; omega))
      clear hat
      go_wp2_with fail
      refine Pa.out.mono ?_
      rintro e w2 ⟨v', rfl, hown, hb2⟩
      go_wp2
      go_ret2
      refine ⟨_, rfl, ?_, hbel.trans (hb2.mono hbel.size)⟩
      exact own_base hown hbel.size

set_option maxHeartbeats 1000000 in
theorem pathI_no (s : ByteArray) (a : Int) (w : World) (hs : s.size ≤ 1048576) (hT : Tab w) (h : ¬ (doc s.data.toList = true ∧ 0 ≤ a ∧ a ≤ s.size)) :
    Calls Tryd.prog 38 #[.string s, .int .i64 a] w fun e w' => e = .returned (.tuple #[.slice none 0 0, .bool false]) ∧ Below w.heap.size w w' := by
  have G := goodDocI_any s w hs hT
  by_cases hd : doc s.data.toList = true
  · rw [hd] at G
    replace G := hide G
    have hr : a < 0 ∨ (s.size : Int) < a := by
      apply Classical.byContradiction
      intro hn
      exact h ⟨hd, by omega, by omega⟩
    clear h hd
    rcases hr with hr | hr
    all_goals
      go_enter Tryd.func38, Tryd.ntmps38
      go_wp2_with (go_at_call 14; refine G.out.mono ?_; rintro e w1 ⟨rfl, hb1⟩)
      go_ret2
      exact ⟨rfl, hb1⟩
  · rw [Bool.eq_false_iff.2 hd] at G
    replace G := hide G
    clear h hd
    go_enter Tryd.func38, Tryd.ntmps38
    go_wp2_with (go_at_call 14; refine G.out.mono ?_; rintro e w1 ⟨rfl, hb1⟩)
    go_ret2
    exact ⟨rfl, hb1⟩
end Go.Proofs.YtafhpnkedjbcdaaDoor

namespace Go.Proofs.YtafhpnkedjbcdaaDoor
open Go.RowKit
open Doc1

/-- What is known in the rounds of l2Path. -/
structure LPAt (S : ByteArray) (A : Nat) (w : World) (s : ByteArray) (a : Nat) (v : Value) (wr : World) : Prop where
  doc : doc s.data.toList = true
  le : a ≤ s.size
  own : ∃ L : List Int, wr.ownsRow w.heap.size 3 1 v L.length (ints L) ∧ L ++ path s.data.toList a = path S.data.toList A ∧ L.length + s.size ≤ 1000
  below : Below w.heap.size w wr
theorem doc_sz (s : ByteArray) (h : doc s.data.toList = true) : s.size ≤ 300 := by
  unfold doc good at h
  simp only [Bool.and_eq_true, decide_eq_true_eq] at h
  have := h.1.2
  simpa using this
theorem W_zero_dep {s : ByteArray} (hd : doc s.data.toList = true) {i m : Nat} (hi : i ≤ s.size) (h : W s.data.toList i = ⟨[], m⟩) : dep s.data.toList i = 0 := by
  have := W_len s hd i hi
  rw [h] at this
  simpa using this.symm
theorem path_top {s : ByteArray} {a m : Nat} (h : W s.data.toList a = ⟨[], m⟩) : path s.data.toList a = [(a : Int)] := by
  unfold path pathL; rw [h]; simp
theorem ints_snoc (l : List Int) (x : Int) : ints (l ++ [x]) = ints l ++ [.int .i64 x] := by simp [ints]
theorem own_slice {w : World} {B n : Nat} {v : Value} {xs : List Value} (h : w.ownsRow B 3 1 v n xs) : ∃ a cap, v = .slice a n cap ∧ n ≤ cap ∧ cap ≤ maxLen := by
  rcases h.2 with ⟨rfl, h0⟩ | ⟨g, cap, cur, hv, hb, hh, hle, hm, hs, ht⟩
  · exact ⟨none, 0, by rw [h0], by omega, by unfold maxLen; omega⟩
  · exact ⟨_, cap, hv, hle, hm⟩

set_option maxRecDepth 100000 in
set_option maxHeartbeats 4000000 in
theorem l2Path_any (S : ByteArray) (A : Nat) (w : World) (hd : doc S.data.toList = true) (hA : A ≤ S.size) :
    Calls Tryd.prog 87 #[.string S, .int .i64 A] w fun e w' => ∃ v, e = .returned v ∧ w'.ownsRow w.heap.size 3 1 v (path S.data.toList A).length (ints (path S.data.toList A)) ∧ Below w.heap.size w w' := by
  obtain ⟨i0, hi0, hz0, hz1, hz2⟩ := info_parts Tryd.info3
  have hS := doc_sz S hd
  have H0 : Hid (LPAt S A w S A (.slice none 0 0) w) := hide ⟨hd, hA, ⟨[], World.ownsRow_nil _ _ _ _, rfl, by simp; omega⟩, Below.refl _ _⟩
  clear hd
  go_enter Tryd.func87, Tryd.ntmps87
  go_wp2
  go_loopw [0, 1, 5] (fun sv av v wr => ∃ (s : ByteArray) (a : Nat), sv = .string s ∧ av = .int .i64 a ∧ LPAt S A w s a v wr) (fun sv _ _ _ => match sv with | .string s => s.size | _ => 0)
  case atStart => exact ⟨S, A, rfl, rfl, H0.out⟩
  case round =>
    obtain ⟨s, a, rfl, rfl, hat⟩ := hrel
    obtain ⟨L, hown, hL, hLl⟩ := hat.own
    have hle := hat.le
    have hbel := hat.below
    have hsz := hat.below.size
    have Hd := hide hat.doc
    have HL := hide hL
    have hs3 := doc_sz s hat.doc
    clear hat hL H0
    obtain ⟨av, cv, rfl, hcv1, hcv2⟩ := own_slice hown
    go_wp2
    go_loop [6, 7, 8] (fun mv nv iv => ∃ m i : Nat, mv = .int .i64 m ∧ nv = .int .i64 (-1) ∧ iv = .int .i64 i ∧ i ≤ a ∧ m ≤ i ∧ Hid (W s.data.toList i = ⟨[], m⟩)) (fun _ _ iv => a - (intOf iv).toNat)
    case atStart => exact ⟨0, 0, rfl, rfl, rfl, Nat.zero_le _, Nat.le_refl _, rfl⟩
    case round =>
      obtain ⟨m, i, rfl, rfl, rfl, hi, hmi, hW⟩ := hrel
      by_cases hlt : i < a
      · have his : i < s.size := by omega
        have O := l1Open_any s[i] wr
        by_cases hop : opB s[i] = true
        · rw [hop] at O
          replace O := hide O
          obtain ⟨K, hK⟩ := end_ex s Hd.out i his (dl_is_op hop)
          have hlo := hK.lo
          have hhi := hK.hi
          have M := hide (l1Match_end s i K wr (by omega) hK his hop)
          have WA := hide (W_after Hd.out hK hop hW.out)
          have DI := hide (doc_inner3 Hd.out hK hop)
          by_cases hKa : a ≤ K
          · have PI := hide (path_in Hd.out hK hop hW.out hlt hKa)
            have M2 : Hid (∀ wx, Calls Tryd.prog 64 #[.string s, .int .i64 i] wx fun e w' => e = .returned (.int .i64 K) ∧ w' = wx) := hide (fun wx => l1Match_end s i K wx (by omega) hK his hop)
            clear hK hop WA
            go_wp2_with (first | (go_at_call 66; refine O.out.mono ?_; rintro e w' ⟨rfl, hw⟩; replace hw := hw.symm; subst hw) | (go_at_call 64; refine M.out.mono ?_; rintro e w' ⟨rfl, hw⟩; replace hw := hw.symm; subst hw) | (at_builtin; refine wpList_append_own _ rfl _ _ 47 rfl w.heap.size 3 i0 (.int .i64 0) 1 8 Tryd.underlying47 hi0 hz0 hz1 hz2 rfl (by decide) _ _ _ rfl (hown.alloc _) ⟨wr.heap.size, 0, none⟩ 1 1 [.int .i64 (m : Int)] rfl rfl ?c1 ?c2 ?c3 ?c4 ?c5 ?_))
            all_goals try (first | exact cell_one_new _ _ _ | rfl | (intro u hu; simp at hu; subst hu; rfl) | (unfold maxLen; omega) | omega | (simp; omega))
            intro v' w2 hown' hgrow _
            have Q : LPAt S A w (s.extract (i + 1) K) (a - (i + 1)) v' w2 := ⟨DI.out, by rw [ByteArray.size_extract]; omega, ⟨L ++ [(m : Int)], by rw [ints_snoc, List.length_append]; exact hown', by rw [List.append_assoc, ← HL.out, PI.out]; rfl, by rw [ByteArray.size_extract]; simp; omega⟩, below_append hbel hown hsz hgrow⟩
            have HQ := hide Q
            obtain ⟨L', o', -, -⟩ := Q.own
            obtain ⟨av', cv', rfl, hcw1, hcw2⟩ := own_slice o'
            clear hown' hgrow Q o' hown O M
            go_wp2_with (go_at_call 64; refine (M2.out _).mono ?_; rintro e w' ⟨rfl, hw⟩; replace hw := hw.symm; subst hw)
            refine ⟨⟨s.extract (i + 1) K, a - (i + 1), rfl, by rw [show (a : Int) - ((i : Int) + 1) = ((a - (i + 1) : Nat) : Int) by omega], HQ.out⟩, ?_⟩
            show (s.extract (i + 1) K).size < s.size
            rw [ByteArray.size_extract]; omega
          · clear hK hop DI
            go_wp2_with (first | (go_at_call 66; refine O.out.mono ?_; rintro e w' ⟨rfl, hw⟩; replace hw := hw.symm; subst hw) | (go_at_call 64; refine M.out.mono ?_; rintro e w' ⟨rfl, hw⟩; replace hw := hw.symm; subst hw))
            refine ⟨⟨m + 1, K + 1, by go_num, rfl, by go_num, by omega, by omega, WA⟩, by simp [intOf]; omega⟩
        · rw [Bool.eq_false_iff.2 hop] at O
          replace O := hide O
          have hne : enB s[i] = false := by
            cases he : enB s[i] with
            | false => rfl
            | true =>
              have h1 := dep_succ s i his
              have h2 := (dep_bd s Hd.out (i + 1) (by omega)).1
              have h3 := W_zero_dep Hd.out (by omega) hW.out
              rw [show dl s[i] = -1 by simp [dl, op_of_en he, he]] at h1
              omega
          have W2 : Hid (W s.data.toList (i + 1) = ⟨[], m⟩) := hide (by rw [W_succ s i his, wst_pl (Bool.eq_false_iff.2 hop) hne]; exact hW.out)
          clear hop hne
          go_wp2_with (go_at_call 66; refine O.out.mono ?_; rintro e w' ⟨rfl, hw⟩; replace hw := hw.symm; subst hw)
          refine ⟨⟨m, i + 1, rfl, rfl, by go_num, by omega, by omega, W2⟩, by simp [intOf]; omega⟩
      · obtain rfl : i = a := by omega
        have hP := hide (path_top hW.out)
        go_wp2_with (at_builtin; refine wpList_append_own _ rfl _ _ 47 rfl w.heap.size 3 i0 (.int .i64 0) 1 8 Tryd.underlying47 hi0 hz0 hz1 hz2 rfl (by decide) _ _ _ rfl (hown.alloc _) ⟨wr.heap.size, 0, none⟩ 1 1 [.int .i64 (i : Int)] rfl rfl ?k1 ?k2 ?k3 ?k4 ?k5 ?_)
        all_goals try (first | exact cell_one_new _ _ _ | rfl | (intro u hu; simp at hu; subst hu; rfl) | (unfold maxLen; omega) | omega | (simp; omega))
        intro v' w2 hown' hgrow _
        have hb2 := below_append hbel hown hsz hgrow
        have e : path S.data.toList A = L ++ [(i : Int)] := by rw [← HL.out, hP.out]
        have o2 : Hid (w2.ownsRow w.heap.size 3 1 v' (path S.data.toList A).length (ints (path S.data.toList A))) := hide (by rw [e, ints_snoc, List.length_append]; exact hown')
        clear hown hgrow hown' e
        go_wp2
        go_ret
        exact ⟨_, rfl, o2.out, hb2⟩

set_option maxHeartbeats 1000000 in
theorem pathS_yes (s : ByteArray) (n : Nat) (w : World) (hs : s.size ≤ 1048576) (hd : doc s.data.toList = true) (hn : n ≤ s.size) :
    Calls Tryd.prog 39 #[.string s, .int .i64 n] w fun e w' => ∃ v, e = .returned (.tuple #[v, .bool true]) ∧ w'.ownsRow w.heap.size 3 1 v (path s.data.toList n).length (ints (path s.data.toList n)) ∧ Below w.heap.size w w' := by
  have G := goodDocS_any s w hs
  rw [hd] at G
  replace G := hide G
  have I := l1In_any n 0 s.size w
  rw [decide_eq_true (by omega)] at I
  replace I := hide I
  have T := hide (l2Path_any s n w hd hn)
  clear hd
  go_enter Tryd.func39, Tryd.ntmps39
  go_wp2_with (first | (go_at_call 15; refine G.out.mono ?_; rintro e w' ⟨rfl, hw⟩; replace hw := hw.symm; subst hw) | (go_at_call 62; refine I.out.mono ?_; rintro e w' ⟨rfl, hw⟩; replace hw := hw.symm; subst hw) | (go_at_call 87; refine T.out.mono ?_; rintro e w' ⟨v, rfl, hown, hb⟩))
  go_ret2
  exact ⟨_, rfl, hown, hb⟩

set_option maxHeartbeats 1000000 in
theorem pathS_no (s : ByteArray) (a : Int) (w : World) (hs : s.size ≤ 1048576) (h : ¬ (doc s.data.toList = true ∧ 0 ≤ a ∧ a ≤ s.size)) :
    Calls Tryd.prog 39 #[.string s, .int .i64 a] w fun e w' => e = .returned (.tuple #[.slice none 0 0, .bool false]) ∧ w' = w := by
  have G := goodDocS_any s w hs
  by_cases hd : doc s.data.toList = true
  · rw [hd] at G
    replace G := hide G
    have I := l1In_any a 0 s.size w
    rw [decide_eq_false (fun hr => h ⟨hd, hr.1, hr.2⟩)] at I
    replace I := hide I
    clear h hd
    go_enter Tryd.func39, Tryd.ntmps39
    go_wp2_with (first | (go_at_call 15; refine G.out.mono ?_; rintro e w' ⟨rfl, hw⟩; replace hw := hw.symm; subst hw) | (go_at_call 62; refine I.out.mono ?_; rintro e w' ⟨rfl, hw⟩; replace hw := hw.symm; subst hw))
    go_ret2
    exact ⟨rfl, rfl⟩
  · rw [Bool.eq_false_iff.2 hd] at G
    replace G := hide G
    clear h hd
    go_enter Tryd.func39, Tryd.ntmps39
    go_wp2_with (go_at_call 15; refine G.out.mono ?_; rintro e w' ⟨rfl, hw⟩; replace hw := hw.symm; subst hw)
    go_ret2
    exact ⟨rfl, rfl⟩
end Go.Proofs.YtafhpnkedjbcdaaDoor
