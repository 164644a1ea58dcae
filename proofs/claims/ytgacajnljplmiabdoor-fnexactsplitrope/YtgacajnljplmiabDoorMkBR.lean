/- Rows of boughs, and ropes, are marked from any number on. Rows of boughs, and ropes, are marked from any number on, and held so. -/
import Derived.Test.YtgacajnljplmiabDoorRpH
import Derived.Test.YtgacajnljplmiabDoorWBk
set_option linter.unusedVariables false
namespace Go.Proofs.YtgacajnljplmiabDoor
open Go.RowKit
open Doc1

set_option maxHeartbeats 4000000 in
theorem markBoughS_wk (g c n K : Nat) (w : World) (hm : n ≤ 10000000) (hK : 0 < K ∧ K ≤ 500000000) (_h1 : n ≤ c ∧ c ≤ maxLen) (hg : g < w.heap.size) (hb : Blk w g (n * 5)) :
    Calls Tryd.prog 75 #[.slice (some ⟨g, 0, none⟩) n c, .int .i64 (K : Int)] w fun e w' => e = .returned (.int .i64 (K + n * 5 : Nat)) ∧ w.grownBy w' (some g) := by
  have T : Hid (∀ (K : Nat) w, 0 < K → K ≤ 1000000000 → Calls Tryd.prog 91 #[.int .i64 (K : Int)] w fun e w' => e = .returned (.string (mkT K)) ∧ Below w.heap.size w w') := hide (fun K w h1 h2 => markText_any K w h1 h2)
  go_enter Tryd.func75, Tryd.ntmps75
  go_wp2
  go_loopw [1, 5] (fun k1 i wr => ∃ k : Nat, k ≤ n ∧ i = .int .i64 k ∧ k1 = .int .i64 (K + k * 5 : Nat) ∧ Hid (WB w g (n * 5) wr)) (fun _ i _ => n - (intOf i).toNat)
  case atStart => exact ⟨0, by omega, rfl, rfl, hide (wb_start hb hg)⟩
  case round =>
    obtain ⟨k, hk, rfl, rfl, R0⟩ := hrel
    by_cases hlt : k < n
    · clear hb
      have r0 := R0.out
      obtain ⟨y0, hy0⟩ := r0.blk.ex (k * 5) (by omega)
      have f0 := r0.blk.fz (k * 5)
      have R1 := hide (r0.put (k * 5) (.int .i64 ((K : Int) + (k : Int) * 5)))
      clear r0
      have r1 := R1.out
      obtain ⟨y1, hy1⟩ := r1.blk.ex (k * 5 + 1) (by omega)
      have f1 := r1.blk.fz (k * 5 + 1)
      have R2 := hide (r1.put (k * 5 + 1) (.int .i64 ((K : Int) + (k : Int) * 5 + 1)))
      clear r1
      have r2 := R2.out
      obtain ⟨W2, hW2⟩ : ∃ W, W = ((wr.setCell ⟨g, k * 5, none⟩ (.int .i64 ((K : Int) + (k : Int) * 5))).setCell ⟨g, k * 5 + 1, none⟩ (.int .i64 ((K : Int) + (k : Int) * 5 + 1))) := ⟨_, rfl⟩
      rw [← hW2] at R2
      clear r2
      go_wp2_with fail
      rw [← hW2]
      clear hW2 hy0 f0 hy1 f1
      go_wp2_with fail
      refine (T.out (K + k * 5 + 2) W2 (by omega) (by omega)).mono ?_
      rintro e x2 ⟨rfl, hb2⟩
      have r2 := R2.out.below hb2
      obtain ⟨y2, hy2⟩ := r2.blk.ex (k * 5 + 2) (by omega)
      have f2 := r2.blk.fz (k * 5 + 2)
      have R3 := hide (r2.put (k * 5 + 2) (.string (mkT (K + k * 5 + 2))))
      clear r2 hb2
      have r3 := R3.out
      obtain ⟨y3, hy3⟩ := r3.blk.ex (k * 5 + 3) (by omega)
      have f3 := r3.blk.fz (k * 5 + 3)
      have R4 := hide (r3.put (k * 5 + 3) (.int .i64 ((K : Int) + (k : Int) * 5 + 1 + 1 + 1)))
      clear r3
      have r4 := R4.out
      obtain ⟨y4, hy4⟩ := r4.blk.ex (k * 5 + 4) (by omega)
      have f4 := r4.blk.fz (k * 5 + 4)
      have R5 := hide (r4.put (k * 5 + 4) (.int .i64 ((K : Int) + (k : Int) * 5 + 1 + 1 + 1 + 1)))
      clear r4
      obtain ⟨WZ, hWZ⟩ : ∃ W, W = (((x2.setCell ⟨g, k * 5 + 2, none⟩ (.string (mkT (K + k * 5 + 2)))).setCell ⟨g, k * 5 + 3, none⟩ (.int .i64 ((K : Int) + (k : Int) * 5 + 1 + 1 + 1))).setCell ⟨g, k * 5 + 4, none⟩ (.int .i64 ((K : Int) + (k : Int) * 5 + 1 + 1 + 1 + 1))) := ⟨_, rfl⟩
      rw [← hWZ] at R5
      go_wp2
      rw [← hWZ]
      refine ⟨⟨k + 1, by omega, by go_num, by rw [show (K : Int) + ↑k * 5 + 1 + 1 + 1 + 1 + 1 = ((K + (k + 1) * 5 : Nat) : Int) by omega], R5⟩, by simp [intOf]; omega⟩
    · obtain rfl : k = n := by omega
      go_wp2
      go_ret
      exact ⟨rfl, R0.out.grown⟩
theorem markBo_from {w : World} {g : Nat} {l : List Bg} (h : BoCp w g l) (hm : l.length ≤ 2000000) (K : Nat) (hK : 0 < K ∧ K ≤ 500000000) :
    Calls Tryd.prog 75 #[.slice (some ⟨g, 0, none⟩) l.length l.length, .int .i64 (K : Int)] w fun e w' => e = .returned (.int .i64 (K + l.length * 5 : Nat)) ∧ w.grownBy w' (some g) :=
  markBoughS_wk g l.length l.length K w (by omega) hK ⟨Nat.le_refl _, by unfold maxLen; omega⟩ h.lt h.blk
theorem markBo_on {w : World} {g : Nat} {l : List Bg} (h : BoCp w g l) (hm : l.length ≤ 2000000) (K : Nat) (hK : 0 < K ∧ K ≤ 500000000) {a : Int} (ha : a = (K : Int)) :
    Calls Tryd.prog 75 #[.slice (some ⟨g, 0, none⟩) l.length l.length, .int .i64 a] w fun e w' => e = .returned (.int .i64 (K + l.length * 5 : Nat)) ∧ w.grownBy w' (some g) := by
  subst ha; exact markBo_from h hm K hK

theorem markRope_on {w : World} {g : Nat} {l : List Bg} (h : BoCp w g l) (hm : l.length ≤ 2000000) (K : Nat) (hK : 0 < K ∧ K ≤ 500000000) :
    Calls Tryd.prog 23 #[.agg #[.slice (some ⟨g, 0, none⟩) l.length l.length], .int .i64 (K : Int)] w fun e w' => e = .returned (.int .i64 (K + l.length * 5 : Nat)) ∧ w.grownBy w' (some g) := by
  refine (markRope_of (K := K) (K2 := K + l.length * 5) (Φ := fun _ => True) (v := .slice (some ⟨g, 0, none⟩) l.length l.length) rfl (fun y hy => by cases hy; exact h.lt) (fun w1 h1 => (markBo_from (h.later h1) hm K hK).mono (fun e w' ⟨k1, k2⟩ => ⟨k1, k2, trivial⟩))).mono ?_
  rintro e w' ⟨rfl, h1, -⟩
  exact ⟨rfl, h1⟩
end Go.Proofs.YtgacajnljplmiabDoor

set_option linter.unusedVariables false
namespace Go.Proofs.YtgacajnljplmiabDoor
open Go.RowKit
open Doc1

/-- The mark at a place, from K on. -/
def mkc (K j : Nat) : Value := if j % 5 = 2 then .string (mkT (K + j)) else .int .i64 ((K + j : Nat) : Int)
theorem mkc_i {K j : Nat} {x : Int} (h : j % 5 ≠ 2) (hx : x = ((K + j : Nat) : Int)) : mkc K j = .int .i64 x := by unfold mkc; rw [if_neg h, hx]
theorem mkc_s {K j x : Nat} (h : j % 5 = 2) (hx : x = K + j) : mkc K j = .string (mkT x) := by unfold mkc; rw [if_pos h, hx]
/-- The first of a block are marked. -/
def MkA (K : Nat) (w : World) (g m : Nat) : Prop := ∀ j, j < m → w.cell? ⟨g, j, none⟩ = some (mkc K j)
theorem MkA.later {K : Nat} {w w1 : World} {B g m : Nat} (h : MkA K w g m) (hb : Below B w w1) (hg : g < B) : MkA K w1 g m := fun j hj => (World.cell?_of_block (hb.block g hg)).trans (h j hj)
structure WK (K : Nat) (w : World) (g n m : Nat) (wr : World) : Prop where
  wb : WB w g n wr
  c : MkA K wr g m
theorem WK.below {K : Nat} {w wr w1 : World} {g n m : Nat} (h : WK K w g n m wr) (hb : Below wr.heap.size wr w1) : WK K w g n m w1 :=
  ⟨h.wb.below hb, h.c.later hb (Nat.lt_of_lt_of_le h.wb.lt h.wb.grown.size)⟩
theorem WK.put {K : Nat} {w wr : World} {g n m : Nat} (h : WK K w g n m wr) (hm : m < n) (v : Value) (hv : mkc K m = v) : WK K w g n (m + 1) (wr.setCell ⟨g, m, none⟩ v) :=
  ⟨h.wb.put m v, fun j hj => by
    obtain ⟨y, hy⟩ := h.wb.blk.ex m hm
    by_cases e : j = m
    · subst e; rw [hv]; exact World.cell?_setCell_same _ _ _ hy
    · rw [World.cell?_setCell_other _ _ _ _ (fun c => e (Addr.mk.inj c).2.1.symm)]; exact h.c j (by omega)⟩
theorem wk_start (K : Nat) {w : World} {g n : Nat} (hb : Blk w g n) (hg : g < w.heap.size) : WK K w g n (0 * 5) w := ⟨wb_start hb hg, fun j hj => by omega⟩

set_option maxHeartbeats 4000000 in
theorem markBoughS_k (g c n K : Nat) (w : World) (hm : n ≤ 10000000) (hK : 0 < K ∧ K ≤ 500000000) (_h1 : n ≤ c ∧ c ≤ maxLen) (hg : g < w.heap.size) (hb : Blk w g (n * 5)) :
    Calls Tryd.prog 75 #[.slice (some ⟨g, 0, none⟩) n c, .int .i64 (K : Int)] w fun e w' => e = .returned (.int .i64 (K + n * 5 : Nat)) ∧ w.grownBy w' (some g) ∧ MkA K w' g (n * 5) := by
  have T : Hid (∀ (K : Nat) w, 0 < K → K ≤ 1000000000 → Calls Tryd.prog 91 #[.int .i64 (K : Int)] w fun e w' => e = .returned (.string (mkT K)) ∧ Below w.heap.size w w') := hide (fun K w h1 h2 => markText_any K w h1 h2)
  go_enter Tryd.func75, Tryd.ntmps75
  go_wp2
  go_loopw [1, 5] (fun k1 i wr => ∃ k : Nat, k ≤ n ∧ i = .int .i64 k ∧ k1 = .int .i64 (K + k * 5 : Nat) ∧ Hid (WK K w g (n * 5) (k * 5) wr)) (fun _ i _ => n - (intOf i).toNat)
  case atStart => exact ⟨0, by omega, rfl, rfl, hide (wk_start K hb hg)⟩
  case round =>
    obtain ⟨k, hk, rfl, rfl, R0⟩ := hrel
    by_cases hlt : k < n
    · clear hb
      have r0 := R0.out
      obtain ⟨y0, hy0⟩ := r0.wb.blk.ex (k * 5) (by omega)
      have f0 := r0.wb.blk.fz (k * 5)
      have R1 := hide (r0.put (by omega) (.int .i64 ((K : Int) + (k : Int) * 5)) (mkc_i (by omega) (by omega)))
      clear r0
      have r1 := R1.out
      obtain ⟨y1, hy1⟩ := r1.wb.blk.ex (k * 5 + 1) (by omega)
      have f1 := r1.wb.blk.fz (k * 5 + 1)
      have R2 := hide (r1.put (by omega) (.int .i64 ((K : Int) + (k : Int) * 5 + 1)) (mkc_i (by omega) (by omega)))
      clear r1
      have r2 := R2.out
      obtain ⟨W2, hW2⟩ : ∃ W, W = ((wr.setCell ⟨g, k * 5, none⟩ (.int .i64 ((K : Int) + (k : Int) * 5))).setCell ⟨g, k * 5 + 1, none⟩ (.int .i64 ((K : Int) + (k : Int) * 5 + 1))) := ⟨_, rfl⟩
      rw [← hW2] at R2
      clear r2
      go_wp2_with fail
      rw [← hW2]
      clear hW2 hy0 f0 hy1 f1
      go_wp2_with fail
      refine (T.out (K + k * 5 + 2) W2 (by omega) (by omega)).mono ?_
      rintro e x2 ⟨rfl, hb2⟩
      have r2 := R2.out.below hb2
      obtain ⟨y2, hy2⟩ := r2.wb.blk.ex (k * 5 + 2) (by omega)
      have f2 := r2.wb.blk.fz (k * 5 + 2)
      have R3 := hide (r2.put (by omega) (.string (mkT (K + k * 5 + 2))) (mkc_s (by omega) (by omega)))
      clear r2 hb2
      have r3 := R3.out
      obtain ⟨y3, hy3⟩ := r3.wb.blk.ex (k * 5 + 3) (by omega)
      have f3 := r3.wb.blk.fz (k * 5 + 3)
      have R4 := hide (r3.put (by omega) (.int .i64 ((K : Int) + (k : Int) * 5 + 1 + 1 + 1)) (mkc_i (by omega) (by omega)))
      clear r3
      have r4 := R4.out
      obtain ⟨y4, hy4⟩ := r4.wb.blk.ex (k * 5 + 4) (by omega)
      have f4 := r4.wb.blk.fz (k * 5 + 4)
      have R5 := hide (r4.put (by omega) (.int .i64 ((K : Int) + (k : Int) * 5 + 1 + 1 + 1 + 1)) (mkc_i (by omega) (by omega)))
      clear r4
      obtain ⟨WZ, hWZ⟩ : ∃ W, W = (((x2.setCell ⟨g, k * 5 + 2, none⟩ (.string (mkT (K + k * 5 + 2)))).setCell ⟨g, k * 5 + 3, none⟩ (.int .i64 ((K : Int) + (k : Int) * 5 + 1 + 1 + 1))).setCell ⟨g, k * 5 + 4, none⟩ (.int .i64 ((K : Int) + (k : Int) * 5 + 1 + 1 + 1 + 1))) := ⟨_, rfl⟩
      rw [← hWZ] at R5
      go_wp2
      rw [← hWZ]
      refine ⟨⟨k + 1, by omega, by go_num, by rw [show (K : Int) + ↑k * 5 + 1 + 1 + 1 + 1 + 1 = ((K + (k + 1) * 5 : Nat) : Int) by omega], by rw [show (k + 1) * 5 = k * 5 + 4 + 1 by omega]; exact R5⟩, by simp [intOf]; omega⟩
    · obtain rfl : k = n := by omega
      go_wp2
      go_ret
      exact ⟨rfl, R0.out.wb.grown, R0.out.c⟩

set_option maxHeartbeats 4000000 in
theorem heldBoughS_k (g c n K : Nat) (w : World) (hK : 0 < K ∧ K ≤ 500000000) (hm : n ≤ 10000000) (_h1 : n ≤ c ∧ c ≤ maxLen) (hg : g < w.heap.size) (hb : MkA K w g (n * 5)) :
    Calls Tryd.prog 76 #[.slice (some ⟨g, 0, none⟩) n c, .int .i64 (K : Int)] w fun e w' => e = .returned (.int .i64 (K + n * 5 : Nat)) ∧ Below w.heap.size w w' := by
  have T : Hid (∀ (K : Nat) w, 0 < K → K ≤ 1000000000 → Calls Tryd.prog 91 #[.int .i64 (K : Int)] w fun e w' => e = .returned (.string (mkT K)) ∧ Below w.heap.size w w') := hide (fun K w h1 h2 => markText_any K w h1 h2)
  go_enter Tryd.func76, Tryd.ntmps76
  go_wp2
  go_loopw [1, 5] (fun k1 i wr => ∃ k : Nat, k ≤ n ∧ i = .int .i64 k ∧ k1 = .int .i64 (K + k * 5 : Nat) ∧ Below w.heap.size w wr) (fun _ i _ => n - (intOf i).toNat)
  case atStart => exact ⟨0, by omega, rfl, by rw [Nat.zero_mul]; rfl, Below.refl _ _⟩
  case round =>
    obtain ⟨k, hk, rfl, rfl, hbel⟩ := hrel
    by_cases hlt : k < n
    · have C : Hid (∀ wx, Below w.heap.size w wx → wx.cell? ⟨g, k * 5, none⟩ = some (.int .i64 ((K : Int) + (k : Int) * 5)) ∧ wx.cell? ⟨g, k * 5 + 1, none⟩ = some (.int .i64 ((K : Int) + (k : Int) * 5 + 1)) ∧ wx.cell? ⟨g, k * 5 + 2, none⟩ = some (.string (mkT (K + k * 5 + 2))) ∧ wx.cell? ⟨g, k * 5 + 3, none⟩ = some (.int .i64 ((K : Int) + (k : Int) * 5 + 1 + 1 + 1)) ∧ wx.cell? ⟨g, k * 5 + 4, none⟩ = some (.int .i64 ((K : Int) + (k : Int) * 5 + 1 + 1 + 1 + 1))) := hide (fun wx hx => by
        have h := hb.later hx hg
        exact ⟨by rw [h _ (by omega), mkc_i (x := (K : Int) + (k : Int) * 5) (by omega) (by omega)], by rw [h _ (by omega), mkc_i (x := (K : Int) + (k : Int) * 5 + 1) (by omega) (by omega)], by rw [h _ (by omega), mkc_s (x := K + k * 5 + 2) (by omega) (by omega)], by rw [h _ (by omega), mkc_i (x := (K : Int) + (k : Int) * 5 + 1 + 1 + 1) (by omega) (by omega)], by rw [h _ (by omega), mkc_i (x := (K : Int) + (k : Int) * 5 + 1 + 1 + 1 + 1) (by omega) (by omega)]⟩)
      clear hb
      obtain ⟨c0, c1, c2, c3, c4⟩ := C.out wr hbel
      have T2 := hide (fun w => T.out (K + k * 5 + 2) w (by omega) (by omega))
      go_wp2_with fail
      go_region_with (go_at_call 91; refine (T2.out _).mono ?_; rintro e w2 ⟨rfl, hb2⟩; have hB2 := hbel.trans ((Below.refl _ _).drew.trans (hb2.mono (show w.heap.size ≤ wr.drew.heap.size from hbel.size))); obtain ⟨d2_0, d2_1, d2_2, d2_3, d2_4⟩ := C.out w2 hB2)
      all_goals
        (try clear c0)
        (try clear c1)
        (try clear c2)
        (try clear c3)
        (try clear c4)
        clear hb2 hbel T2
        go_wp2
        refine ⟨⟨k + 1, by omega, by go_num, by rw [show (K : Int) + ↑k * 5 + 1 + 1 + 1 + 1 + 1 = ((K + (k + 1) * 5 : Nat) : Int) by omega], hB2⟩, by simp [intOf]; omega⟩
    · obtain rfl : k = n := by omega
      go_wp2
      go_ret
      exact ⟨rfl, hbel⟩

/-- A row that is marked from K on. -/
def BoMq (K : Nat) (w : World) (v : Value) (n : Nat) : Prop := (n = 0 ∧ ∃ a cap, v = .slice a 0 cap) ∨ ∃ g cap, v = .slice (some ⟨g, 0, none⟩) n cap ∧ n ≤ cap ∧ cap ≤ maxLen ∧ g < w.heap.size ∧ MkA K w g (n * 5)
theorem BoMq.later {K : Nat} {w w1 : World} {v : Value} {n : Nat} (h : BoMq K w v n) (hb : Below w.heap.size w w1) : BoMq K w1 v n :=
  h.imp id (fun ⟨g, cap, e, h1, h2, h3, h4⟩ => ⟨g, cap, e, h1, h2, Nat.lt_of_lt_of_le h3 hb.size, h4.later hb h3⟩)
theorem BoMq.grown {K : Nat} {w w1 : World} {v : Value} {n : Nat} {r : Option Nat} (h : BoMq K w v n) (hg : w.grownBy w1 r) (hne : ∀ y, v.ownBlock = some y → r ≠ some y) : BoMq K w1 v n := by
  rcases h with h | ⟨g, cap, rfl, h1, h2, h3, h4⟩
  · exact .inl h
  · exact .inr ⟨g, cap, rfl, h1, h2, Nat.lt_of_lt_of_le h3 hg.size, fun j hj => (World.cell?_of_block (a := ⟨g, j, none⟩) (hg.block g h3 (fun e => hne g rfl e.symm))).trans (h4 j hj)⟩

set_option maxHeartbeats 400000 in
theorem markBoughS_z (a : Option Addr) (ca : Nat) (K : Int) (w : World) :
    Calls Tryd.prog 75 #[.slice a 0 ca, .int .i64 K] w fun e w' => e = .returned (.int .i64 K) ∧ w' = w := by
  go_enter Tryd.func75, Tryd.ntmps75
  go_wp2
  go_loop [1, 5] (fun k i => k = .int .i64 K ∧ i = .int .i64 0) (fun _ _ => 0)
  case atStart => exact ⟨rfl, rfl⟩
  case round =>
    obtain ⟨rfl, rfl⟩ := hrel
    go_wp2
    go_ret
    exact ⟨rfl, rfl⟩

set_option maxHeartbeats 400000 in
theorem heldBoughS_z (a : Option Addr) (ca : Nat) (K : Int) (w : World) :
    Calls Tryd.prog 76 #[.slice a 0 ca, .int .i64 K] w fun e w' => e = .returned (.int .i64 K) ∧ w' = w := by
  go_enter Tryd.func76, Tryd.ntmps76
  go_wp2
  go_loop [1, 5] (fun k i => k = .int .i64 K ∧ i = .int .i64 0) (fun _ _ => 0)
  case atStart => exact ⟨rfl, rfl⟩
  case round =>
    obtain ⟨rfl, rfl⟩ := hrel
    go_wp2
    go_ret
    exact ⟨rfl, rfl⟩

theorem markBo_k {w : World} {B : Nat} {v : Value} {l : List Bg} (h : BoOwn w B v l) (hm : l.length ≤ 10000000) (K : Nat) (hK : 0 < K ∧ K ≤ 400000000) :
    Calls Tryd.prog 75 #[v, .int .i64 (K : Int)] w fun e w' => e = .returned (.int .i64 (K + l.length * 5 : Nat)) ∧ w.grownBy w' v.ownBlock ∧ BoMq K w' v l.length := by
  unfold BoOwn at h
  by_cases h0 : l = []
  · subst h0
    obtain ⟨a, ca, rfl, -, -⟩ := own_shp h
    refine (markBoughS_z a ca K w).mono ?_
    rintro e w' ⟨rfl, rfl⟩
    exact ⟨rfl, grown_self _ _, .inl ⟨rfl, a, ca, rfl⟩⟩
  · obtain ⟨ga, ca, rfl, a1, a2, -, a3, a4, a5⟩ := own_cat h (List.length_pos_iff.2 h0)
    refine (markBoughS_k ga ca l.length K w hm (by omega) ⟨a1, a2⟩ a3 (by rw [← encBo_len]; exact a5)).mono ?_
    rintro e w' ⟨rfl, hg, hi⟩
    exact ⟨rfl, hg, .inr ⟨ga, ca, rfl, a1, a2, Nat.lt_of_lt_of_le a3 hg.size, hi⟩⟩
theorem heldBo_k {w : World} {v : Value} {n K : Nat} (h : BoMq K w v n) (hm : n ≤ 10000000) (hK : 0 < K ∧ K ≤ 400000000) :
    Calls Tryd.prog 76 #[v, .int .i64 (K : Int)] w fun e w' => e = .returned (.int .i64 (K + n * 5 : Nat)) ∧ Below w.heap.size w w' := by
  rcases h with ⟨rfl, a, ca, rfl⟩ | ⟨g, cap, rfl, h1, h2, h3, h4⟩
  · refine (heldBoughS_z a ca K w).mono ?_
    rintro e w' ⟨rfl, rfl⟩
    exact ⟨rfl, Below.refl _ _⟩
  · exact heldBoughS_k g cap n K w (by omega) hm ⟨h1, h2⟩ h3 h4
theorem markRope_k {w : World} {B : Nat} {v : Value} {l : List Bg} (h : BoOwn w B v l) (hm : l.length ≤ 10000000) (K : Nat) (hK : 0 < K ∧ K ≤ 400000000) :
    Calls Tryd.prog 23 #[.agg #[v], .int .i64 (K : Int)] w fun e w' => e = .returned (.int .i64 (K + l.length * 5 : Nat)) ∧ w.grownBy w' v.ownBlock ∧ BoMq K w' v l.length := by
  obtain ⟨a, c, ea, -, -⟩ := own_shp h
  exact markRope_of (K := K) (K2 := K + l.length * 5) ea h.lt (fun w1 h1 => markBo_k (own_below h h1) hm K hK)

set_option maxRecDepth 100000 in
set_option maxHeartbeats 2000000 in
theorem heldRope_k {w : World} {v : Value} {n M : Nat} (h : BoMq M w v n) (hm : n ≤ 10000000) (hM : 0 < M ∧ M ≤ 400000000) :
    Calls Tryd.prog 24 #[.agg #[v], .int .i64 (M : Int)] w fun e w' => e = .returned (.int .i64 (M + n * 5 : Nat)) ∧ Below w.heap.size w w' := by
  have hb1 : Below w.heap.size w (w.alloc (.cells #[v] 41)) := (Below.refl _ _).alloc (Nat.le_refl _) _
  have H := hide (heldBo_k (h.later hb1) hm hM)
  obtain ⟨a, c, m, ev⟩ : ∃ a c m, v = .slice a m c := by
    rcases h with ⟨-, a, c, e⟩ | ⟨g, c, e, -⟩
    · exact ⟨a, c, 0, e⟩
    · exact ⟨_, c, n, e⟩
  subst ev
  have HB := hide hb1
  have hK : decide (((M + n * 5 : Nat) : Int) < 0) = false := by rw [decide_eq_false_iff_not]; omega
  obtain ⟨K, hKe⟩ : ∃ K : Int, ((M + n * 5 : Nat) : Int) = K := ⟨_, rfl⟩
  rw [hKe] at H hK ⊢
  clear hb1 h hKe
  go_enter Tryd.func24, Tryd.ntmps24
  go_wp2_with fail
  refine H.out.mono ?_
  rintro e w2 ⟨rfl, hb2⟩
  have HB2 : Hid (Below w.heap.size w w2) := hide (HB.out.trans (hb2.mono (by simp)))
  clear hb2
  go_wp2
  go_ret
  exact ⟨rfl, HB2.out⟩
end Go.Proofs.YtgacajnljplmiabDoor
