/- Rows of boughs, and ropes, are marked from any number on. -/
import Derived.Test.YtgacajnljplmiabDoorRpH
import Derived.Test.YtgacajnljplmiabDoorWBk
set_option linter.unusedVariables false
namespace Go.Proofs.YtgacajnljplmiabDoor
open Go.RowKit
open Doc1

set_option maxHeartbeats 4000000 in
theorem markBoughS_wk (g c n K : Nat) (w : World) (hm : n ≤ 10000000) (hK : 0 < K ∧ K ≤ 500000000) (_h1 : n ≤ c ∧ c ≤ maxLen) (hg : g < w.heap.size) (hb : Blk w g (n * 5)) :
    Calls Tryd.prog 75 #[.slice (some ⟨g, 0, none⟩) n c, .int .i64 (K : Int)] w fun e w' => e = .returned (.int .i64 (K + n * 5 : Nat)) ∧ w.grownBy w' (some g) := by
  have T : Hid (∀ (K : Nat) w, 0 < K → K ≤ 1000000000 → Calls Tryd.prog 91 #[.int .i64 (K : Int)] w fun e w' => e = .returned (.string (mkT K)) ∧ Below w.heap.size w w') := hide (fun K w h1 h2 => markText_any K w h1 h2)
  go_enter Tryd.func75, Tryd.ntmps75
  go_wp2
  go_loopw [1, 5] (fun k1 i wr => ∃ k : Nat, k ≤ n ∧ i = .int .i64 k ∧ k1 = .int .i64 (K + k * 5 : Nat) ∧ Hid (WB w g (n * 5) wr)) (fun _ i _ => n - (intOf i).toNat)
  case atStart => exact ⟨0, by omega, rfl, rfl, hide (wb_start hb hg)⟩
  case round =>
    obtain ⟨k, hk, rfl, rfl, R0⟩ := hrel
    by_cases hlt : k < n
    · clear hb
      have r0 := R0.out
      obtain ⟨y0, hy0⟩ := r0.blk.ex (k * 5) (by omega)
      have f0 := r0.blk.fz (k * 5)
      have R1 := hide (r0.put (k * 5) (.int .i64 ((K : Int) + (k : Int) * 5)))
      clear r0
      have r1 := R1.out
      obtain ⟨y1, hy1⟩ := r1.blk.ex (k * 5 + 1) (by omega)
      have f1 := r1.blk.fz (k * 5 + 1)
      have R2 := hide (r1.put (k * 5 + 1) (.int .i64 ((K : Int) + (k : Int) * 5 + 1)))
      clear r1
      have r2 := R2.out
      obtain ⟨W2, hW2⟩ : ∃ W, W = ((wr.setCell ⟨g, k * 5, none⟩ (.int .i64 ((K : Int) + (k : Int) * 5))).setCell ⟨g, k * 5 + 1, none⟩ (.int .i64 ((K : Int) + (k : Int) * 5 + 1))) := ⟨_, rfl⟩
      rw [← hW2] at R2
      clear r2
      go_wp2_with fail
      rw [← hW2]
      clear hW2 hy0 f0 hy1 f1
      go_wp2_with fail
      refine (T.out (K + k * 5 + 2) W2 (by omega) (by omega)).mono ?_
      rintro e x2 ⟨rfl, hb2⟩
      have r2 := R2.out.below hb2
      obtain ⟨y2, hy2⟩ := r2.blk.ex (k * 5 + 2) (by omega)
      have f2 := r2.blk.fz (k * 5 + 2)
      have R3 := hide (r2.put (k * 5 + 2) (.string (mkT (K + k * 5 + 2))))
      clear r2 hb2
      have r3 := R3.out
      obtain ⟨y3, hy3⟩ := r3.blk.ex (k * 5 + 3) (by omega)
      have f3 := r3.blk.fz (k * 5 + 3)
      have R4 := hide (r3.put (k * 5 + 3) (.int .i64 ((K : Int) + (k : Int) * 5 + 1 + 1 + 1)))
      clear r3
      have r4 := R4.out
      obtain ⟨y4, hy4⟩ := r4.blk.ex (k * 5 + 4) (by omega)
      have f4 := r4.blk.fz (k * 5 + 4)
      have R5 := hide (r4.put (k * 5 + 4) (.int .i64 ((K : Int) + (k : Int) * 5 + 1 + 1 + 1 + 1)))
      clear r4
      obtain ⟨WZ, hWZ⟩ : ∃ W, W = (((x2.setCell ⟨g, k * 5 + 2, none⟩ (.string (mkT (K + k * 5 + 2)))).setCell ⟨g, k * 5 + 3, none⟩ (.int .i64 ((K : Int) + (k : Int) * 5 + 1 + 1 + 1))).setCell ⟨g, k * 5 + 4, none⟩ (.int .i64 ((K : Int) + (k : Int) * 5 + 1 + 1 + 1 + 1))) := ⟨_, rfl⟩
      rw [← hWZ] at R5
      go_wp2
      rw [← hWZ]
      refine ⟨⟨k + 1, by omega, by go_num, by rw [show (K : Int) + ↑k * 5 + 1 + 1 + 1 + 1 + 1 = ((K + (k + 1) * 5 : Nat) : Int) by omega], R5⟩, by simp [intOf]; omega⟩
    · obtain rfl : k = n := by omega
      go_wp2
      go_ret
      exact ⟨rfl, R0.out.grown⟩
theorem markBo_from {w : World} {g : Nat} {l : List Bg} (h : BoCp w g l) (hm : l.length ≤ 2000000) (K : Nat) (hK : 0 < K ∧ K ≤ 500000000) :
    Calls Tryd.prog 75 #[.slice (some ⟨g, 0, none⟩) l.length l.length, .int .i64 (K : Int)] w fun e w' => e = .returned (.int .i64 (K + l.length * 5 : Nat)) ∧ w.grownBy w' (some g) :=
  markBoughS_wk g l.length l.length K w (by omega) hK ⟨Nat.le_refl _, by unfold maxLen; omega⟩ h.lt h.blk
theorem markBo_on {w : World} {g : Nat} {l : List Bg} (h : BoCp w g l) (hm : l.length ≤ 2000000) (K : Nat) (hK : 0 < K ∧ K ≤ 500000000) {a : Int} (ha : a = (K : Int)) :
    Calls Tryd.prog 75 #[.slice (some ⟨g, 0, none⟩) l.length l.length, .int .i64 a] w fun e w' => e = .returned (.int .i64 (K + l.length * 5 : Nat)) ∧ w.grownBy w' (some g) := by
  subst ha; exact markBo_from h hm K hK

theorem markRope_on {w : World} {g : Nat} {l : List Bg} (h : BoCp w g l) (hm : l.length ≤ 2000000) (K : Nat) (hK : 0 < K ∧ K ≤ 500000000) :
    Calls Tryd.prog 23 #[.agg #[.slice (some ⟨g, 0, none⟩) l.length l.length], .int .i64 (K : Int)] w fun e w' => e = .returned (.int .i64 (K + l.length * 5 : Nat)) ∧ w.grownBy w' (some g) := by
  refine (markRope_of (K := K) (K2 := K + l.length * 5) (Φ := fun _ => True) (v := .slice (some ⟨g, 0, none⟩) l.length l.length) rfl (fun y hy => by cases hy; exact h.lt) (fun w1 h1 => (markBo_from (h.later h1) hm K hK).mono (fun e w' ⟨k1, k2⟩ => ⟨k1, k2, trivial⟩))).mono ?_
  rintro e w' ⟨rfl, h1, -⟩
  exact ⟨rfl, h1⟩
end Go.Proofs.YtgacajnljplmiabDoor
