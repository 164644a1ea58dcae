/- Rows are marked, from any number on. -/
import Derived.Test.YtknilofnelhgmaaDoorRowsMark
import Derived.Test.YtknilofnelhgmaaDoorRowsPart
namespace Go.Proofs.YtknilofnelhgmaaDoor
open Go.RowKit
open Doc1

/-- A block that is written, all else as it was. -/
structure WB (w : World) (g n : Nat) (wr : World) : Prop where
  blk : Blk wr g n
  grown : w.grownBy wr (some g)
  lt : g < w.heap.size
theorem WB.below {w wr w1 : World} {g n : Nat} (h : WB w g n wr) (hb : Below wr.heap.size wr w1) : WB w g n w1 := by
  have hg : g < wr.heap.size := Nat.lt_of_lt_of_le h.lt h.grown.size
  exact ⟨h.blk.later hb hg, grown_below h.grown hb, h.lt⟩
theorem WB.put {w wr : World} {g n : Nat} (h : WB w g n wr) (c : Nat) (v : Value) : WB w g n (wr.setCell ⟨g, c, none⟩ v) := ⟨h.blk.set c _, grown_set h.grown c _, h.lt⟩
theorem wb_start {w : World} {g n : Nat} (hb : Blk w g n) (hg : g < w.heap.size) : WB w g n w := ⟨hb, ⟨rfl, rfl, rfl, Nat.le_refl _, fun _ _ _ => rfl⟩, hg⟩

set_option maxHeartbeats 4000000 in
theorem markPartS_wk (g c n K : Nat) (w : World) (hm : n ≤ 10000000) (hK : 0 < K ∧ K ≤ 500000000) (_h1 : n ≤ c ∧ c ≤ maxLen) (hg : g < w.heap.size) (hb : Blk w g (n * 3)) :
    Calls Tryd.prog 44 #[.slice (some ⟨g, 0, none⟩) n c, .int .i64 (K : Int)] w fun e w' => e = .returned (.int .i64 (K + n * 3 : Nat)) ∧ w.grownBy w' (some g) := by
  have T : Hid (∀ (K : Nat) w, 0 < K → K ≤ 1000000000 → Calls Tryd.prog 86 #[.int .i64 (K : Int)] w fun e w' => e = .returned (.string (mkT K)) ∧ Below w.heap.size w w') := hide (fun K w h1 h2 => markText_any K w h1 h2)
  go_enter Tryd.func44, Tryd.ntmps44
  go_wp2
  go_loopw [1, 5] (fun k1 i wr => ∃ k : Nat, k ≤ n ∧ i = .int .i64 k ∧ k1 = .int .i64 (K + k * 3 : Nat) ∧ Hid (WB w g (n * 3) wr)) (fun _ i _ => n - (intOf i).toNat)
  case atStart => exact ⟨0, by omega, rfl, rfl, hide (wb_start hb hg)⟩
  case round =>
    obtain ⟨k, hk, rfl, rfl, R0⟩ := hrel
    by_cases hlt : k < n
    · clear hb
      have r0 := R0.out
      obtain ⟨y0, hy0⟩ := r0.blk.ex (k * 3) (by omega)
      have f0 := r0.blk.fz (k * 3)
      have R1 := hide (r0.put (k * 3) (.int .i64 ((K : Int) + (k : Int) * 3)))
      clear r0
      have r1 := R1.out
      obtain ⟨W1, hW1⟩ : ∃ W, W = (wr.setCell ⟨g, k * 3, none⟩ (.int .i64 ((K : Int) + (k : Int) * 3))) := ⟨_, rfl⟩
      rw [← hW1] at R1
      clear r1
      go_wp2_with fail
      rw [← hW1]
      clear hW1 hy0 f0
      go_wp2_with fail
      refine (T.out (K + k * 3 + 1) W1 (by omega) (by omega)).mono ?_
      rintro e x1 ⟨rfl, hb1⟩
      have r1 := R1.out.below hb1
      obtain ⟨y1, hy1⟩ := r1.blk.ex (k * 3 + 1) (by omega)
      have f1 := r1.blk.fz (k * 3 + 1)
      have R2 := hide (r1.put (k * 3 + 1) (.string (mkT (K + k * 3 + 1))))
      clear r1 hb1
      have r2 := R2.out
      obtain ⟨W2, hW2⟩ : ∃ W, W = (x1.setCell ⟨g, k * 3 + 1, none⟩ (.string (mkT (K + k * 3 + 1)))) := ⟨_, rfl⟩
      rw [← hW2] at R2
      clear r2
      go_wp2_with fail
      rw [← hW2]
      clear hW2 hy1 f1
      go_wp2_with fail
      refine (T.out (K + k * 3 + 2) W2 (by omega) (by omega)).mono ?_
      rintro e x2 ⟨rfl, hb2⟩
      have r2 := R2.out.below hb2
      obtain ⟨y2, hy2⟩ := r2.blk.ex (k * 3 + 2) (by omega)
      have f2 := r2.blk.fz (k * 3 + 2)
      have R3 := hide (r2.put (k * 3 + 2) (.string (mkT (K + k * 3 + 2))))
      clear r2 hb2
      obtain ⟨WZ, hWZ⟩ : ∃ W, W = (x2.setCell ⟨g, k * 3 + 2, none⟩ (.string (mkT (K + k * 3 + 2)))) := ⟨_, rfl⟩
      rw [← hWZ] at R3
      go_wp2
      rw [← hWZ]
      refine ⟨⟨k + 1, by omega, by go_num, by rw [show (K : Int) + ↑k * 3 + 1 + 1 + 1 = ((K + (k + 1) * 3 : Nat) : Int) by omega], R3⟩, by simp [intOf]; omega⟩
    · obtain rfl : k = n := by omega
      go_wp2
      go_ret
      exact ⟨rfl, R0.out.grown⟩
theorem markP_from {w : World} {g : Nat} {l : List Pt} (h : PCp w g l) (hm : l.length ≤ 2000000) (K : Nat) (hK : 0 < K ∧ K ≤ 500000000) :
    Calls Tryd.prog 44 #[.slice (some ⟨g, 0, none⟩) l.length l.length, .int .i64 (K : Int)] w fun e w' => e = .returned (.int .i64 (K + l.length * 3 : Nat)) ∧ w.grownBy w' (some g) :=
  markPartS_wk g l.length l.length K w (by omega) hK ⟨Nat.le_refl _, by unfold maxLen; omega⟩ h.lt h.blk
theorem markP_on {w : World} {g : Nat} {l : List Pt} (h : PCp w g l) (hm : l.length ≤ 2000000) (K : Nat) (hK : 0 < K ∧ K ≤ 500000000) {a : Int} (ha : a = (K : Int)) :
    Calls Tryd.prog 44 #[.slice (some ⟨g, 0, none⟩) l.length l.length, .int .i64 a] w fun e w' => e = .returned (.int .i64 (K + l.length * 3 : Nat)) ∧ w.grownBy w' (some g) := by
  subst ha; exact markP_from h hm K hK
theorem PCp.grown {w w1 : World} {g g0 : Nat} {l : List Pt} (h : PCp w g l) (hg : w.grownBy w1 (some g0)) (hne : g ≠ g0) : PCp w1 g l := by
  have e := hg.block g h.lt (fun c => hne (Option.some.inj c))
  exact ⟨fun j u hu => (World.cell?_of_block e).trans (h.at' j u hu), ⟨fun j hj => by rw [World.cell?_of_block e]; exact h.blk.ex j hj, fun j => by rw [World.frozen?_of_block e]; exact h.blk.fz j⟩, Nat.lt_of_lt_of_le h.lt hg.size⟩

end Go.Proofs.YtknilofnelhgmaaDoor
