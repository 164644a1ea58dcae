/- The model's l12Split. -/
import Derived.Test.YtgacajnljplmiabDoorRptc
set_option linter.unusedVariables false
namespace Go.Proofs.YtgacajnljplmiabDoor
open Go.RowKit
open Doc1

/-- Two rows of boughs that may lie in what was there. -/
def SqPost (w : World) (o1 o2 : Option Lm) (e : Ending) (w' : World) : Prop := ∃ a1 c1 a2 c2, e = .returned (.tuple #[.slice a1 (bo o1).length c1, .slice a2 (bo o2).length c2]) ∧ BoIn w' a1 c1 (bo o1) ∧ BoIn w' a2 c2 (bo o2) ∧ Below w.heap.size w w'

set_option maxRecDepth 100000 in
set_option maxHeartbeats 4000000 in
theorem l12Split_zero (o : Option Lm) (a : Option Addr) (cap : Nat) (w : World) (h : BoIn w a cap (bo o)) :
    Calls Tryd.prog 68 #[.slice a (bo o).length cap, .int .i64 0] w (SqPost w none o) := by
  have H := hide h
  unfold SqPost
  obtain ⟨L, hL⟩ : ∃ L, bo o = L := ⟨_, rfl⟩
  rw [hL] at H ⊢
  clear h hL
  go_enter Tryd.func68, Tryd.ntmps68
  go_wp2
  go_ret2
  exact ⟨none, 0, _, _, rfl, BoIn.nil _ _ _ (by decide), H.out, Below.refl _ _⟩

set_option maxRecDepth 100000 in
set_option maxHeartbeats 4000000 in
theorem l12Split_all (t : Lm) (a : Option Addr) (cap : Nat) (w : World) (h : BoIn w a cap (bo (some t))) (h0 : 0 < t.sz) (hn : t.nb ≤ 10000) :
    Calls Tryd.prog 68 #[.slice a (bo (some t)).length cap, .int .i64 (t.sz : Int)] w (SqPost w (some t) none) := by
  have H := hide h
  have Z := hide (l12Size_any h (by rw [bo_len]; show t.nb ≤ _; omega))
  rw [lastZ_bo, show szO (some t) = t.sz from rfl] at Z
  unfold SqPost
  obtain ⟨L, hL⟩ : ∃ L, bo (some t) = L := ⟨_, rfl⟩
  rw [hL] at H Z ⊢
  have h1 : ((t.sz : Int) == 0) = false := by rw [beq_eq_false_iff_ne]; omega
  clear h hL
  go_enter Tryd.func68, Tryd.ntmps68
  go_wp2_with fail
  refine Z.out.mono ?_
  rintro e w1 ⟨rfl, rfl⟩
  go_wp2
  go_ret2
  exact ⟨_, _, none, 0, rfl, H.out, BoIn.nil _ _ _ (by decide), Below.refl _ _⟩

set_option maxRecDepth 100000 in
set_option maxHeartbeats 4000000 in
theorem l12Split_pc (s : ByteArray) (n : Nat) (a : Option Addr) (cap : Nat) (w : World) (h : BoIn w a cap (bo (some (.pc s)))) (h0 : 0 < n) (hn : n < s.size) (hs : s.size ≤ 100000) :
    Calls Tryd.prog 68 #[.slice a (bo (some (.pc s))).length cap, .int .i64 (n : Int)] w (SqPost w (some (.pc (s.extract 0 n))) (some (.pc (s.extract n s.size)))) := by
  have Z := hide (l12Size_any h (by rw [bo_len]; show 1 ≤ _; omega))
  rw [lastZ_bo, show szO (some (.pc s)) = s.size from rfl] at Z
  obtain ⟨g, rfl, hg, hc⟩ := h.ad (by simp [bo, Lm.pd])
  have hcl := h.le
  have hcm := h.mx
  unfold maxLen at hcm
  obtain ⟨b0, b1, b2, b3, b4⟩ := hc.bgat 0 (by simp [bo, Lm.pd])
  have hlen : (bo (some (.pc s))).length = 1 := by simp [bo, Lm.pd]
  rw [hlen] at Z hcl ⊢
  have b0' : w.cell? ⟨g, 0, none⟩ = some (.int .i64 (-1)) := b0
  have b1' : w.cell? ⟨g, 1, none⟩ = some (.int .i64 (-1)) := b1
  have b2' : w.cell? ⟨g, 2, none⟩ = some (.string s) := b2
  have b3' : w.cell? ⟨g, 3, none⟩ = some (.int .i64 (s.size : Int)) := b3
  have b4' : w.cell? ⟨g, 4, none⟩ = some (.int .i64 0) := b4
  have h1 : ((n : Int) == 0) = false := by rw [beq_eq_false_iff_ne]; omega
  have h2 : ((n : Int) == (s.size : Int)) = false := by rw [beq_eq_false_iff_ne]; omega
  have hle : (n : Int) ≤ (s.size : Int) := by omega
  have z1 : (s.extract 0 n).size ≤ 1000000 := by rw [ByteArray.size_extract]; omega
  have z2 : (s.extract n s.size).size ≤ 1000000 := by rw [ByteArray.size_extract]; omega
  have P1 := hide (fun w => l12Piece_any (s.extract 0 n) w z1)
  have P2 := hide (fun w => l12Piece_any (s.extract n s.size) w z2)
  unfold OwPost at P1 P2
  unfold SqPost
  obtain ⟨L1, hL1⟩ : ∃ L, bo (some (.pc (s.extract 0 n))) = L := ⟨_, rfl⟩
  obtain ⟨L2, hL2⟩ : ∃ L, bo (some (.pc (s.extract n s.size))) = L := ⟨_, rfl⟩
  rw [hL1] at P1 ⊢
  rw [hL2] at P2 ⊢
  obtain ⟨w1, hw1⟩ : ∃ w1, w1 = w.alloc (.cells #[.int .i64 (-1), .int .i64 (-1), .string s, .int .i64 (s.size : Int), .int .i64 0] 65) := ⟨_, rfl⟩
  have hb1 : Below w.heap.size w w1 := by rw [hw1]; exact (Below.refl _ _).alloc (Nat.le_refl _) _
  have KC : Hid (∀ w', Below w1.heap.size w1 w' → w'.cell? ⟨w.heap.size, 2, none⟩ = some (.string s)) := hide (fun w' hb => by
    have e : w'.heap[w.heap.size]? = some (.cells #[.int .i64 (-1), .int .i64 (-1), .string s, .int .i64 (s.size : Int), .int .i64 0] 65) := by
      rw [hb.block _ (by rw [hw1]; simp), hw1]; exact heap_alloc_new w _
    rw [cell_of_row _ _ 2 _ _ (0, 0) e]; rfl)
  have HB1 := hide hb1
  clear h hc b0 b1 b2 b3 b4 hL1 hL2 z1 z2 hlen hb1
  go_enter Tryd.func68, Tryd.ntmps68
  go_wp2_with fail
  refine Z.out.mono ?_
  rintro e w0 ⟨rfl, rfl⟩
  clear Z
  go_wp2_with fail
  rw [← hw1]
  clear hw1
  go_region_held3 (fun w' => w'.cell? ⟨w0.heap.size, 2, none⟩ = some (.string s))
    (first | assumption | exact KC.out _ (Below.refl _ _) | exact KC.out _ (Below.refl _ _).drew | exact KC.out _ hq2 | exact KC.out _ hq1)
    (first
      | (go_at_call 83; refine (P2.out _).mono ?_; rintro e w3 ⟨v3, rfl, o3, hb3⟩; obtain ⟨a3, c3, rfl, i3⟩ := o3.inn; have I3 := hide i3; have I2' := hide (I2.out.later hb3); have hq2 : Below w1.heap.size w1 w3 := hq1.trans (hb3.mono hq1.size); clear o3 i3 hb3)
      | (go_at_call 83; refine (P1.out _).mono ?_; rintro e w2 ⟨v2, rfl, o2, hb2⟩; obtain ⟨a2, c2, rfl, i2⟩ := o2.inn; have I2 := hide i2; have hq1 : Below w1.heap.size w1 w2 := (Below.refl _ _).drew.trans hb2; clear o2 i2 hb2))
  all_goals
    go_wp2
    go_ret2
    exact ⟨_, _, _, _, rfl, I2'.out, I3.out, HB1.out.trans (hq2.mono HB1.out.size)⟩
end Go.Proofs.YtgacajnljplmiabDoor
