/- The small functions of a sequence's atoms: ids, compared ids. -/
import Derived.Test.YtnhooalibadeeabDoorSeqH
import Derived.Test.YtnhooalibadeeabDoorWalks1
import Derived.Deep.QuietTactic
import Derived.BigQuiet
import Derived.Deep.RegionWith
import Derived.Deep.RegionHeld3
set_option linter.unusedVariables false
namespace Go.Proofs.YtnhooalibadeeabDoor
open Go.RowKit
open Doc1

set_option maxRecDepth 100000 in
set_option maxHeartbeats 1000000 in
theorem id_any (x : Am) (w : World) :
    Calls Tryd.prog 28 #[amV x] w fun e w' => e = .returned (.agg #[.int .i64 x.time, .int .i64 x.actor]) ∧ Below w.heap.size w w' := by
  unfold amV
  go_enter Tryd.func28, Tryd.ntmps28
  go_wp2
  refine bodyPost_ret (v := .agg #[.int .i64 x.time, .int .i64 x.actor]) (by simp [results, Tryd.results28, go_sem]) rfl ⟨rfl, ?_⟩
  exact ((Below.refl _ _).alloc (Nat.le_refl _) _).alloc (by simp) _

set_option maxRecDepth 100000 in
set_option maxHeartbeats 1000000 in
theorem above_any (x : Am) (w : World) :
    Calls Tryd.prog 58 #[amV x] w fun e w' => e = .returned (.agg #[.int .i64 x.above, .int .i64 x.maker]) ∧ Below w.heap.size w w' := by
  unfold amV
  go_enter Tryd.func58, Tryd.ntmps58
  go_wp2
  refine bodyPost_ret (v := .agg #[.int .i64 x.above, .int .i64 x.maker]) (by simp [results, Tryd.results58, go_sem]) rfl ⟨rfl, ?_⟩
  exact ((Below.refl _ _).alloc (Nat.le_refl _) _).alloc (by simp) _

/-- How two numbers are compared. -/
def cmpI (a b : Int) : Int := if a < b then -1 else if b < a then 1 else 0
def cmp2 (a b c d : Int) : Int := if a < c then -1 else if c < a then 1 else if b < d then -1 else if d < b then 1 else 0

set_option maxRecDepth 100000 in
set_option maxHeartbeats 1000000 in
theorem isNaN_any (a : Int) (w : World) :
    Calls Tryd.prog 83 #[.int .i64 a] w fun e w' => e = .returned (.bool false) ∧ w' = w := by
  go_enter Tryd.func83, Tryd.ntmps83
  go_wp2
  go_ret
  simp

set_option maxRecDepth 100000 in
set_option maxHeartbeats 1000000 in
theorem cmpCompare_any (a b : Int) (w : World) :
    Calls Tryd.prog 73 #[.int .i64 a, .int .i64 b] w fun e w' => e = .returned (.int .i64 (cmpI a b)) ∧ w' = w := by
  obtain ⟨R, hR⟩ : ∃ R, R = cmpI a b := ⟨_, rfl⟩
  rw [← hR]
  unfold cmpI at hR
  have HR := hide hR
  clear hR
  have N := hide (fun a w => isNaN_any a w)
  by_cases h1 : a < b
  · go_enter Tryd.func73, Tryd.ntmps73
    go_wp2_with (go_at_call 83; refine (N.out _ _).mono ?_; rintro e w' ⟨rfl, hw⟩; replace hw := hw.symm; subst hw)
    go_ret
    rw [HR.out, if_pos h1]; exact ⟨rfl, rfl⟩
  · by_cases h2 : b < a
    · go_enter Tryd.func73, Tryd.ntmps73
      go_wp2_with (go_at_call 83; refine (N.out _ _).mono ?_; rintro e w' ⟨rfl, hw⟩; replace hw := hw.symm; subst hw)
      go_ret
      rw [HR.out, if_neg (by omega), if_pos h2]; exact ⟨rfl, rfl⟩
    · go_enter Tryd.func73, Tryd.ntmps73
      go_wp2_with (go_at_call 83; refine (N.out _ _).mono ?_; rintro e w' ⟨rfl, hw⟩; replace hw := hw.symm; subst hw)
      go_ret
      rw [HR.out, if_neg (by omega), if_neg (by omega)]; exact ⟨rfl, rfl⟩

set_option maxRecDepth 100000 in
set_option maxHeartbeats 2000000 in
/-- Two rows of two numbers are compared. -/
theorem compareS_two (ga gb : Nat) (a b c d : Int) (w : World) (h0 : w.cell? ⟨ga, 0, none⟩ = some (.int .i64 a)) (h1 : w.cell? ⟨ga, 1, none⟩ = some (.int .i64 b)) (k0 : w.cell? ⟨gb, 0, none⟩ = some (.int .i64 c)) (k1 : w.cell? ⟨gb, 1, none⟩ = some (.int .i64 d)) :
    Calls Tryd.prog 52 #[.slice (some ⟨ga, 0, none⟩) 2 2, .slice (some ⟨gb, 0, none⟩) 2 2] w fun e w' => e = .returned (.int .i64 (cmp2 a b c d)) ∧ w' = w := by
  have N := hide (fun a b w => cmpCompare_any a b w)
  obtain ⟨R, hR⟩ : ∃ R, R = cmp2 a b c d := ⟨_, rfl⟩
  rw [← hR]
  unfold cmp2 at hR
  have HR := hide hR
  clear hR
  go_enter Tryd.func52, Tryd.ntmps52
  go_wp2
  go_loopw [11] (fun i wr => ∃ k : Nat, k ≤ 2 ∧ i = .int .i64 k ∧ Hid ((1 ≤ k → a = c) ∧ (2 ≤ k → b = d)) ∧ wr = w) (fun i _ => 2 - (intOf i).toNat)
  case atStart => exact ⟨0, by omega, rfl, hide ⟨fun h => by omega, fun h => by omega⟩, rfl⟩
  case round =>
    obtain ⟨k, hk, rfl, he, hw⟩ := hrel
    subst hw
    rcases (show k = 0 ∨ k = 1 ∨ k = 2 by omega) with rfl | rfl | rfl
    · have N1 := hide (fun w => N.out a c w)
      by_cases q1 : a < c
      · rw [show cmpI a c = -1 by unfold cmpI; rw [if_pos q1]] at N1
        have Q := hide q1
        clear q1
        go_wp2_with (go_at_call 73; refine (N1.out _).mono ?_; rintro e w' ⟨rfl, hw⟩; replace hw := hw.symm; subst hw)
        go_ret
        rw [HR.out, if_pos Q.out]; exact ⟨rfl, rfl⟩
      · by_cases q2 : c < a
        · rw [show cmpI a c = 1 by unfold cmpI; rw [if_neg q1, if_pos q2]] at N1
          have Q := hide q1
          have Q2 := hide q2
          clear q1 q2
          go_wp2_with (go_at_call 73; refine (N1.out _).mono ?_; rintro e w' ⟨rfl, hw⟩; replace hw := hw.symm; subst hw)
          go_ret
          rw [HR.out, if_neg (by have := Q.out; omega), if_pos Q2.out]; exact ⟨rfl, rfl⟩
        · rw [show cmpI a c = 0 by unfold cmpI; rw [if_neg q1, if_neg q2]] at N1
          have Q := hide (show a = c by omega)
          clear q1 q2
          go_wp2_with (go_at_call 73; refine (N1.out _).mono ?_; rintro e w' ⟨rfl, hw⟩; replace hw := hw.symm; subst hw)
          exact ⟨⟨1, by omega, rfl, hide ⟨fun _ => Q.out, fun h => by omega⟩, by trivial⟩, by simp [intOf]⟩
    · have N1 := hide (fun w => N.out b d w)
      have QE := hide (he.out.1 (by omega))
      by_cases q1 : b < d
      · rw [show cmpI b d = -1 by unfold cmpI; rw [if_pos q1]] at N1
        have Q := hide q1
        clear q1
        go_wp2_with (go_at_call 73; refine (N1.out _).mono ?_; rintro e w' ⟨rfl, hw⟩; replace hw := hw.symm; subst hw)
        go_ret
        rw [HR.out, if_neg (by have := QE.out; omega), if_neg (by have := QE.out; omega), if_pos Q.out]; exact ⟨rfl, rfl⟩
      · by_cases q2 : d < b
        · rw [show cmpI b d = 1 by unfold cmpI; rw [if_neg q1, if_pos q2]] at N1
          have Q := hide q1
          have Q2 := hide q2
          clear q1 q2
          go_wp2_with (go_at_call 73; refine (N1.out _).mono ?_; rintro e w' ⟨rfl, hw⟩; replace hw := hw.symm; subst hw)
          go_ret
          rw [HR.out, if_neg (by have := QE.out; omega), if_neg (by have := QE.out; omega), if_neg (by have := Q.out; omega), if_pos Q2.out]; exact ⟨rfl, rfl⟩
        · rw [show cmpI b d = 0 by unfold cmpI; rw [if_neg q1, if_neg q2]] at N1
          have Q := hide (show b = d by omega)
          clear q1 q2
          go_wp2_with (go_at_call 73; refine (N1.out _).mono ?_; rintro e w' ⟨rfl, hw⟩; replace hw := hw.symm; subst hw)
          exact ⟨⟨2, by omega, rfl, hide ⟨fun _ => QE.out, fun _ => Q.out⟩, by trivial⟩, by simp [intOf]⟩
    · have QE := hide (he.out.1 (by omega))
      have QF := hide (he.out.2 (by omega))
      go_wp2
      go_ret
      rw [HR.out, if_neg (by have := QE.out; omega), if_neg (by have := QE.out; omega), if_neg (by have := QF.out; omega), if_neg (by have := QF.out; omega)]; exact ⟨rfl, rfl⟩

set_option maxRecDepth 100000 in
set_option maxHeartbeats 2000000 in
theorem compare_any (a b c d : Int) (w : World) :
    Calls Tryd.prog 32 #[.agg #[.int .i64 a, .int .i64 b], .agg #[.int .i64 c, .int .i64 d]] w fun e w' => e = .returned (.int .i64 (cmp2 a b c d)) ∧ Below w.heap.size w w' := by
  obtain ⟨w1, hw1⟩ : ∃ w1, w1 = (w.alloc (.cells #[.int .i64 a, .int .i64 b] 52)).alloc (.cells #[.int .i64 c, .int .i64 d] 52) := ⟨_, rfl⟩
  have hb1 : Below w.heap.size w w1 := by rw [hw1]; exact ((Below.refl _ _).alloc (Nat.le_refl _) _).alloc (by simp) _
  have e1 : (w.alloc (.cells #[.int .i64 a, .int .i64 b] 52)).heap.size = w.heap.size + 1 := by simp
  have g1 := heap_alloc_new w (.cells #[.int .i64 a, .int .i64 b] 52)
  have g2 := heap_alloc_new (w.alloc (.cells #[.int .i64 a, .int .i64 b] 52)) (.cells #[.int .i64 c, .int .i64 d] 52)
  have g3 : w1.heap[w.heap.size]? = some (.cells #[.int .i64 a, .int .i64 b] 52) := by
    rw [hw1]
    have hb := ((Below.refl (w.alloc (.cells #[.int .i64 a, .int .i64 b] 52)).heap.size (w.alloc (.cells #[.int .i64 a, .int .i64 b] 52))).alloc (Nat.le_refl _) (.cells #[.int .i64 c, .int .i64 d] 52))
    rw [hb.block w.heap.size (by omega)]
    exact g1
  rw [← hw1, e1] at g2
  have hsz : w1.heap.size = w.heap.size + 2 := by rw [hw1]; simp
  have N : Hid (∀ wq, Below w1.heap.size w1 wq → Calls Tryd.prog 52 #[.slice (some ⟨w.heap.size, 0, none⟩) 2 2, .slice (some ⟨w.heap.size + 1, 0, none⟩) 2 2] wq fun e w' => e = .returned (.int .i64 (cmp2 a b c d)) ∧ w' = wq) := hide (fun wq hq => by
    have k3 := (hq.block w.heap.size (by omega)).trans g3
    have k2 := (hq.block (w.heap.size + 1) (by omega)).trans g2
    exact compareS_two w.heap.size (w.heap.size + 1) a b c d wq (by rw [cell_of_row wq w.heap.size 0 _ _ (0, 0) k3]; rfl) (by rw [cell_of_row wq w.heap.size 1 _ _ (0, 0) k3]; rfl) (by rw [cell_of_row wq (w.heap.size + 1) 0 _ _ (0, 0) k2]; rfl) (by rw [cell_of_row wq (w.heap.size + 1) 1 _ _ (0, 0) k2]; rfl))
  have HB := hide hb1
  clear hb1 e1 g1 g2 g3 hsz
  go_enter Tryd.func32, Tryd.ntmps32
  go_wp2_with fail
  rw [← hw1]
  clear hw1
  go_region_with (go_at_call 52; refine (N.out _ (by first | exact Below.refl _ _ | exact (Below.refl _ _).drew)).mono ?_; rintro e w' ⟨rfl, hw⟩; replace hw := hw.symm; subst hw)
  all_goals
    go_wp2
    go_ret
    exact ⟨rfl, by first | exact HB.out | exact HB.out.drew⟩
end Go.Proofs.YtnhooalibadeeabDoor
