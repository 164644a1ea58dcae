/- What sinks in the heap of ends. -/
import Derived.Test.YtknodkdlphngmawDoorHeapV
namespace Go.Proofs.YtknodkdlphngmawDoor
open Go.RowKit
open Doc1

theorem ahead_at {h g cap : Nat} {l : List En} {w : World} (H : Hl h g cap l w) {i j : Nat} (hi : i < l.length) (hj : j < l.length) {a b : Int} (ha : a = i) (hb : b = j) :
    Calls Tryd.prog 66 #[.pointer (some ⟨h, 0, none⟩), .int .i64 a, .int .i64 b] w fun e w' => e = .returned (.bool (ahE l[i] l[j])) ∧ Below w.heap.size w w' := by
  subst ha hb; exact ahead_any H hi hj
theorem swap_at {h g cap : Nat} {l : List En} {w : World} (H : Hl h g cap l w) {i j : Nat} (hi : i < l.length) (hj : j < l.length) {a b : Int} (ha : a = i) (hb : b = j) :
    Calls Tryd.prog 67 #[.pointer (some ⟨h, 0, none⟩), .int .i64 a, .int .i64 b] w fun e w' => e = .returned (.tuple #[]) ∧ Hl h g cap (sw dE l i j) w' ∧ Moves (fun k => k = g) w (fun k => k = g) w' := by
  subst ha hb; rw [← sw_eq hi hj]; exact swap_any H hi hj

set_option maxRecDepth 100000 in
set_option maxHeartbeats 8000000 in
theorem sink_any {h g cap : Nat} {l : List En} {w : World} (H : Hl h g cap l w) (hx : HpS dE ahE l 0) (hl : l.length ≤ 1000000) :
    Calls Tryd.prog 68 #[.int .i64 (l.length : Int), aheadV h, swapV h] w fun e w' => e = .returned (.tuple #[]) ∧ ∃ l', Same l l' ∧ Hp dE ahE l' ∧ Hl h g cap l' w' ∧ Moves (fun k => k = g) w (fun k => k = g) w' := by
  have H0 : Hid (∃ l', Same l l' ∧ HpS dE ahE l' 0 ∧ Hl h g cap l' w ∧ Moves (fun k => k = g) w (fun k => k = g) w) := hide ⟨l, Same.refl l, hx, H, Moves.refl _ _⟩
  unfold aheadV swapV
  clear H hx
  go_enter Tryd.func68, Tryd.ntmps68
  go_wp2_with fail
  go_loopw [6] (fun a wr => ∃ k : Nat, a = .int .i64 (k : Int) ∧ k ≤ l.length ∧ Hid (∃ l', Same l l' ∧ HpS dE ahE l' k ∧ Hl h g cap l' wr ∧ Moves (fun k => k = g) w (fun k => k = g) wr)) (fun a _ => l.length - (intOf a).toNat)
  case atStart => exact ⟨0, rfl, by omega, H0⟩
  case round =>
    obtain ⟨k, rfl, hk, HK⟩ := hrel
    obtain ⟨l', s, x, hl', m⟩ := HK.out
    have hsl := s.len
    have HM := hide m
    have Hs := hide s
    clear HK m s
    by_cases hn : 2 * k + 1 < l.length
    · have n1 : 2 * (k : Int) + 1 < (l.length : Int) := by omega
      have kl : k < l'.length := by omega
      have ql : 2 * k + 1 < l'.length := by omega
      by_cases hn2 : 2 * k + 2 < l.length
      · have n2 : 2 * (k : Int) + 1 + 1 < (l.length : Int) := by omega
        have rl : 2 * k + 2 < l'.length := by omega
        have HA1 := hide (ahead_at hl' rl ql (a := 2 * (k : Int) + 1 + 1) (b := 2 * (k : Int) + 1) (by omega) (by omega))
        cases h1 : ahE l'[2 * k + 2] l'[2 * k + 1] with
        | true =>
          rw [h1] at HA1
          have hm : ∀ kk, 0 < kk → kk < l'.length → (kk - 1) / 2 = k → le ahE (gt dE l' (2 * k + 2)) (gt dE l' kk) := fun kk a b c => by
            have : kk = 2 * k + 1 ∨ kk = 2 * k + 2 := by omega
            rcases this with rfl | rfl
            · rw [gt_at rl, gt_at ql]; exact ahE_ord.le_of_lt h1
            · exact ahE_ord.refl _
          clear h1
          have HA2 := hide (fun w2 (hb : Below wr.heap.size wr w2) => ahead_at (hl'.up hb) rl kl (a := (2 * (k : Int) + 1 + 1)) (b := (k : Int)) (by omega) rfl)
          cases h2 : ahE l'[(2 * k + 2)] l'[k] with
          | false =>
            rw [h2] at HA2
            have HF : Hid (Hp dE ahE l') := hide (hps_done x (fun kk a b c => ahE_ord.trans (by rw [gt_at kl, gt_at rl]; exact h2) (hm kk a b c)))
            have HL := hide hl'
            clear h2 hm x hl'
            go_wp2_with (first | (go_at_call 66; have _tk := hb1; refine (HA2.out _ hb1).mono ?_; rintro e w2 ⟨rfl, hb2⟩) | (go_at_call 66; refine HA1.out.mono ?_; rintro e w1 ⟨rfl, hb1⟩))
            (try simp only [Exit.inBlock, Exit.then])
            refine bodyPost_ret (results_none rfl _ _ _) rfl ?_
            exact ⟨rfl, l', Hs.out, HF.out, HL.out.up (hb1.trans (hb2.mono hb1.size)), HM.out.trans (mv_up (hb1.trans (hb2.mono hb1.size)))⟩
          | true =>
            rw [h2] at HA2
            have HX : Hid (HpS dE ahE (sw dE l' k (2 * k + 2)) (2 * k + 2)) := hide (hps_swap ahE_ord x kl rl (by omega) (by omega) (by rw [gt_at kl, gt_at rl]; exact h2) hm)
            have HS := hide (fun w2 (hb : Below wr.heap.size wr w2) => swap_at (hl'.up hb) kl rl (a := (k : Int)) (b := (2 * (k : Int) + 1 + 1)) rfl (by omega))
            have HL := hide (same_sw kl rl)
            clear h2 hm x hl'
            go_wp2_with (first | (go_at_call 67; refine (HS.out _ (hb1.trans (hb2.mono hb1.size))).mono ?_; rintro e w3 ⟨rfl, hl3, hm3⟩) | (go_at_call 66; have _tk := hb1; refine (HA2.out _ hb1).mono ?_; rintro e w2 ⟨rfl, hb2⟩) | (go_at_call 66; refine HA1.out.mono ?_; rintro e w1 ⟨rfl, hb1⟩))
            go_roundw
            case rel => exact ⟨(2 * k + 2), by go_num, by omega, hide ⟨_, Hs.out.trans HL.out, HX.out, hl3, (HM.out.trans (mv_up (hb1.trans (hb2.mono hb1.size)))).trans hm3⟩⟩
            case measure => simp [intOf]; omega
        | false =>
          rw [h1] at HA1
          have hm : ∀ kk, 0 < kk → kk < l'.length → (kk - 1) / 2 = k → le ahE (gt dE l' (2 * k + 1)) (gt dE l' kk) := fun kk a b c => by
            have : kk = 2 * k + 1 ∨ kk = 2 * k + 2 := by omega
            rcases this with rfl | rfl
            · exact ahE_ord.refl _
            · rw [gt_at rl, gt_at ql]; exact h1
          clear h1
          have HA2 := hide (fun w2 (hb : Below wr.heap.size wr w2) => ahead_at (hl'.up hb) ql kl (a := (2 * (k : Int) + 1)) (b := (k : Int)) (by omega) rfl)
          cases h2 : ahE l'[(2 * k + 1)] l'[k] with
          | false =>
            rw [h2] at HA2
            have HF : Hid (Hp dE ahE l') := hide (hps_done x (fun kk a b c => ahE_ord.trans (by rw [gt_at kl, gt_at ql]; exact h2) (hm kk a b c)))
            have HL := hide hl'
            clear h2 hm x hl'
            go_wp2_with (first | (go_at_call 66; have _tk := hb1; refine (HA2.out _ hb1).mono ?_; rintro e w2 ⟨rfl, hb2⟩) | (go_at_call 66; refine HA1.out.mono ?_; rintro e w1 ⟨rfl, hb1⟩))
            (try simp only [Exit.inBlock, Exit.then])
            refine bodyPost_ret (results_none rfl _ _ _) rfl ?_
            exact ⟨rfl, l', Hs.out, HF.out, HL.out.up (hb1.trans (hb2.mono hb1.size)), HM.out.trans (mv_up (hb1.trans (hb2.mono hb1.size)))⟩
          | true =>
            rw [h2] at HA2
            have HX : Hid (HpS dE ahE (sw dE l' k (2 * k + 1)) (2 * k + 1)) := hide (hps_swap ahE_ord x kl ql (by omega) (by omega) (by rw [gt_at kl, gt_at ql]; exact h2) hm)
            have HS := hide (fun w2 (hb : Below wr.heap.size wr w2) => swap_at (hl'.up hb) kl ql (a := (k : Int)) (b := (2 * (k : Int) + 1)) rfl (by omega))
            have HL := hide (same_sw kl ql)
            clear h2 hm x hl'
            go_wp2_with (first | (go_at_call 67; refine (HS.out _ (hb1.trans (hb2.mono hb1.size))).mono ?_; rintro e w3 ⟨rfl, hl3, hm3⟩) | (go_at_call 66; have _tk := hb1; refine (HA2.out _ hb1).mono ?_; rintro e w2 ⟨rfl, hb2⟩) | (go_at_call 66; refine HA1.out.mono ?_; rintro e w1 ⟨rfl, hb1⟩))
            go_roundw
            case rel => exact ⟨(2 * k + 1), by go_num, by omega, hide ⟨_, Hs.out.trans HL.out, HX.out, hl3, (HM.out.trans (mv_up (hb1.trans (hb2.mono hb1.size)))).trans hm3⟩⟩
            case measure => simp [intOf]; omega
      · have n2 : (l.length : Int) ≤ 2 * (k : Int) + 1 + 1 := by omega
        have hm : ∀ kk, 0 < kk → kk < l'.length → (kk - 1) / 2 = k → le ahE (gt dE l' (2 * k + 1)) (gt dE l' kk) := fun kk a b c => by
          have : kk = 2 * k + 1 := by omega
          subst this
          exact ahE_ord.refl _
        have HA2 := hide (fun w2 (hb : Below wr.heap.size wr w2) => ahead_at (hl'.up hb) ql kl (a := (2 * (k : Int) + 1)) (b := (k : Int)) (by omega) rfl)
        cases h2 : ahE l'[(2 * k + 1)] l'[k] with
        | false =>
          rw [h2] at HA2
          have HF : Hid (Hp dE ahE l') := hide (hps_done x (fun kk a b c => ahE_ord.trans (by rw [gt_at kl, gt_at ql]; exact h2) (hm kk a b c)))
          have HL := hide hl'
          clear h2 hm x hl'
          go_wp2_with ((go_at_call 66; refine (HA2.out _ (Below.refl _ _)).mono ?_; rintro e w2 ⟨rfl, hb2⟩))
          (try simp only [Exit.inBlock, Exit.then])
          refine bodyPost_ret (results_none rfl _ _ _) rfl ?_
          exact ⟨rfl, l', Hs.out, HF.out, HL.out.up hb2, HM.out.trans (mv_up hb2)⟩
        | true =>
          rw [h2] at HA2
          have HX : Hid (HpS dE ahE (sw dE l' k (2 * k + 1)) (2 * k + 1)) := hide (hps_swap ahE_ord x kl ql (by omega) (by omega) (by rw [gt_at kl, gt_at ql]; exact h2) hm)
          have HS := hide (fun w2 (hb : Below wr.heap.size wr w2) => swap_at (hl'.up hb) kl ql (a := (k : Int)) (b := (2 * (k : Int) + 1)) rfl (by omega))
          have HL := hide (same_sw kl ql)
          clear h2 hm x hl'
          go_wp2_with (first | (go_at_call 67; refine (HS.out _ hb2).mono ?_; rintro e w3 ⟨rfl, hl3, hm3⟩) | (go_at_call 66; refine (HA2.out _ (Below.refl _ _)).mono ?_; rintro e w2 ⟨rfl, hb2⟩))
          go_roundw
          case rel => exact ⟨(2 * k + 1), by go_num, by omega, hide ⟨_, Hs.out.trans HL.out, HX.out, hl3, (HM.out.trans (mv_up hb2)).trans hm3⟩⟩
          case measure => simp [intOf]; omega
    · have n1 : (l.length : Int) ≤ 2 * (k : Int) + 1 := by omega
      have HF : Hid (Hp dE ahE l') := hide (hps_done x (fun kk a b c => by omega))
      have HL := hide hl'
      clear x hl'
      go_wp2
      go_end0
      exact ⟨rfl, l', Hs.out, HF.out, HL.out, HM.out⟩
end Go.Proofs.YtknodkdlphngmawDoor
