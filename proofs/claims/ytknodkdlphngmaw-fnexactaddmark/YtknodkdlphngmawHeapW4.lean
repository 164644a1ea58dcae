/- What rises in the heap of ends. -/
import Derived.Test.YtknodkdlphngmawHeapW2
import Derived.Test.YtknodkdlphngmawHeapW3
namespace Go.Proofs.Ytknodkdlphngmaw
open Go.RowKit
open Doc1

def dE : En := ⟨ByteArray.empty, 0, 0⟩
/-- From one row of ends to another: as many, and the same. -/
structure Same (l l' : List En) : Prop where
  len : l'.length = l.length
  cnt : ∀ x, l'.count x = l.count x
theorem Same.refl (l : List En) : Same l l := ⟨rfl, fun _ => rfl⟩
theorem Same.trans {a b c : List En} (h : Same a b) (k : Same b c) : Same a c := ⟨k.len.trans h.len, fun x => (k.cnt x).trans (h.cnt x)⟩
theorem same_sw {l : List En} {i j : Nat} (hi : i < l.length) (hj : j < l.length) : Same l (sw dE l i j) := ⟨sw_len _ _ _, fun x => sw_count x hi hj⟩
theorem sw_eq {l : List En} {i j : Nat} (hi : i < l.length) (hj : j < l.length) : (l.set i l[j]).set j l[i] = sw dE l i j := by
  unfold sw; rw [gt_at hi, gt_at hj]
theorem mv_up {O : Nat → Prop} {W X : World} (h : Below W.heap.size W X) : Moves O W O X := moves_below h (fun k a b => absurd b (by omega)) (fun _ _ h => h)
def aheadV (h : Nat) : Value := .func (.func 38) #[.pointer (some ⟨h, 0, none⟩)] #[]
def swapV (h : Nat) : Value := .func (.func 39) #[.pointer (some ⟨h, 0, none⟩)] #[]

set_option maxRecDepth 100000 in
set_option maxHeartbeats 4000000 in
theorem rise_any {h g cap : Nat} {l : List En} {w : World} (H : Hl h g cap l w) {i : Nat} (hi : i < l.length) (hx : HpX dE ahE l i) (hl : l.length ≤ 1000000) :
    Calls Try.prog 37 #[.int .i64 (i : Int), aheadV h, swapV h] w fun e w' => e = .returned (.tuple #[]) ∧ ∃ l', Same l l' ∧ Hp dE ahE l' ∧ Hl h g cap l' w' ∧ Moves (fun k => k = g) w (fun k => k = g) w' := by
  have H0 : Hid (∃ l', Same l l' ∧ HpX dE ahE l' i ∧ Hl h g cap l' w ∧ Moves (fun k => k = g) w (fun k => k = g) w) := hide ⟨l, Same.refl l, hx, H, Moves.refl _ _⟩
  unfold aheadV swapV
  clear H hx
  go_enter Try.func37, Try.ntmps37
  go_wp2_with fail
  go_loopw [0] (fun a wr => ∃ k : Nat, a = .int .i64 (k : Int) ∧ k < l.length ∧ Hid (∃ l', Same l l' ∧ HpX dE ahE l' k ∧ Hl h g cap l' wr ∧ Moves (fun k => k = g) w (fun k => k = g) wr)) (fun a _ => (intOf a).toNat)
  case atStart => exact ⟨i, rfl, hi, H0⟩
  case round =>
    obtain ⟨k, rfl, hk, HK⟩ := hrel
    by_cases h0 : k = 0
    · subst h0
      go_wp2
      go_end0
      obtain ⟨l', s, x, hl', m⟩ := HK.out
      exact ⟨rfl, l', s, hpx_done x (.inl rfl), hl', m⟩
    · obtain ⟨l', s, x, hl', m⟩ := HK.out
      have hsl := s.len
      have kp : (k - 1) / 2 < l'.length := by omega
      have kl : k < l'.length := by omega
      obtain ⟨p, hp⟩ : ∃ p, p = (k - 1) / 2 := ⟨_, rfl⟩
      rw [← hp] at kp
      have hq : Int.tdiv ((k : Int) - 1) 2 = (p : Int) := by rw [hp, Int.tdiv_eq_ediv_of_nonneg (by omega)]; omega
      have hpk : p < k := by omega
      have HA := hide (ahead_any hl' kl kp)
      have HS := hide (fun w2 (hb : Below wr.heap.size wr w2) => swap_any (hl'.up hb) kl kp)
      cases ha : ahE l'[k] l'[p] with
      | false =>
        rw [ha] at HA
        have HF : Hid (Hp dE ahE l') := hide (hpx_done x (.inr (by rw [← hp, gt_at kl, gt_at kp]; exact ha)))
        have HL := hide hl'
        have HM := hide m
        have Hs := hide s
        clear ha x hl' m s hp HK hsl
        go_wp2_with (go_at_call 38; refine HA.out.mono ?_; rintro e w2 ⟨rfl, hb2⟩)
        go_end0
        exact ⟨rfl, l', Hs.out, HF.out, HL.out.up hb2, HM.out.trans (mv_up hb2)⟩
      | true =>
        rw [ha] at HA
        have HX : Hid (HpX dE ahE (sw dE l' k p) p) := hide (by rw [hp]; exact hpx_swap ahE_ord x kl (by omega) (by rw [← hp, gt_at kl, gt_at kp]; exact ha))
        have HW := hide (sw_eq kl kp)
        have HL := hide (same_sw kl kp)
        have HM := hide m
        have Hs := hide s
        clear ha x hl' m s hp HK hsl
        go_wp2_with (first | (go_at_call 38; refine HA.out.mono ?_; rintro e w2 ⟨rfl, hb2⟩) | (go_at_call 39; refine (HS.out _ hb2).mono ?_; rintro e w3 ⟨rfl, hl3, hm3⟩))
        go_roundw
        case rel =>
          rw [HW.out] at hl3
          exact ⟨p, by go_num, by omega, hide ⟨_, Hs.out.trans HL.out, HX.out, hl3, (HM.out.trans (mv_up hb2)).trans hm3⟩⟩
        case measure => simp [intOf]; omega
end Go.Proofs.Ytknodkdlphngmaw
