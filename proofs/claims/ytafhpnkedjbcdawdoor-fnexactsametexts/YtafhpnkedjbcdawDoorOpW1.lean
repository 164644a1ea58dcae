/- The contract of impl.partKind. -/
import Derived.Test.YtafhpnkedjbcdawDoorOpS1
namespace Go.Proofs.YtafhpnkedjbcdawDoor
open Go.RowKit
open Doc1

set_option maxRecDepth 100000 in
set_option maxHeartbeats 1500000 in
theorem partKind_any (p : Pt) (w : World) (h1 : p.put.size ≤ 1048576) (h2 : p.drop.size ≤ 1048576) (hT : Tab w) :
    Calls Tryd.prog 62 #[ptV p] w fun e w' => e = .returned (.int .i64 (pk p : Int)) ∧ Below w.heap.size w w' := by
  unfold ptV
  have hT2 : ∀ o, Tab (w.alloc o) := fun o => hT.below ((Below.refl _ _).alloc (Nat.le_refl _) _)
  have G1 := hide (fun w' h => goodTextI_any p.put w' h1 h)
  have G2 := hide (fun w' h => goodTextI_any p.drop w' h2 h)
  have e1 := emp_b p.put
  have e2 := emp_b p.drop
  obtain ⟨R, hR⟩ : ∃ R, R = pk p := ⟨_, rfl⟩
  rw [← hR]
  unfold pk at hR
  have k0 : (p.keep == 0) = decide (p.keep = 0) := by by_cases h : p.keep = 0 <;> simp [h]
  have hRb : R = if (decide (p.put.data.toList = []) && (decide (p.drop.data.toList = []) && (decide (1 ≤ p.keep) && decide (p.keep ≤ 300)))) = true then 1
      else if (decide (p.keep = 0) && (decide (p.drop.data.toList = []) && (!decide (p.put.data.toList = []) && good p.put.data.toList))) = true then 2
      else if (decide (p.keep = 0) && (decide (p.put.data.toList = []) && (!decide (p.drop.data.toList = []) && good p.drop.data.toList))) = true then 3 else 0 := by
    rw [hR]; simp only [Bool.and_eq_true, Bool.not_eq_true', decide_eq_true_eq, decide_eq_false_iff_not, ne_eq]
  have HR := hide hRb
  clear hR hRb
  have hk : ∀ b1 b2 b3 : Bool, decide (p.keep = 0) = b1 → decide (1 ≤ p.keep) = b2 → decide (p.keep ≤ 300) = b3 → (b1 = true → b2 = false) := by
    intro b1 b2 b3 x1 x2 x3 y
    subst y
    have := of_decide_eq_true x1
    rw [← x2]; apply decide_eq_false; omega
  generalize good p.put.data.toList = g1 at *
  generalize good p.drop.data.toList = g2 at *
  generalize decide (p.put.data.toList = []) = bp at *
  generalize decide (p.drop.data.toList = []) = bd at *
  cases hz : decide (p.keep = 0) with
  | true =>
    have hl : decide (1 ≤ p.keep) = false := hk _ _ _ hz rfl rfl rfl
    rw [hz, hl] at HR
    rw [hz] at k0
    have nl : ¬ (1 ≤ p.keep) := of_decide_eq_false hl
    clear hk hz hl
    cases bp with
    | false =>
      cases bd with
      | false =>
        go_enter Tryd.func62, Tryd.ntmps62
        go_wp2
        go_ret
        exact ⟨ret_i2 (by rw [HR.out]; rfl), (Below.refl _ _).alloc (Nat.le_refl _) _⟩
      | true =>
        cases g1 with
        | false =>
          go_enter Tryd.func62, Tryd.ntmps62
          go_wp2_with (go_at_call 71; refine (G1.out _ (hT2 _)).mono ?_; rintro e w' ⟨rfl, hw⟩; replace hw := hw.symm; subst hw)
          go_ret
          exact ⟨ret_i2 (by rw [HR.out]; rfl), (Below.refl _ _).alloc (Nat.le_refl _) _⟩
        | true =>
          go_enter Tryd.func62, Tryd.ntmps62
          go_wp2_with (go_at_call 71; refine (G1.out _ (hT2 _)).mono ?_; rintro e w' ⟨rfl, hw⟩; replace hw := hw.symm; subst hw)
          go_ret
          exact ⟨ret_i2 (by rw [HR.out]; rfl), (Below.refl _ _).alloc (Nat.le_refl _) _⟩
    | true =>
      cases bd with
      | false =>
        cases g2 with
        | false =>
          go_enter Tryd.func62, Tryd.ntmps62
          go_wp2_with (go_at_call 71; refine (G2.out _ (hT2 _)).mono ?_; rintro e w' ⟨rfl, hw⟩; replace hw := hw.symm; subst hw)
          go_ret
          exact ⟨ret_i2 (by rw [HR.out]; rfl), (Below.refl _ _).alloc (Nat.le_refl _) _⟩
        | true =>
          go_enter Tryd.func62, Tryd.ntmps62
          go_wp2_with (go_at_call 71; refine (G2.out _ (hT2 _)).mono ?_; rintro e w' ⟨rfl, hw⟩; replace hw := hw.symm; subst hw)
          go_ret
          exact ⟨ret_i2 (by rw [HR.out]; rfl), (Below.refl _ _).alloc (Nat.le_refl _) _⟩
      | true =>
        go_enter Tryd.func62, Tryd.ntmps62
        go_wp2
        go_ret
        exact ⟨ret_i2 (by rw [HR.out]; rfl), (Below.refl _ _).alloc (Nat.le_refl _) _⟩
  | false =>
    rw [hz] at HR k0
    clear hk hz
    by_cases hl : 1 ≤ p.keep
    · by_cases hg : p.keep ≤ 300
      · rw [decide_eq_true hl, decide_eq_true hg] at HR
        cases bp <;> cases bd
        all_goals
          go_enter Tryd.func62, Tryd.ntmps62
          go_wp2
          go_ret
          exact ⟨ret_i2 (by rw [HR.out]; rfl), (Below.refl _ _).alloc (Nat.le_refl _) _⟩
      · rw [decide_eq_true hl, decide_eq_false hg] at HR
        cases bp <;> cases bd
        all_goals
          go_enter Tryd.func62, Tryd.ntmps62
          go_wp2
          go_ret
          exact ⟨ret_i2 (by rw [HR.out]; rfl), (Below.refl _ _).alloc (Nat.le_refl _) _⟩
    · rw [decide_eq_false hl] at HR
      cases bp <;> cases bd
      all_goals
        go_enter Tryd.func62, Tryd.ntmps62
        go_wp2
        go_ret
        exact ⟨ret_i2 (by rw [HR.out]; rfl), (Below.refl _ _).alloc (Nat.le_refl _) _⟩
end Go.Proofs.YtafhpnkedjbcdawDoor
