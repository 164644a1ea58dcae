/- The contracts of the model's own l3Part, l3Sizes, GoodOp and SizesOf, and of impl.partKind. -/
import Derived.Test.YtafhpnkedjbcdawDoorOpsM
import Derived.Test.YtafhpnkedjbcdawDoorRowsPart
namespace Go.Proofs.YtafhpnkedjbcdawDoor
open Go.RowKit
open Doc1

theorem emp_b (s : ByteArray) : s.toList.isEmpty = decide (s.data.toList = []) := by rw [ByteArray.toList_eq]; cases s.data.toList <;> simp

set_option maxRecDepth 100000 in
set_option maxHeartbeats 2000000 in
theorem l3Part_any (p : Pt) (w : World) (h1 : p.put.size ≤ 1048576) (h2 : p.drop.size ≤ 1048576) :
    Calls Tryd.prog 43 #[ptV p] w fun e w' => e = .returned (.bool (gp p)) ∧ Below w.heap.size w w' := by
  unfold ptV
  have I := hide (fun w => l1In_any p.keep 1 300 w)
  have G1 := hide (fun w => goodTextS_any p.put w h1)
  have G2 := hide (fun w => goodTextS_any p.drop w h2)
  have e1 := emp_b p.put
  have e2 := emp_b p.drop
  obtain ⟨R, hR⟩ : ∃ R, R = gp p := ⟨_, rfl⟩
  rw [← hR]
  unfold gp at hR
  have HR := hide hR
  clear hR
  by_cases h0 : p.keep = 0
  · have k0 : (p.keep == 0) = true := by simpa using h0
    have HR2 : Hid (R = if p.put.data.toList ≠ [] then decide (p.drop.data.toList = []) && good p.put.data.toList else decide (p.drop.data.toList ≠ []) && good p.drop.data.toList) := hide (by rw [HR.out, if_neg (by simp [h0])])
    clear HR h0
    cases hp : decide (p.put.data.toList = []) with
    | true =>
      have HR3 : Hid (R = (decide (p.drop.data.toList ≠ []) && good p.drop.data.toList)) := hide (by rw [HR2.out, if_neg (by simpa using of_decide_eq_true hp)])
      rw [hp] at e1
      cases hd : decide (p.drop.data.toList = []) with
      | true =>
        rw [hd] at e2
        go_enter Tryd.func43, Tryd.ntmps43
        go_wp2
        go_ret
        exact ⟨ret_bool (by rw [HR3.out, decide_eq_false (by simpa using of_decide_eq_true hd)]; rfl), (Below.refl _ _).alloc (Nat.le_refl _) _⟩
      | false =>
        rw [hd] at e2
        go_enter Tryd.func43, Tryd.ntmps43
        go_wp2_with (go_at_call 58; refine (G2.out _).mono ?_; rintro e w' ⟨rfl, hw⟩; replace hw := hw.symm; subst hw)
        go_ret
        exact ⟨ret_bool (by rw [HR3.out, decide_eq_true (of_decide_eq_false hd)]; rfl), (Below.refl _ _).alloc (Nat.le_refl _) _⟩
    | false =>
      have HR3 : Hid (R = (decide (p.drop.data.toList = []) && good p.put.data.toList)) := hide (by rw [HR2.out, if_pos (of_decide_eq_false hp)])
      rw [hp] at e1
      cases hd : decide (p.drop.data.toList = []) with
      | true =>
        rw [hd] at e2 HR3
        go_enter Tryd.func43, Tryd.ntmps43
        go_wp2_with (go_at_call 58; refine (G1.out _).mono ?_; rintro e w' ⟨rfl, hw⟩; replace hw := hw.symm; subst hw)
        go_ret
        exact ⟨ret_bool (by rw [HR3.out]; rfl), (Below.refl _ _).alloc (Nat.le_refl _) _⟩
      | false =>
        rw [hd] at e2 HR3
        go_enter Tryd.func43, Tryd.ntmps43
        go_wp2
        go_ret
        exact ⟨ret_bool (by rw [HR3.out]; rfl), (Below.refl _ _).alloc (Nat.le_refl _) _⟩
  · have k0 : (p.keep == 0) = false := by simpa using h0
    have HR2 : Hid (R = (decide (1 ≤ p.keep ∧ p.keep ≤ 300) && (decide (p.put.data.toList = []) && decide (p.drop.data.toList = [])))) := hide (by rw [HR.out, if_pos h0])
    clear HR h0
    generalize decide (p.put.data.toList = []) = bp at *
    generalize decide (p.drop.data.toList = []) = bd at *
    generalize decide (1 ≤ p.keep ∧ p.keep ≤ 300) = bk at *
    cases bk <;> cases bp <;> cases bd
    all_goals
      go_enter Tryd.func43, Tryd.ntmps43
      go_wp2_with (go_at_call 30; refine (I.out _).mono ?_; rintro e w' ⟨rfl, hw⟩; replace hw := hw.symm; subst hw)
      go_ret
      exact ⟨ret_bool (by rw [HR2.out]; rfl), (Below.refl _ _).alloc (Nat.le_refl _) _⟩
end Go.Proofs.YtafhpnkedjbcdawDoor
