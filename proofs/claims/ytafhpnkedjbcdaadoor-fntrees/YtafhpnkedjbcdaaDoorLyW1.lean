/- The contracts of what tells nodes apart: isName, isRun, shapeOf. -/
import Derived.Test.YtafhpnkedjbcdaaDoorTreeW1
import Derived.Test.YtafhpnkedjbcdaaDoorTreeM
namespace Go.Proofs.YtafhpnkedjbcdaaDoor
open Go.RowKit
open Doc1

theorem isNm_no {s : ByteArray} (h : s.size ≠ 1) : isNm s.data.toList = false := by
  match hl : s.data.toList with
  | [] => rfl
  | [c] => have : s.data.toList.length = 1 := by rw [hl]; rfl
           simp at this; exact absurd this h
  | _ :: _ :: _ => rfl
theorem isNm_yes {s : ByteArray} (h : s.size = 1) : isNm s.data.toList = opB (s[0]'(by omega)) := by
  have := drop_cons s 0 (by omega)
  rw [drop_end s 1 (by omega)] at this
  simp only [List.drop_zero] at this
  rw [this]; rfl
theorem isRn_no {s : ByteArray} (h : s.size = 0 ∨ 300 < s.size) : isRn s.data.toList = false := by
  unfold isRn
  rcases h with h | h
  · have : s.data.toList = [] := List.eq_nil_of_length_eq_zero (by simpa using h)
    rw [this]; rfl
  · have : ¬ s.data.toList.length ≤ 300 := by simp; omega
    simp only [decide_eq_false this]; simp
theorem pe_all (s : ByteArray) : decide (pe s.data.toList = s.size) = s.data.toList.all plB := by
  unfold pe
  have hsz : s.size = s.data.toList.length := by simp
  rw [hsz]
  generalize s.data.toList = l
  induction l with
  | nil => rfl
  | cons c l ih =>
    rw [List.takeWhile_cons, List.all_cons]
    cases hc : plB c with
    | true => simp only [if_true, List.length_cons, Bool.true_and, ← ih]; apply decide_eq_decide.2; omega
    | false => simp
theorem isRn_yes {s : ByteArray} (h0 : 0 < s.size) (h1 : s.size ≤ 300) : isRn s.data.toList = decide (pe s.data.toList = s.size) := by
  rw [pe_all]
  have hl : s.data.toList.length = s.size := size_len s
  unfold isRn
  have hne : s.data.toList.isEmpty = false := by
    cases hq : s.data.toList with
    | nil => rw [hq] at hl; simp at hl; omega
    | cons c l => rfl
  rw [hne, decide_eq_true (by omega)]
  simp only [Bool.not_false, Bool.true_and]

set_option maxHeartbeats 1000000 in
theorem isName_any (s : ByteArray) (w : World) (_hs : s.size ≤ 4194304) (hT : Tab w) :
    Calls Tryd.prog 75 #[.string s] w fun e w' => e = .returned (.bool (isNm s.data.toList)) ∧ w' = w := by
  by_cases h : s.size = 1
  · have hlt : 0 < s.size := by omega
    rw [isNm_yes h, ← kd_op]
    go_enter Tryd.func75, Tryd.ntmps75
    go_wp2_with (go_at_call 59; refine (kindOf_any _ _ hT).mono ?_; rintro e w' ⟨rfl, hw⟩; replace hw := hw.symm; subst hw)
    go_ret
    exact ⟨rfl, rfl⟩
  · rw [isNm_no h]
    go_enter Tryd.func75, Tryd.ntmps75
    go_wp2
    go_ret
    exact ⟨rfl, rfl⟩

set_option maxHeartbeats 1000000 in
theorem isRun_any (s : ByteArray) (w : World) (hs : s.size ≤ 4194304) (hT : Tab w) :
    Calls Tryd.prog 136 #[.string s] w fun e w' => e = .returned (.bool (isRn s.data.toList)) ∧ w' = w := by
  by_cases h0 : s.size = 0
  · rw [isRn_no (Or.inl h0)]
    have hl0 : s.data.toList = [] := List.eq_nil_of_length_eq_zero (by rw [size_len]; exact h0)
    have he : s.toList.isEmpty = true := by rw [ByteArray.toList_eq, hl0]; rfl
    go_enter Tryd.func136, Tryd.ntmps136
    go_wp2
    go_ret
    exact ⟨rfl, rfl⟩
  · have he : s.toList.isEmpty = false := by
      rw [ByteArray.toList_eq]
      cases hl : s.data.toList with
      | nil => have := size_len s; rw [hl] at this; simp at this; omega
      | cons c l => rfl
    by_cases h1 : s.size ≤ 300
    · rw [isRn_yes (by omega) h1]
      have PE := plainEnd_any s 0 w hs (Nat.zero_le _) hT
      rw [List.drop_zero, Nat.zero_add] at PE
      have HP := hide PE
      clear PE
      go_enter Tryd.func136, Tryd.ntmps136
      go_wp2_with (go_at_call 78; refine HP.out.mono ?_; rintro e w' ⟨rfl, hw⟩; replace hw := hw.symm; subst hw)
      go_ret
      exact ⟨ret_bool (by rw [Bool.eq_iff_iff]; simp; omega), rfl⟩
    · rw [isRn_no (Or.inr (by omega))]
      go_enter Tryd.func136, Tryd.ntmps136
      go_wp2
      go_ret
      exact ⟨rfl, rfl⟩

/-- A node told apart, as a value. -/
def shV (n : Nd) : Value :=
  match shp n with
  | .whole => .iface 155 (.agg #[])
  | .elem => .iface 157 (.agg #[.string n.name])
  | .run => .iface 159 (.agg #[.string n.text])
  | .none => .nilIface
theorem ret_v {x y : Value} (h : x = y) : Ending.returned x = .returned y := by rw [h]

set_option maxHeartbeats 2000000 in
theorem shapeOf_any (n : Nd) (w : World) (h1 : n.name.size ≤ 4194304) (h2 : n.text.size ≤ 4194304) (hT : Tab w) :
    Calls Tryd.prog 117 #[ndV n] w fun e w' => e = .returned (shV n) ∧ Below w.heap.size w w' := by
  unfold ndV
  have hT2 : ∀ o, Tab (w.alloc o) := fun o => hT.below ((Below.refl _ _).alloc (Nat.le_refl _) _)
  have N := hide (fun w' (h : Tab w') => isName_any n.name w' h1 h)
  have R := hide (fun w' (h : Tab w') => isRun_any n.text w' h2 h)
  go_enter Tryd.func117, Tryd.ntmps117
  go_wp2_with (first | (go_at_call 75; refine (N.out _ (hT2 _)).mono ?_; rintro e w' ⟨rfl, hw⟩; replace hw := hw.symm; subst hw) | (go_at_call 136; refine (R.out _ (hT2 _)).mono ?_; rintro e w' ⟨rfl, hw⟩; replace hw := hw.symm; subst hw))
  all_goals
    go_ret
    refine ⟨ret_v ?_, (Below.refl _ _).alloc (Nat.le_refl _) _⟩
    simp only [ByteArray.toList_eq, beq_iff_eq, beq_eq_false_iff_ne] at *
    unfold shV shp
    simp_all
end Go.Proofs.YtafhpnkedjbcdaaDoor
