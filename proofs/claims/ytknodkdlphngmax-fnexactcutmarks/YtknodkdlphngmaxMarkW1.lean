/- The contracts of impl.isStyle, (impl.Mark).isGood, (impl.Mark).isAheadOf, and of the model's own l5Style and l5Mark. -/
import Derived.Test.YtknodkdlphngmaxMark1
import Derived.Test.YtknodkdlphngmaxRowsMark
namespace Go.Proofs.Ytknodkdlphngmax
open Go.RowKit
open Doc1

theorem stB_iff (b : UInt8) : stB b = decide (97 ≤ (b.toNat : Int) ∧ (b.toNat : Int) ≤ 122) := by
  unfold stB; apply decide_eq_decide.2; omega

set_option maxRecDepth 100000 in
set_option maxHeartbeats 1000000 in
theorem isStyle_any (s : ByteArray) (w : World) (hs : s.size ≤ 1048576) :
    Calls Try.prog 32 #[.string s] w fun e w' => e = .returned (.bool (isSt s)) ∧ w' = w := by
  by_cases h8 : 1 ≤ s.size ∧ s.size ≤ 8
  · obtain ⟨h1, h2⟩ := h8
    go_enter Try.func32, Try.ntmps32
    go_wp2
    go_loop [14] (fun i => ∃ k : Nat, k ≤ s.size ∧ i = .int .i64 k ∧ Hid (stTo s k = true)) (fun i => s.size - (intOf i).toNat)
    case atStart => exact ⟨0, by omega, rfl, hide rfl⟩
    case round =>
      obtain ⟨k, hk, rfl, hst⟩ := hrel
      by_cases hlt : k < s.size
      · have HB := hide (stB_iff s[k])
        have HN := hide (fun h => isSt_no (s := s) hlt h)
        have HS := hide (stTo_succ s k hlt)
        by_cases b1 : 97 ≤ (s[k].toNat : Int)
        · by_cases b2 : (s[k].toNat : Int) ≤ 122
          · have HT : Hid (stTo s (k + 1) = true) := hide (by rw [HS.out, hst.out, HB.out, decide_eq_true ⟨b1, b2⟩]; rfl)
            go_wp2
            refine ⟨⟨k + 1, by omega, by go_num, HT⟩, by simp [intOf]; omega⟩
          · have HF : Hid (isSt s = false) := hide (HN.out (by rw [HB.out, decide_eq_false (fun c => b2 c.2)]))
            go_wp2
            go_ret
            exact ⟨ret_bool HF.out.symm, rfl⟩
        · have HF : Hid (isSt s = false) := hide (HN.out (by rw [HB.out, decide_eq_false (fun c => b1 c.1)]))
          go_wp2
          go_ret
          exact ⟨ret_bool HF.out.symm, rfl⟩
      · obtain rfl : k = s.size := by omega
        have HF : Hid (isSt s = true) := hide (by rw [isSt_all hst.out, decide_eq_true ⟨h1, h2⟩])
        go_wp2
        go_ret
        exact ⟨ret_bool HF.out.symm, rfl⟩
  · have HF : Hid (isSt s = false) := hide (by unfold isSt; rw [decide_eq_false h8]; rfl)
    by_cases h1 : s.size < 1
    · go_enter Try.func32, Try.ntmps32
      go_wp2
      go_ret
      exact ⟨ret_bool HF.out.symm, rfl⟩
    · have h2 : 8 < s.size := by omega
      go_enter Try.func32, Try.ntmps32
      go_wp2
      go_ret
      exact ⟨ret_bool HF.out.symm, rfl⟩

set_option maxRecDepth 100000 in
set_option maxHeartbeats 1000000 in
theorem l5Style_any (s : ByteArray) (w : World) (hs : s.size ≤ 1048576) :
    Calls Try.prog 29 #[.string s] w fun e w' => e = .returned (.bool (isSt s)) ∧ w' = w := by
  have I := hide (fun w => l1In_any s.size 1 8 w)
  go_enter Try.func29, Try.ntmps29
  go_wp2
  go_loop [3] (fun i => ∃ k : Nat, k ≤ s.size ∧ i = .int .i64 k ∧ Hid (stTo s k = true)) (fun i => s.size - (intOf i).toNat)
  case atStart => exact ⟨0, by omega, rfl, hide rfl⟩
  case round =>
    obtain ⟨k, hk, rfl, hst⟩ := hrel
    by_cases hlt : k < s.size
    · have HB := hide (stB_iff s[k])
      have HN := hide (fun h => isSt_no (s := s) hlt h)
      have HS := hide (stTo_succ s k hlt)
      by_cases b1 : 97 ≤ (s[k].toNat : Int)
      · by_cases b2 : (s[k].toNat : Int) ≤ 122
        · have HT : Hid (stTo s (k + 1) = true) := hide (by rw [HS.out, hst.out, HB.out, decide_eq_true ⟨b1, b2⟩]; rfl)
          go_wp2
          refine ⟨⟨k + 1, by omega, by go_num, HT⟩, by simp [intOf]; omega⟩
        · have HF : Hid (isSt s = false) := hide (HN.out (by rw [HB.out, decide_eq_false (fun c => b2 c.2)]))
          go_wp2
          go_ret
          exact ⟨ret_bool HF.out.symm, rfl⟩
      · have HF : Hid (isSt s = false) := hide (HN.out (by rw [HB.out, decide_eq_false (fun c => b1 c.1)]))
        go_wp2
        go_ret
        exact ⟨ret_bool HF.out.symm, rfl⟩
    · obtain rfl : k = s.size := by omega
      have HF : Hid (isSt s = decide (1 ≤ s.size ∧ s.size ≤ 8)) := hide (isSt_all hst.out)
      go_wp2_with (go_at_call 28; refine (I.out _).mono ?_; rintro e w' ⟨rfl, hw⟩; replace hw := hw.symm; subst hw)
      go_ret
      exact ⟨ret_bool (by rw [HF.out, Bool.eq_iff_iff]; simp; omega), rfl⟩

set_option maxRecDepth 100000 in
set_option maxHeartbeats 2000000 in
theorem isGood_any (m : Mk) (size : Int) (w : World) (hs : m.style.size ≤ 1048576) :
    Calls Try.prog 49 #[mrV m, .int .i64 size] w fun e w' => e = .returned (.bool (mkOk size m)) ∧ Below w.heap.size w w' := by
  have I := hide (fun w => isStyle_any m.style w hs)
  obtain ⟨R, hR⟩ : ∃ R, R = mkOk size m := ⟨_, rfl⟩
  rw [← hR]
  unfold mkOk at hR
  have HR := hide hR
  clear hR
  have hb := (Below.refl w.heap.size w).alloc (Nat.le_refl _) (.cells #[.int .i64 m.frm, .int .i64 m.to, .string m.style] 46)
  have no : ¬ (0 ≤ m.frm ∧ m.frm < m.to ∧ m.to ≤ size) → R = false := fun h => by rw [HR.out, decide_eq_false h, Bool.and_false]
  have HN := hide no
  clear no
  unfold mrV
  by_cases h1 : 0 ≤ m.frm
  · by_cases h2 : m.frm < m.to
    · by_cases h3 : m.to ≤ size
      · go_enter Try.func49, Try.ntmps49
        go_wp2_with (go_at_call 32; refine (I.out _).mono ?_; rintro e w' ⟨rfl, hw⟩; replace hw := hw.symm; subst hw)
        go_ret
        exact ⟨ret_bool (by rw [HR.out, decide_eq_true ⟨h1, h2, h3⟩, Bool.and_true]), hb⟩
      · rw [HN.out (fun c => h3 c.2.2)]
        go_enter Try.func49, Try.ntmps49
        go_wp2
        go_ret
        exact ⟨rfl, hb⟩
    · rw [HN.out (fun c => h2 c.2.1)]
      go_enter Try.func49, Try.ntmps49
      go_wp2
      go_ret
      exact ⟨rfl, hb⟩
  · rw [HN.out (fun c => h1 c.1)]
    go_enter Try.func49, Try.ntmps49
    go_wp2
    go_ret
    exact ⟨rfl, hb⟩

set_option maxRecDepth 100000 in
set_option maxHeartbeats 2000000 in
theorem l5Mark_any (m : Mk) (size : Int) (w : World) (hs : m.style.size ≤ 1048576) :
    Calls Try.prog 48 #[mrV m, .int .i64 size] w fun e w' => e = .returned (.bool (mkOk size m)) ∧ Below w.heap.size w w' := by
  have I := hide (fun w => l5Style_any m.style w hs)
  unfold mkOk
  have hb := (Below.refl w.heap.size w).alloc (Nat.le_refl _) (.cells #[.int .i64 m.frm, .int .i64 m.to, .string m.style] 46)
  unfold mrV
  cases hst : isSt m.style with
  | false =>
    rw [hst] at I
    go_enter Try.func48, Try.ntmps48
    go_wp2_with (go_at_call 29; refine (I.out _).mono ?_; rintro e w' ⟨rfl, hw⟩; replace hw := hw.symm; subst hw)
    go_ret
    exact ⟨ret_bool (by simp; try omega), hb⟩
  | true =>
    rw [hst] at I
    by_cases h1 : 0 ≤ m.frm
    · by_cases h2 : m.frm < m.to
      · by_cases h3 : m.to ≤ size
        · rw [decide_eq_true ⟨h1, h2, h3⟩]
          go_enter Try.func48, Try.ntmps48
          go_wp2_with (go_at_call 29; refine (I.out _).mono ?_; rintro e w' ⟨rfl, hw⟩; replace hw := hw.symm; subst hw)
          go_ret
          exact ⟨ret_bool (by simp; try omega), hb⟩
        · rw [decide_eq_false (fun c => h3 c.2.2)]
          go_enter Try.func48, Try.ntmps48
          go_wp2_with (go_at_call 29; refine (I.out _).mono ?_; rintro e w' ⟨rfl, hw⟩; replace hw := hw.symm; subst hw)
          go_ret
          exact ⟨ret_bool (by simp; try omega), hb⟩
      · rw [decide_eq_false (fun c => h2 c.2.1)]
        go_enter Try.func48, Try.ntmps48
        go_wp2_with (go_at_call 29; refine (I.out _).mono ?_; rintro e w' ⟨rfl, hw⟩; replace hw := hw.symm; subst hw)
        go_ret
        exact ⟨ret_bool (by simp; try omega), hb⟩
    · rw [decide_eq_false (fun c => h1 c.1)]
      go_enter Try.func48, Try.ntmps48
      go_wp2_with (go_at_call 29; refine (I.out _).mono ?_; rintro e w' ⟨rfl, hw⟩; replace hw := hw.symm; subst hw)
      go_ret
      exact ⟨ret_bool (by simp; try omega), hb⟩

set_option maxRecDepth 100000 in
set_option maxHeartbeats 2000000 in
theorem isAheadOf_any (a b : Mk) (w : World) :
    Calls Try.prog 50 #[mrV a, mrV b] w fun e w' => e = .returned (.bool (mkLt a b)) ∧ Below w.heap.size w w' := by
  have hb := ((Below.refl w.heap.size w).alloc (Nat.le_refl _) (.cells #[.int .i64 a.frm, .int .i64 a.to, .string a.style] 46)).alloc (by simp) (.cells #[.int .i64 b.frm, .int .i64 b.to, .string b.style] 46)
  unfold mkLt mrV
  cases he : a.style.toList == b.style.toList with
  | false =>
    rw [if_neg (by simp)]
    go_enter Try.func50, Try.ntmps50
    go_wp2
    go_ret
    exact ⟨rfl, hb⟩
  | true =>
    rw [if_pos rfl]
    go_enter Try.func50, Try.ntmps50
    go_wp2
    go_ret
    exact ⟨rfl, hb⟩
end Go.Proofs.Ytknodkdlphngmax
