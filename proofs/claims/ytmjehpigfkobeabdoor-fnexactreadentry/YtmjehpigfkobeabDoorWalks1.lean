/- The contracts of the small functions of chapter 1: kinds of bytes, good texts. -/
import Derived.Test.YtmjehpigfkobeabDoorRows
import Derived.Test.YtmjehpigfkobeabDoorPlain
import Derived.WalkKit
import Derived.WalkSpells
import Derived.WalkLawsBesides
namespace Go.Proofs.YtmjehpigfkobeabDoor
open Go.RowKit
open Doc1

/-- The table of kinds lies in the world as its initialiser lays it. -/
def Tab (w : World) : Prop := ∀ j, j < 123 → w.cell? ⟨3, j, none⟩ = some (.int .u8 (zs.getD j 0))

theorem ret_bool {a b : Bool} (h : a = b) : Ending.returned (.bool a) = .returned (.bool b) := by rw [h]
theorem kd_big (c : UInt8) (h : 123 ≤ (c.toNat : Int)) : (0 : Int) = kd c := by
  unfold kd kdN
  rw [List.getD_eq_getElem?_getD, List.getElem?_eq_none (by rw [zs_len]; omega)]
  rfl
theorem opB_yes (c : UInt8) (h : (65 : Int) ≤ (c.toNat : Int)) : decide ((c.toNat : Int) ≤ 70) = opB c := by
  unfold opB opN; apply decide_eq_decide.2; omega
theorem opB_no (c : UInt8) (h : (c.toNat : Int) < 65) : false = opB c := by
  unfold opB opN; symm; apply decide_eq_false; omega
theorem opB_no' (c : UInt8) (h : ¬ (65 : Int) ≤ (c.toNat : Int)) : false = opB c := opB_no c (by omega)

set_option maxRecDepth 100000 in
set_option maxHeartbeats 400000 in
theorem kindOf_any (c : UInt8) (w : World) (hT : Tab w) :
    Calls Tryd.prog 109 #[.int .u8 (c.toNat : Int)] w fun e w' => e = .returned (.int .u8 (kd c)) ∧ w' = w := by
  by_cases h : (c.toNat : Int) < 123
  · have hc : w.cell? ⟨3, c.toNat, none⟩ = some (.int .u8 (kd c)) := hT c.toNat (by omega)
    clear hT
    obtain ⟨k, hk⟩ : ∃ k, k = kd c := ⟨_, rfl⟩
    rw [← hk] at hc ⊢
    clear hk
    go_enter Tryd.func109, Tryd.ntmps109
    go_wp2
    go_ret
    exact ⟨rfl, rfl⟩
  · have h' := kd_big c (by omega)
    rw [← h']
    clear h' hT
    have hb : (c.toNat : Int) ≤ 255 := by have := UInt8.toNat_lt c; omega
    go_enter Tryd.func109, Tryd.ntmps109
    go_wp2
    go_ret
    exact ⟨rfl, rfl⟩

set_option maxHeartbeats 400000 in
theorem l1Open_any (c : UInt8) (w : World) :
    Calls Tryd.prog 97 #[.int .u8 (c.toNat : Int)] w fun e w' => e = .returned (.bool (opB c)) ∧ w' = w := by
  go_enter Tryd.func97, Tryd.ntmps97
  go_wp2
  · go_ret
    exact ⟨ret_bool (opB_yes c ‹_›), rfl⟩
  · go_ret
    exact ⟨ret_bool (opB_no c ‹_›), rfl⟩
set_option maxHeartbeats 400000 in
theorem l1Plain_any (c : UInt8) (w : World) :
    Calls Tryd.prog 98 #[.int .u8 (c.toNat : Int)] w fun e w' => e = .returned (.bool (plB c)) ∧ w' = w := by
  go_enter Tryd.func98, Tryd.ntmps98
  go_wp2
  all_goals (go_ret; refine ⟨ret_bool ?_, rfl⟩; rw [Bool.eq_iff_iff]; simp [plB, plN]; omega)

theorem goodText_fold (s : ByteArray) (b : Bool) (h : b = allOk s.data.toList) : (b && decide ((s.size : Int) ≤ 300)) = good s.data.toList := by
  subst h; unfold good
  congr 1
  apply decide_eq_decide.2
  simp
  omega
theorem ok_op {c : UInt8} (h : opB c = true) : okC c = true := by simp [okC, h]
theorem ok_pl {c : UInt8} (h : plB c = true) : okC c = true := by simp [okC, h]
theorem en_of {c : UInt8} (h : ((c.toNat : Int) != 47) = false) : enB c = true := by simp at h; simp [enB]; omega
theorem en_no {c : UInt8} (h : ((c.toNat : Int) != 47) = true) : enB c = false := by simp at h; simp [enB]; omega
theorem ok_en {c : UInt8} (h : ((c.toNat : Int) != 47) = false) : okC c = true := by simp [okC, en_of h]
theorem ok_no {c : UInt8} (h1 : ¬ opB c = true) (h2 : ¬ plB c = true) (h : ((c.toNat : Int) != 47) = true) : okC c = false := by simp [okC, h1, h2, en_no h]
theorem ok_kd {c : UInt8} (h : (kd c == 0) = false) : okC c = true := by rw [kd_zero] at h; simpa using h
theorem no_kd {c : UInt8} (h : (kd c == 0) = true) : okC c = false := by rw [kd_zero] at h; simpa using h
theorem rel_ok {b x y z : Bool} (hr : b = x) (hst : x = (y && z)) (hy : y = true) : b = z := by subst hr hst hy; simp
theorem rel_no {b x y z : Bool} (hr : b = x) (hst : x = (y && z)) (hy : y = false) : false = b := by subst hr hst hy; simp

set_option maxHeartbeats 400000 in
theorem l1Text_any (s : ByteArray) (w : World) (hs : s.size ≤ 1048576) :
    Calls Tryd.prog 72 #[.string s] w fun e w' => e = .returned (.bool (allOk s.data.toList)) ∧ w' = w := by
  go_enter Tryd.func72, Tryd.ntmps72
  go_wp2
  go_loop [3] (fun i => ∃ k : Nat, k ≤ s.size ∧ i = .int .i64 k ∧ Hid (allOk s.data.toList = allOk (s.data.toList.drop k))) (fun i => s.size - (intOf i).toNat)
  case atStart => exact ⟨0, Nat.zero_le _, rfl, rfl⟩
  case round =>
    obtain ⟨k, hk, rfl, hr⟩ := hrel
    by_cases hlt : k < s.size
    · have hst : Hid (allOk (s.data.toList.drop k) = (okC s[k] && allOk (s.data.toList.drop (k + 1)))) := allOk_step s k hlt
      go_wp2_with (first | (go_at_call 97; refine (l1Open_any _ _).mono ?_; rintro e w' ⟨rfl, rfl⟩) | (go_at_call 98; refine (l1Plain_any _ _).mono ?_; rintro e w' ⟨rfl, rfl⟩))
      all_goals first
        | (go_round
           case rel => exact ⟨k + 1, by omega, by go_num, rel_ok hr.out hst.out (by first | exact ok_op ‹_› | exact ok_pl ‹_› | exact ok_en ‹_›)⟩
           case measure => simp [intOf]; omega)
        | (go_ret; exact ⟨ret_bool (rel_no hr.out hst.out (ok_no ‹_› ‹_› ‹_›)), rfl⟩)
    · go_wp2
      go_ret
      exact ⟨ret_bool (by rw [hr.out, drop_end s k (by omega)]; rfl), rfl⟩

set_option maxRecDepth 100000 in
set_option maxHeartbeats 400000 in
theorem goodTextI_any (s : ByteArray) (w : World) (hs : s.size ≤ 1048576) (hT : Tab w) :
    Calls Tryd.prog 90 #[.string s] w fun e w' => e = .returned (.bool (good s.data.toList)) ∧ w' = w := by
  by_cases h3 : s.size ≤ 300
  · go_enter Tryd.func90, Tryd.ntmps90
    go_wp2
    go_loop [3] (fun i => ∃ k : Nat, k ≤ s.size ∧ i = .int .i64 k ∧ Hid (allOk s.data.toList = allOk (s.data.toList.drop k))) (fun i => s.size - (intOf i).toNat)
    case atStart => exact ⟨0, Nat.zero_le _, rfl, rfl⟩
    case round =>
      obtain ⟨k, hk, rfl, hr⟩ := hrel
      by_cases hlt : k < s.size
      · have hst : Hid (allOk (s.data.toList.drop k) = (okC s[k] && allOk (s.data.toList.drop (k + 1)))) := allOk_step s k hlt
        go_wp2_with (go_at_call 109; refine (kindOf_any _ _ hT).mono ?_; rintro e w' ⟨rfl, rfl⟩)
        · go_ret
          exact ⟨ret_bool (by rw [good, ← rel_no hr.out hst.out (no_kd ‹_›)]; rfl), rfl⟩
        · go_round
          case rel => exact ⟨k + 1, by omega, by go_num, rel_ok hr.out hst.out (ok_kd ‹_›)⟩
          case measure => simp [intOf]; omega
      · go_wp2
        go_ret
        exact ⟨ret_bool (by rw [good, hr.out, drop_end s k (by omega)]; simp [allOk]; omega), rfl⟩
  · go_enter Tryd.func90, Tryd.ntmps90
    go_wp2
    go_ret
    exact ⟨ret_bool (by rw [good]; simp; omega), rfl⟩

set_option maxHeartbeats 400000 in
theorem goodTextS_any (s : ByteArray) (w : World) (hs : s.size ≤ 1048576) :
    Calls Tryd.prog 45 #[.string s] w fun e w' => e = .returned (.bool (good s.data.toList)) ∧ w' = w := by
  go_enter Tryd.func45, Tryd.ntmps45
  go_wp2_with (go_at_call 72; refine (l1Text_any _ _ (by assumption)).mono ?_; rintro e w' ⟨rfl, rfl⟩)
  all_goals go_ret
  all_goals exact ⟨ret_bool (by rw [← goodText_fold s _ rfl]; simp [*]), rfl⟩

end Go.Proofs.YtmjehpigfkobeabDoor
