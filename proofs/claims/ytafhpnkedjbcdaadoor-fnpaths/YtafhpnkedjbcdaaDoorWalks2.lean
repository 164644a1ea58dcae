/- The contracts of chapter 1's readers of documents: balanced texts, documents, depths. -/
import Derived.Test.YtafhpnkedjbcdaaDoorWalks1
import Derived.Test.YtafhpnkedjbcdaaDoorLabels
import Derived.ScopeJumps
namespace Go.Proofs.YtafhpnkedjbcdaaDoor
open Go.RowKit
open Doc1

theorem dl_op {c : UInt8} (h : opB c = true) : dl c = 1 := by simp [dl, h]
theorem dl_en {c : UInt8} (h : opB c = false) (h2 : ((c.toNat : Int) == 47) = true) : dl c = -1 := by
  have : enB c = true := by simp at h2; simp [enB]; omega
  simp [dl, h, this]
theorem dl_pl {c : UInt8} (h : opB c = false) (h2 : ((c.toNat : Int) == 47) = false) : dl c = 0 := by
  have : enB c = false := by simp at h2; simp [enB]; omega
  simp [dl, h, this]
theorem op_en {c : UInt8} (h : opB c = true) : ((c.toNat : Int) == 47) = false := by
  have := (sep c).2.1
  rw [h] at this
  simp [enB] at this
  simp; omega

theorem op_no_en {c : UInt8} (h : opB c = true) (h2 : ((c.toNat : Int) == 47) = true) : False := by rw [op_en h] at h2; cases h2
theorem bal_rel {b : Bool} {L L' : List UInt8} {x e y : Int} (hr : b = rn L x) (hst : rn L x = (decide (0 ≤ x + e) && decide (x + e ≤ 12) && rn L' (x + e))) (hd : x + e = y) (h0 : 0 ≤ y) (h1 : y ≤ 12) : b = rn L' y := by
  subst hd; rw [hr, hst]; simp [h0, h1]
theorem bal_no {b : Bool} {L L' : List UInt8} {x e y : Int} (hr : b = rn L x) (hst : rn L x = (decide (0 ≤ x + e) && decide (x + e ≤ 12) && rn L' (x + e))) (hd : x + e = y) (h : y < 0 ∨ 12 < y) : false = b := by
  subst hd; rw [hr, hst]; simp; omega

set_option maxHeartbeats 1000000 in
theorem l1Balanced_any (s : ByteArray) (w : World) (hs : s.size ≤ 1048576) :
    Calls Tryd.prog 68 #[.string s] w fun e w' => e = .returned (.bool (rn s.data.toList 0)) ∧ w' = w := by
  go_enter Tryd.func68, Tryd.ntmps68
  go_wp2
  go_loop [3, 4] (fun d i => ∃ (k : Nat) (x : Int), k ≤ s.size ∧ i = .int .i64 k ∧ d = .int .i64 x ∧ 0 ≤ x ∧ x ≤ 12 ∧ Hid (rn s.data.toList 0 = rn (s.data.toList.drop k) x)) (fun _ i => s.size - (intOf i).toNat)
  case atStart => exact ⟨0, 0, Nat.zero_le _, rfl, rfl, by omega, by omega, rfl⟩
  case round =>
    obtain ⟨k, x, hk, rfl, rfl, hx0, hx1, hr⟩ := hrel
    by_cases hlt : k < s.size
    · have hst : Hid (rn (s.data.toList.drop k) x = (decide (0 ≤ x + dl s[k]) && decide (x + dl s[k] ≤ 12) && rn (s.data.toList.drop (k + 1)) (x + dl s[k]))) := rn_step s k hlt x
      go_wp2_with (go_at_call 66; refine (l1Open_any _ _).mono ?_; rintro e w' ⟨rfl, rfl⟩)
      all_goals first
        | exact (op_no_en ‹_› ‹_›).elim
        | (go_ret; exact ⟨ret_bool (bal_no hr.out hst.out (by first | rw [dl_op ‹_›] | (rw [dl_en ‹_› ‹_›] <;> rfl)) (by omega)), rfl⟩)
        | (go_round
           case rel => exact ⟨k + 1, _, by omega, by go_num, rfl, by omega, by omega, bal_rel hr.out hst.out (by first | rw [dl_op ‹_›] | (rw [dl_en ‹_› ‹_›] <;> rfl) | (rw [dl_pl ‹_› ‹_›] <;> omega)) (by omega) (by omega)⟩
           case measure => simp [intOf]; omega)
    · go_wp2
      go_ret
      exact ⟨ret_bool (by rw [hr.out, drop_end s k (by omega)]; rfl), rfl⟩

set_option maxHeartbeats 400000 in
theorem goodDocS_any (s : ByteArray) (w : World) (hs : s.size ≤ 1048576) :
    Calls Tryd.prog 15 #[.string s] w fun e w' => e = .returned (.bool (doc s.data.toList)) ∧ w' = w := by
  go_enter Tryd.func15, Tryd.ntmps15
  go_wp2_with (first | (go_at_call 67; refine (goodTextS_any _ _ (by assumption)).mono ?_; rintro e w' ⟨rfl, rfl⟩) | (go_at_call 68; refine (l1Balanced_any _ _ (by assumption)).mono ?_; rintro e w' ⟨rfl, rfl⟩))
  all_goals go_ret
  all_goals exact ⟨ret_bool (by unfold doc; simp [*]), rfl⟩
end Go.Proofs.YtafhpnkedjbcdaaDoor
