/- The contracts of MatchOf, of the model's and of the program's; its law. -/
import Derived.Test.YtknodkdlphngmayDoorWalksQ
import Derived.Test.YtknodkdlphngmayDoorPlain2
import Derived.Deep.QuietTactic
import Derived.BigQuiet
namespace Go.Proofs.YtknodkdlphngmayDoor
open Go.RowKit
open Doc1

/-- The depths of a text lie in a row. -/
def Deps (s : ByteArray) (g : Nat) (w : World) : Prop := ∀ j, j ≤ s.size → w.cell? ⟨g, j, none⟩ = some (.int .i64 (dep s.data.toList j))

theorem ret_i {x y : Int} (h : x = y) : Ending.returned (.int .i64 x) = .returned (.int .i64 y) := by rw [h]
theorem mt_hit {x y e : Int} {k K : Nat} (hz : (x + e == 0) = decide (k = K)) (he : x + e = y) (h : (y == 0) = true) : (k : Int) = K := by
  rw [he, h] at hz; have := of_decide_eq_true hz.symm; omega
theorem mt_miss {x y e : Int} {k K : Nat} (hz : (x + e == 0) = decide (k = K)) (he : x + e = y) (h : (y == 0) = false) : k ≠ K := by
  rw [he, h] at hz; exact of_decide_eq_false hz.symm
theorem mt_rel {x y e A B C : Int} (hr : x = A - C) (hst : B = A + e) (he : x + e = y) : y = B - C := by omega

set_option maxHeartbeats 1000000 in
theorem l1Match_end (s : ByteArray) (a K : Nat) (w : World) (hs : s.size ≤ 1048576) (hK : IsEnd s a K) (ha : a < s.size) (ho : opB s[a] = true) :
    Calls Tryd.prog 30 #[.string s, .int .i64 a] w fun e w' => e = .returned (.int .i64 K) ∧ w' = w := by
  have hlo := hK.lo
  have hhi := hK.hi
  have hne := op_en ho
  go_enter Tryd.func30, Tryd.ntmps30
  go_wp2
  clear hne
  go_loop [6, 7] (fun d i => ∃ (k : Nat) (x : Int), a ≤ k ∧ k ≤ K ∧ i = .int .i64 k ∧ d = .int .i64 x ∧ -(k : Int) ≤ x ∧ x ≤ k ∧ Hid (x = dep s.data.toList k - dep s.data.toList a)) (fun _ i => s.size - (intOf i).toNat)
  case atStart => exact ⟨a, 0, by omega, by omega, rfl, rfl, by omega, by omega, by show (0 : Int) = _; omega⟩
  case round =>
    obtain ⟨k, x, hk1, hk2, rfl, rfl, hx0, hx1, hr⟩ := hrel
    have hks : k < s.size := by omega
    have hst : Hid (dep s.data.toList (k + 1) = dep s.data.toList k + dl s[k]) := dep_succ s k hks
    have hz : Hid ((x + dl s[k] == 0) = decide (k = K)) := by
      show (x + dl s[k] == 0) = decide (k = K)
      rw [Bool.eq_iff_iff]
      simp only [beq_iff_eq, decide_eq_true_eq]
      have e1 := hr.out
      have e2 := hst.out
      refine ⟨fun h => ?_, fun h => ?_⟩
      · apply Classical.byContradiction
        intro hn
        exact hK.no k hk1 (by omega) (by omega)
      · subst h; have := hK.at_; omega
    clear hK
    go_wp2_with (go_at_call 28; refine (l1Open_any _ _).mono ?_; rintro e w' ⟨rfl, hw⟩; replace hw := hw.symm; subst hw)
    all_goals first
      | exact (op_no_en ‹_› ‹_›).elim
      | (go_ret; exact ⟨ret_i (mt_hit (y := x + 1) hz.out (by rw [dl_op ‹_›]) ‹_›), rfl⟩)
      | (go_ret; exact ⟨ret_i (mt_hit (y := x - 1) hz.out (by rw [dl_en ‹_› ‹_›] <;> rfl) ‹_›), rfl⟩)
      | (go_ret; exact ⟨ret_i (mt_hit (y := x) hz.out (by rw [dl_pl ‹_› ‹_›] <;> omega) ‹_›), rfl⟩)
      | (have hne : k ≠ K := by first | exact mt_miss (y := x + 1) hz.out (by rw [dl_op ‹_›]) ‹_› | exact mt_miss (y := x - 1) hz.out (by rw [dl_en ‹_› ‹_›] <;> rfl) ‹_› | exact mt_miss (y := x) hz.out (by rw [dl_pl ‹_› ‹_›] <;> omega) ‹_›
         go_round
         case rel => exact ⟨k + 1, _, by omega, by omega, by go_num, rfl, by omega, by omega, mt_rel hr.out hst.out (by first | rw [dl_op ‹_›] | (rw [dl_en ‹_› ‹_›] <;> rfl) | (rw [dl_pl ‹_› ‹_›] <;> omega))⟩
         case measure => simp [intOf]; omega)

set_option maxHeartbeats 1000000 in
theorem l1Match_begin (s : ByteArray) (a K : Nat) (w : World) (hs : s.size ≤ 1048576) (hK : IsBegin s a K) (ha : a < s.size) (ho : ((s[a].toNat : Int) == 47) = true) :
    Calls Tryd.prog 30 #[.string s, .int .i64 a] w fun e w' => e = .returned (.int .i64 K) ∧ w' = w := by
  have hlo := hK.lo
  have hhi := hK.hi
  go_enter Tryd.func30, Tryd.ntmps30
  go_wp2
  clear ho
  go_loop [6, 7] (fun d i => ∃ (k : Nat) (x : Int), k ≤ a ∧ K ≤ k ∧ i = .int .i64 k ∧ d = .int .i64 x ∧ -((a - k : Nat) : Int) ≤ x ∧ x ≤ ((a - k : Nat) : Int) ∧ Hid (x = dep s.data.toList (k + 1) - dep s.data.toList (a + 1))) (fun _ i => (intOf i).toNat)
  case atStart => exact ⟨a, 0, by omega, by omega, rfl, rfl, by omega, by omega, by show (0 : Int) = _; omega⟩
  case round =>
    obtain ⟨k, x, hk1, hk2, rfl, rfl, hx0, hx1, hr⟩ := hrel
    have hks : k < s.size := by omega
    have hst : Hid (dep s.data.toList k = dep s.data.toList (k + 1) + (- dl s[k])) := by
      have := dep_succ s k hks
      show dep s.data.toList k = dep s.data.toList (k + 1) + (- dl s[k])
      omega
    have hz : Hid ((x + (- dl s[k]) == 0) = decide (k = K)) := by
      show (x + (- dl s[k]) == 0) = decide (k = K)
      rw [Bool.eq_iff_iff]
      simp only [beq_iff_eq, decide_eq_true_eq]
      have e1 := hr.out
      have e2 := hst.out
      refine ⟨fun h => ?_, fun h => ?_⟩
      · apply Classical.byContradiction
        intro hn
        exact hK.no k (by omega) hk1 (by omega)
      · subst h; have := hK.at_; omega
    clear hK
    have hxb : -1048576 ≤ x ∧ x ≤ 1048576 := by omega
    go_wp2_with (go_at_call 28; refine (l1Open_any _ _).mono ?_; rintro e w' ⟨rfl, hw⟩; replace hw := hw.symm; subst hw)
    all_goals first
      | exact (op_no_en ‹_› ‹_›).elim
      | (go_ret; exact ⟨ret_i (mt_hit (y := x + -1) hz.out (by rw [dl_op ‹_›]) ‹_›), rfl⟩)
      | (go_ret; exact ⟨ret_i (mt_hit (y := x + 1) hz.out (by rw [dl_en ‹_› ‹_›] <;> rfl) ‹_›), rfl⟩)
      | (go_ret; exact ⟨ret_i (mt_hit (y := x) hz.out (by rw [dl_pl ‹_› ‹_›] <;> omega) ‹_›), rfl⟩)
      | (have hne : k ≠ K := by first | exact mt_miss (y := x + -1) hz.out (by rw [dl_op ‹_›]) ‹_› | exact mt_miss (y := x + 1) hz.out (by rw [dl_en ‹_› ‹_›] <;> rfl) ‹_› | exact mt_miss (y := x) hz.out (by rw [dl_pl ‹_› ‹_›] <;> omega) ‹_›
         go_round
         case rel => exact ⟨k - 1, _, by omega, by omega, by go_num, rfl, by omega, by omega, by rw [show k - 1 + 1 = k by omega]; exact mt_rel hr.out hst.out (by first | rw [dl_op ‹_›] | (rw [dl_en ‹_› ‹_›] <;> rfl) | (rw [dl_pl ‹_› ‹_›] <;> omega))⟩
         case measure => simp [intOf]; omega)

/-- The right answer of MatchOf. -/
inductive MT (s : ByteArray) : Int → Int → Bool → Prop
  | nodoc (a : Int) (h : doc s.data.toList = false) : MT s a 0 false
  | out (a : Int) (h : doc s.data.toList = true) (h2 : a < 0 ∨ (s.size : Int) ≤ a) : MT s a 0 false
  | plain (n : Nat) (h : doc s.data.toList = true) (hn : n < s.size) (hp : plB s[n] = true) : MT s n 0 false
  | opens (n K : Nat) (h : doc s.data.toList = true) (hn : n < s.size) (hp : opB s[n] = true) (hK : IsEnd s n K) : MT s n K true
  | ends (n K : Nat) (h : doc s.data.toList = true) (hn : n < s.size) (hp : enB s[n] = true) (hK : IsBegin s n K) : MT s n K true

theorem ok_of_doc (s : ByteArray) (h : doc s.data.toList = true) (n : Nat) (hn : n < s.size) : okC s[n] = true := by
  unfold doc good at h
  simp only [Bool.and_eq_true] at h
  have h1 : allOk s.data.toList = true := h.1.1
  unfold allOk at h1
  have hm : s[n] ∈ s.data.toList := by
    have e := drop_cons s n hn
    have : s[n] ∈ s.data.toList.drop n := by rw [e]; simp
    exact List.mem_of_mem_drop this
  exact List.all_eq_true.1 h1 _ hm
theorem dl_of_op {c : UInt8} (h : opB c = true) : dl c = 1 := by simp [dl, h]
theorem dl_of_en {c : UInt8} (h : enB c = true) : dl c = -1 := by
  have := (sep c).2.1
  rw [h] at this
  simp at this
  simp [dl, h, this]
theorem mt_ex (s : ByteArray) (a : Int) : ∃ x b, MT s a x b := by
  by_cases hd : doc s.data.toList = true
  · by_cases hr : a < 0 ∨ (s.size : Int) ≤ a
    · exact ⟨_, _, .out a hd hr⟩
    · obtain ⟨n, rfl⟩ : ∃ n : Nat, a = n := ⟨a.toNat, by omega⟩
      have hn : n < s.size := by omega
      have hok := ok_of_doc s hd n hn
      by_cases h1 : plB s[n] = true
      · exact ⟨_, _, .plain n hd hn h1⟩
      · by_cases h2 : opB s[n] = true
        · obtain ⟨K, hK⟩ := end_ex s hd n hn (dl_of_op h2)
          exact ⟨_, _, .opens n K hd hn h2 hK⟩
        · have h3 : enB s[n] = true := by
            unfold okC at hok; simpa [h1, h2] using hok
          obtain ⟨K, hK⟩ := begin_ex s hd n hn (dl_of_en h3)
          exact ⟨_, _, .ends n K hd hn h3 hK⟩
  · exact ⟨_, _, .nodoc a (by simpa using hd)⟩

theorem pl_of_op {c : UInt8} (h : opB c = true) : plB c = false := by
  have := (sep c).1
  rw [h] at this; simpa using this
theorem pl_of_en {c : UInt8} (h : enB c = true) : plB c = false := by
  have := (sep c).2.2
  rw [h] at this; simpa using this
theorem en_47 {c : UInt8} (h : enB c = true) : ((c.toNat : Int) == 47) = true := by
  simp [enB] at h; simp; omega
theorem kd2_of_op {c : UInt8} (h : opB c = true) : (kd c == 2) = true := by rw [kd_op]; exact h
theorem kd2_of_en {c : UInt8} (h : enB c = true) : (kd c == 2) = false := by
  rw [kd_op]; have := (sep c).2.1; rw [h] at this; simpa using this
theorem kd3_of_en {c : UInt8} (h : enB c = true) : (kd c == 3) = true := by rw [kd_en]; exact h
theorem kd2_of_pl {c : UInt8} (h : plB c = true) : (kd c == 2) = false := by
  rw [kd_op]; have := (sep c).1; rw [h] at this; simpa using this
theorem kd3_of_pl {c : UInt8} (h : plB c = true) : (kd c == 3) = false := by
  rw [kd_en]; have := (sep c).2.2; rw [h] at this; simpa using this

end Go.Proofs.YtknodkdlphngmayDoor
