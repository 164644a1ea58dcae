/- The contracts of MatchOf, of the model's and of the program's; its law. -/
import Derived.Test.YtafhpnkedjbcdaaDoorWalks4
import Derived.Test.YtafhpnkedjbcdaaDoorPlain2
import Derived.Deep.QuietTactic
import Derived.BigQuiet
namespace Go.Proofs.YtafhpnkedjbcdaaDoor
open Go.RowKit
open Doc1

/-- The depths of a text lie in a row. -/
def Deps (s : ByteArray) (g : Nat) (w : World) : Prop := ∀ j, j ≤ s.size → w.cell? ⟨g, j, none⟩ = some (.int .i64 (dep s.data.toList j))

set_option maxHeartbeats 1000000 in
theorem endOf_any (s : ByteArray) (g cap a K : Nat) (w : World) (hs : s.size ≤ 1048576) (hc : Deps s g w) (_hcap : s.size + 1 ≤ cap ∧ cap ≤ maxLen) (hK : IsEnd s a K) :
    Calls Tryd.prog 60 #[.slice (some ⟨g, 0, none⟩) (s.size + 1) cap, .int .i64 a] w fun e w' => e = .returned (.int .i64 K) ∧ Below w.heap.size w w' := by
  have hlo := hK.lo
  have hhi := hK.hi
  go_enter Tryd.func60, Tryd.ntmps60
  go_wp2
  go_loopw [5] (fun i wr => ∃ k : Nat, a < k ∧ k ≤ K ∧ i = .int .i64 k ∧ Deps s g wr ∧ Below w.heap.size w wr) (fun i _ => K - (intOf i).toNat)
  case atStart => exact ⟨a + 1, by omega, by omega, by go_num, hc, Below.refl _ _⟩
  case round =>
    obtain ⟨k, hk1, hk2, rfl, hd, hb⟩ := hrel
    have c1 : wr.cell? ⟨g, k + 1, none⟩ = some (.int .i64 (dep s.data.toList (k + 1))) := hd (k + 1) (by omega)
    have c2 : wr.cell? ⟨g, a, none⟩ = some (.int .i64 (dep s.data.toList a)) := hd a (by omega)
    by_cases he : k = K
    · subst he
      have h0 : Hid (dep s.data.toList (k + 1) = dep s.data.toList a) := hK.at_
      have h1 : ((dep s.data.toList (k + 1)) != (dep s.data.toList a)) = false := by rw [h0.out]; simp
      clear hK hd hc h0
      go_wp2
      go_quiet (fail)
      go_wp2
      go_ret
      exact ⟨rfl, below_drewN hb _⟩
    · have h1 : ((dep s.data.toList (k + 1)) != (dep s.data.toList a)) = true := by simpa using hK.no k (by omega) (by omega)
      clear hK hc
      go_wp2
      go_quiet (fail)
      go_wp2
      go_roundw
      case rel => exact ⟨k + 1, by omega, by omega, by go_num, fun j hj => hd j hj, below_drewN hb _⟩
      case measure => simp [intOf]; omega

set_option maxHeartbeats 1000000 in
theorem beginOf_any (s : ByteArray) (g cap a K : Nat) (w : World) (hs : s.size ≤ 1048576) (hc : Deps s g w) (_hcap : s.size + 1 ≤ cap ∧ cap ≤ maxLen) (hK : IsBegin s a K) :
    Calls Tryd.prog 61 #[.slice (some ⟨g, 0, none⟩) (s.size + 1) cap, .int .i64 a] w fun e w' => e = .returned (.int .i64 K) ∧ Below w.heap.size w w' := by
  have hlo := hK.lo
  have hhi := hK.hi
  go_enter Tryd.func61, Tryd.ntmps61
  go_wp2
  go_loopw [5] (fun i wr => ∃ k : Nat, k < a ∧ K ≤ k ∧ i = .int .i64 k ∧ Deps s g wr ∧ Below w.heap.size w wr) (fun i _ => (intOf i).toNat)
  case atStart => exact ⟨a - 1, by omega, by omega, by go_num, hc, Below.refl _ _⟩
  case round =>
    obtain ⟨k, hk1, hk2, rfl, hd, hb⟩ := hrel
    have c1 : wr.cell? ⟨g, k, none⟩ = some (.int .i64 (dep s.data.toList k)) := hd k (by omega)
    have c2 : wr.cell? ⟨g, a + 1, none⟩ = some (.int .i64 (dep s.data.toList (a + 1))) := hd (a + 1) (by omega)
    by_cases he : K = k
    · subst he
      have h0 : Hid (dep s.data.toList K = dep s.data.toList (a + 1)) := hK.at_
      have h1 : ((dep s.data.toList K) != (dep s.data.toList (a + 1))) = false := by rw [h0.out]; simp
      clear hK hd hc h0
      go_wp2
      go_quiet (fail)
      go_wp2
      go_ret
      exact ⟨rfl, below_drewN hb _⟩
    · have h1 : ((dep s.data.toList k) != (dep s.data.toList (a + 1))) = true := by simpa using hK.no k (by omega) (by omega)
      clear hK hc
      go_wp2
      go_quiet (fail)
      go_wp2
      go_roundw
      case rel => exact ⟨k - 1, by omega, by omega, by go_num, fun j hj => hd j hj, below_drewN hb _⟩
      case measure => simp [intOf]; omega

theorem ret_i {x y : Int} (h : x = y) : Ending.returned (.int .i64 x) = .returned (.int .i64 y) := by rw [h]
theorem mt_hit {x y e : Int} {k K : Nat} (hz : (x + e == 0) = decide (k = K)) (he : x + e = y) (h : (y == 0) = true) : (k : Int) = K := by
  rw [he, h] at hz; have := of_decide_eq_true hz.symm; omega
theorem mt_miss {x y e : Int} {k K : Nat} (hz : (x + e == 0) = decide (k = K)) (he : x + e = y) (h : (y == 0) = false) : k ≠ K := by
  rw [he, h] at hz; exact of_decide_eq_false hz.symm
theorem mt_rel {x y e A B C : Int} (hr : x = A - C) (hst : B = A + e) (he : x + e = y) : y = B - C := by omega

set_option maxHeartbeats 1000000 in
theorem l1Match_end (s : ByteArray) (a K : Nat) (w : World) (hs : s.size ≤ 1048576) (hK : IsEnd s a K) (ha : a < s.size) (ho : opB s[a] = true) :
    Calls Tryd.prog 64 #[.string s, .int .i64 a] w fun e w' => e = .returned (.int .i64 K) ∧ w' = w := by
  have hlo := hK.lo
  have hhi := hK.hi
  have hne := op_en ho
  go_enter Tryd.func64, Tryd.ntmps64
  go_wp2
  clear hne
  go_loop [6, 7] (fun d i => ∃ (k : Nat) (x : Int), a ≤ k ∧ k ≤ K ∧ i = .int .i64 k ∧ d = .int .i64 x ∧ -(k : Int) ≤ x ∧ x ≤ k ∧ Hid (x = dep s.data.toList k - dep s.data.toList a)) (fun _ i => s.size - (intOf i).toNat)
  case atStart => exact ⟨a, 0, by omega, by omega, rfl, rfl, by omega, by omega, by show (0 : Int) = _; omega⟩
  case round =>
    obtain ⟨k, x, hk1, hk2, rfl, rfl, hx0, hx1, hr⟩ := hrel
    have hks : k < s.size := by omega
    have hst : Hid (dep s.data.toList (k + 1) = dep s.data.toList k + dl s[k]) := dep_succ s k hks
    have hz : Hid ((x + dl s[k] == 0) = decide (k = K)) := by
      show (x + dl s[k] == 0) = decide (k = K)
      rw [Bool.eq_iff_iff]
      simp only [beq_iff_eq, decide_eq_true_eq]
      have e1 := hr.out
      have e2 := hst.out
      refine ⟨fun h => ?_, fun h => ?_⟩
      · apply Classical.byContradiction
        intro hn
        exact hK.no k hk1 (by omega) (by omega)
      · subst h; have := hK.at_; omega
    clear hK
    go_wp2_with (go_at_call 66; refine (l1Open_any _ _).mono ?_; rintro e w' ⟨rfl, hw⟩; replace hw := hw.symm; subst hw)
    all_goals first
      | exact (op_no_en ‹_› ‹_›).elim
      | (go_ret; exact ⟨ret_i (mt_hit (y := x + 1) hz.out (by rw [dl_op ‹_›]) ‹_›), rfl⟩)
      | (go_ret; exact ⟨ret_i (mt_hit (y := x - 1) hz.out (by rw [dl_en ‹_› ‹_›] <;> rfl) ‹_›), rfl⟩)
      | (go_ret; exact ⟨ret_i (mt_hit (y := x) hz.out (by rw [dl_pl ‹_› ‹_›] <;> omega) ‹_›), rfl⟩)
      | (have hne : k ≠ K := by first | exact mt_miss (y := x + 1) hz.out (by rw [dl_op ‹_›]) ‹_› | exact mt_miss (y := x - 1) hz.out (by rw [dl_en ‹_› ‹_›] <;> rfl) ‹_› | exact mt_miss (y := x) hz.out (by rw [dl_pl ‹_› ‹_›] <;> omega) ‹_›
         go_round
         case rel => exact ⟨k + 1, _, by omega, by omega, by go_num, rfl, by omega, by omega, mt_rel hr.out hst.out (by first | rw [dl_op ‹_›] | (rw [dl_en ‹_› ‹_›] <;> rfl) | (rw [dl_pl ‹_› ‹_›] <;> omega))⟩
         case measure => simp [intOf]; omega)

set_option maxHeartbeats 1000000 in
theorem l1Match_begin (s : ByteArray) (a K : Nat) (w : World) (hs : s.size ≤ 1048576) (hK : IsBegin s a K) (ha : a < s.size) (ho : ((s[a].toNat : Int) == 47) = true) :
    Calls Tryd.prog 64 #[.string s, .int .i64 a] w fun e w' => e = .returned (.int .i64 K) ∧ w' = w := by
  have hlo := hK.lo
  have hhi := hK.hi
  go_enter Tryd.func64, Tryd.ntmps64
  go_wp2
  clear ho
  go_loop [6, 7] (fun d i => ∃ (k : Nat) (x : Int), k ≤ a ∧ K ≤ k ∧ i = .int .i64 k ∧ d = .int .i64 x ∧ -((a - k : Nat) : Int) ≤ x ∧ x ≤ ((a - k : Nat) : Int) ∧ Hid (x = dep s.data.toList (k + 1) - dep s.data.toList (a + 1))) (fun _ i => (intOf i).toNat)
  case atStart => exact ⟨a, 0, by omega, by omega, rfl, rfl, by omega, by omega, by show (0 : Int) = _; omega⟩
  case round =>
    obtain ⟨k, x, hk1, hk2, rfl, rfl, hx0, hx1, hr⟩ := hrel
    have hks : k < s.size := by omega
    have hst : Hid (dep s.data.toList k = dep s.data.toList (k + 1) + (- dl s[k])) := by
      have := dep_succ s k hks
      show dep s.data.toList k = dep s.data.toList (k + 1) + (- dl s[k])
      omega
    have hz : Hid ((x + (- dl s[k]) == 0) = decide (k = K)) := by
      show (x + (- dl s[k]) == 0) = decide (k = K)
      rw [Bool.eq_iff_iff]
      simp only [beq_iff_eq, decide_eq_true_eq]
      have e1 := hr.out
      have e2 := hst.out
      refine ⟨fun h => ?_, fun h => ?_⟩
      · apply Classical.byContradiction
        intro hn
        exact hK.no k (by omega) hk1 (by omega)
      · subst h; have := hK.at_; omega
    clear hK
    have hxb : -1048576 ≤ x ∧ x ≤ 1048576 := by omega
    go_wp2_with (go_at_call 66; refine (l1Open_any _ _).mono ?_; rintro e w' ⟨rfl, hw⟩; replace hw := hw.symm; subst hw)
    all_goals first
      | exact (op_no_en ‹_› ‹_›).elim
      | (go_ret; exact ⟨ret_i (mt_hit (y := x + -1) hz.out (by rw [dl_op ‹_›]) ‹_›), rfl⟩)
      | (go_ret; exact ⟨ret_i (mt_hit (y := x + 1) hz.out (by rw [dl_en ‹_› ‹_›] <;> rfl) ‹_›), rfl⟩)
      | (go_ret; exact ⟨ret_i (mt_hit (y := x) hz.out (by rw [dl_pl ‹_› ‹_›] <;> omega) ‹_›), rfl⟩)
      | (have hne : k ≠ K := by first | exact mt_miss (y := x + -1) hz.out (by rw [dl_op ‹_›]) ‹_› | exact mt_miss (y := x + 1) hz.out (by rw [dl_en ‹_› ‹_›] <;> rfl) ‹_› | exact mt_miss (y := x) hz.out (by rw [dl_pl ‹_› ‹_›] <;> omega) ‹_›
         go_round
         case rel => exact ⟨k - 1, _, by omega, by omega, by go_num, rfl, by omega, by omega, by rw [show k - 1 + 1 = k by omega]; exact mt_rel hr.out hst.out (by first | rw [dl_op ‹_›] | (rw [dl_en ‹_› ‹_›] <;> rfl) | (rw [dl_pl ‹_› ‹_›] <;> omega))⟩
         case measure => simp [intOf]; omega)

/-- The right answer of MatchOf. -/
inductive MT (s : ByteArray) : Int → Int → Bool → Prop
  | nodoc (a : Int) (h : doc s.data.toList = false) : MT s a 0 false
  | out (a : Int) (h : doc s.data.toList = true) (h2 : a < 0 ∨ (s.size : Int) ≤ a) : MT s a 0 false
  | plain (n : Nat) (h : doc s.data.toList = true) (hn : n < s.size) (hp : plB s[n] = true) : MT s n 0 false
  | opens (n K : Nat) (h : doc s.data.toList = true) (hn : n < s.size) (hp : opB s[n] = true) (hK : IsEnd s n K) : MT s n K true
  | ends (n K : Nat) (h : doc s.data.toList = true) (hn : n < s.size) (hp : enB s[n] = true) (hK : IsBegin s n K) : MT s n K true

theorem ok_of_doc (s : ByteArray) (h : doc s.data.toList = true) (n : Nat) (hn : n < s.size) : okC s[n] = true := by
  unfold doc good at h
  simp only [Bool.and_eq_true] at h
  have h1 : allOk s.data.toList = true := h.1.1
  unfold allOk at h1
  have hm : s[n] ∈ s.data.toList := by
    have e := drop_cons s n hn
    have : s[n] ∈ s.data.toList.drop n := by rw [e]; simp
    exact List.mem_of_mem_drop this
  exact List.all_eq_true.1 h1 _ hm
theorem dl_of_op {c : UInt8} (h : opB c = true) : dl c = 1 := by simp [dl, h]
theorem dl_of_en {c : UInt8} (h : enB c = true) : dl c = -1 := by
  have := (sep c).2.1
  rw [h] at this
  simp at this
  simp [dl, h, this]
theorem mt_ex (s : ByteArray) (a : Int) : ∃ x b, MT s a x b := by
  by_cases hd : doc s.data.toList = true
  · by_cases hr : a < 0 ∨ (s.size : Int) ≤ a
    · exact ⟨_, _, .out a hd hr⟩
    · obtain ⟨n, rfl⟩ : ∃ n : Nat, a = n := ⟨a.toNat, by omega⟩
      have hn : n < s.size := by omega
      have hok := ok_of_doc s hd n hn
      by_cases h1 : plB s[n] = true
      · exact ⟨_, _, .plain n hd hn h1⟩
      · by_cases h2 : opB s[n] = true
        · obtain ⟨K, hK⟩ := end_ex s hd n hn (dl_of_op h2)
          exact ⟨_, _, .opens n K hd hn h2 hK⟩
        · have h3 : enB s[n] = true := by
            unfold okC at hok; simpa [h1, h2] using hok
          obtain ⟨K, hK⟩ := begin_ex s hd n hn (dl_of_en h3)
          exact ⟨_, _, .ends n K hd hn h3 hK⟩
  · exact ⟨_, _, .nodoc a (by simpa using hd)⟩

theorem pl_of_op {c : UInt8} (h : opB c = true) : plB c = false := by
  have := (sep c).1
  rw [h] at this; simpa using this
theorem pl_of_en {c : UInt8} (h : enB c = true) : plB c = false := by
  have := (sep c).2.2
  rw [h] at this; simpa using this
theorem en_47 {c : UInt8} (h : enB c = true) : ((c.toNat : Int) == 47) = true := by
  simp [enB] at h; simp; omega
theorem kd2_of_op {c : UInt8} (h : opB c = true) : (kd c == 2) = true := by rw [kd_op]; exact h
theorem kd2_of_en {c : UInt8} (h : enB c = true) : (kd c == 2) = false := by
  rw [kd_op]; have := (sep c).2.1; rw [h] at this; simpa using this
theorem kd3_of_en {c : UInt8} (h : enB c = true) : (kd c == 3) = true := by rw [kd_en]; exact h
theorem kd2_of_pl {c : UInt8} (h : plB c = true) : (kd c == 2) = false := by
  rw [kd_op]; have := (sep c).1; rw [h] at this; simpa using this
theorem kd3_of_pl {c : UInt8} (h : plB c = true) : (kd c == 3) = false := by
  rw [kd_en]; have := (sep c).2.2; rw [h] at this; simpa using this

set_option maxHeartbeats 2000000 in
theorem matchS_any (s : ByteArray) (a x : Int) (b : Bool) (w : World) (hs : s.size ≤ 1048576) (h : MT s a x b) :
    Calls Tryd.prog 11 #[.string s, .int .i64 a] w fun e w' => e = .returned (.tuple #[.int .i64 x, .bool b]) ∧ w' = w := by
  have H1 := goodDocS_any s w hs
  cases h with
  | nodoc _ hd =>
    rw [hd] at H1
    replace H1 := hide H1
    go_enter Tryd.func11, Tryd.ntmps11
    go_wp2_with (go_at_call 15; refine H1.out.mono ?_; rintro e w' ⟨rfl, hw⟩; replace hw := hw.symm; subst hw)
    go_ret2
    exact ⟨rfl, rfl⟩
  | out _ hd hr =>
    rw [hd] at H1
    replace H1 := hide H1
    have H2 := l1In_any a 0 (s.size - 1) w
    rw [decide_eq_false (by omega)] at H2
    replace H2 := hide H2
    clear hd hr
    go_enter Tryd.func11, Tryd.ntmps11
    go_wp2_with (first | (go_at_call 15; refine H1.out.mono ?_; rintro e w' ⟨rfl, hw⟩; replace hw := hw.symm; subst hw) | (go_at_call 62; refine H2.out.mono ?_; rintro e w' ⟨rfl, hw⟩; replace hw := hw.symm; subst hw))
    go_ret2
    exact ⟨rfl, rfl⟩
  | plain n hd hn hp =>
    rw [hd] at H1
    replace H1 := hide H1
    have H2 := l1In_any n 0 (s.size - 1) w
    rw [decide_eq_true (by omega)] at H2
    replace H2 := hide H2
    have H3 := l1Plain_any s[n] w
    rw [hp] at H3
    replace H3 := hide H3
    clear hd hp
    go_enter Tryd.func11, Tryd.ntmps11
    go_wp2_with (first | (go_at_call 15; refine H1.out.mono ?_; rintro e w' ⟨rfl, hw⟩; replace hw := hw.symm; subst hw) | (go_at_call 62; refine H2.out.mono ?_; rintro e w' ⟨rfl, hw⟩; replace hw := hw.symm; subst hw) | (go_at_call 63; refine H3.out.mono ?_; rintro e w' ⟨rfl, hw⟩; replace hw := hw.symm; subst hw))
    go_ret2
    exact ⟨rfl, rfl⟩
  | opens n K hd hn hp hK =>
    rw [hd] at H1
    replace H1 := hide H1
    have H2 := l1In_any n 0 (s.size - 1) w
    rw [decide_eq_true (by omega)] at H2
    replace H2 := hide H2
    have H3 := l1Plain_any s[n] w
    rw [pl_of_op hp] at H3
    replace H3 := hide H3
    have H4 := hide (l1Match_end s n K w hs hK hn hp)
    clear hd hp hK
    go_enter Tryd.func11, Tryd.ntmps11
    go_wp2_with (first | (go_at_call 15; refine H1.out.mono ?_; rintro e w' ⟨rfl, hw⟩; replace hw := hw.symm; subst hw) | (go_at_call 62; refine H2.out.mono ?_; rintro e w' ⟨rfl, hw⟩; replace hw := hw.symm; subst hw) | (go_at_call 63; refine H3.out.mono ?_; rintro e w' ⟨rfl, hw⟩; replace hw := hw.symm; subst hw) | (go_at_call 64; refine H4.out.mono ?_; rintro e w' ⟨rfl, hw⟩; replace hw := hw.symm; subst hw))
    go_ret2
    exact ⟨rfl, rfl⟩
  | ends n K hd hn hp hK =>
    rw [hd] at H1
    replace H1 := hide H1
    have H2 := l1In_any n 0 (s.size - 1) w
    rw [decide_eq_true (by omega)] at H2
    replace H2 := hide H2
    have H3 := l1Plain_any s[n] w
    rw [pl_of_en hp] at H3
    replace H3 := hide H3
    have H4 := hide (l1Match_begin s n K w hs hK hn (en_47 hp))
    clear hd hp hK
    go_enter Tryd.func11, Tryd.ntmps11
    go_wp2_with (first | (go_at_call 15; refine H1.out.mono ?_; rintro e w' ⟨rfl, hw⟩; replace hw := hw.symm; subst hw) | (go_at_call 62; refine H2.out.mono ?_; rintro e w' ⟨rfl, hw⟩; replace hw := hw.symm; subst hw) | (go_at_call 63; refine H3.out.mono ?_; rintro e w' ⟨rfl, hw⟩; replace hw := hw.symm; subst hw) | (go_at_call 64; refine H4.out.mono ?_; rintro e w' ⟨rfl, hw⟩; replace hw := hw.symm; subst hw))
    go_ret2
    exact ⟨rfl, rfl⟩

set_option maxHeartbeats 2000000 in
theorem matchI_any (s : ByteArray) (a x : Int) (b : Bool) (w : World) (hs : s.size ≤ 1048576) (hT : Tab w) (h : MT s a x b) :
    Calls Tryd.prog 10 #[.string s, .int .i64 a] w fun e w' => e = .returned (.tuple #[.int .i64 x, .bool b]) ∧ Below w.heap.size w w' := by
  cases h with
  | nodoc _ hd =>
    have H := hide (depthsOf_no s w hs hT hd)
    clear hd hT
    go_enter Tryd.func10, Tryd.ntmps10
    go_wp2_with (go_at_call 58; refine (H.out).mono ?_; rintro e w' ⟨rfl, hb⟩)
    go_ret2
    exact ⟨rfl, hb⟩
  | out _ hd hr =>
    have H := hide (depthsOf_yes s w hs hT hd)
    clear hd hT
    rcases hr with hr | hr
    all_goals
      go_enter Tryd.func10, Tryd.ntmps10
      go_wp2_with (go_at_call 58; refine (H.out).mono ?_; rintro e w' ⟨g, cap, rfl, hcap, hb, hc⟩; clear hc)
      go_ret2
      exact ⟨rfl, hb⟩
  | plain n hd hn hp =>
    have H := hide (depthsOf_yes s w hs hT hd)
    have k2 := kd2_of_pl hp
    have k3 := kd3_of_pl hp
    clear hd hp
    go_enter Tryd.func10, Tryd.ntmps10
    go_wp2_with (first | (go_at_call 58; refine (H.out).mono ?_; rintro e w' ⟨g, cap, rfl, hcap, hb, hc⟩; clear hc; have hT' := hide (hT.below hb)) | (go_at_call 59; refine (kindOf_any _ _ hT'.out).mono ?_; rintro e w' ⟨rfl, hw⟩; replace hw := hw.symm; subst hw))
    go_ret2
    exact ⟨rfl, hb⟩
  | opens n K hd hn hp hK =>
    have H := hide (depthsOf_yes s w hs hT hd)
    have k2 := kd2_of_op hp
    clear hd hp
    go_enter Tryd.func10, Tryd.ntmps10
    go_wp2_with (first | (go_at_call 58; refine (H.out).mono ?_; rintro e w' ⟨g, cap, rfl, hcap, hb, hc⟩; replace hc := hide hc; have hT' := hide (hT.below hb)) | (go_at_call 59; refine (kindOf_any _ _ hT'.out).mono ?_; rintro e w' ⟨rfl, hw⟩; replace hw := hw.symm; subst hw) | (go_at_call 60; refine (endOf_any s _ _ n K _ hs hc.out hcap hK).mono ?_; rintro e w' ⟨rfl, hb2⟩))
    go_ret2
    exact ⟨rfl, hb.trans (hb2.mono hb.size)⟩
  | ends n K hd hn hp hK =>
    have H := hide (depthsOf_yes s w hs hT hd)
    have k2 := kd2_of_en hp
    have k3 := kd3_of_en hp
    clear hd hp
    go_enter Tryd.func10, Tryd.ntmps10
    go_wp2_with (first | (go_at_call 58; refine (H.out).mono ?_; rintro e w' ⟨g, cap, rfl, hcap, hb, hc⟩; replace hc := hide hc; have hT' := hide (hT.below hb)) | (go_at_call 59; refine (kindOf_any _ _ hT'.out).mono ?_; rintro e w' ⟨rfl, hw⟩; replace hw := hw.symm; subst hw) | (go_at_call 61; refine (beginOf_any s _ _ n K _ hs hc.out hcap hK).mono ?_; rintro e w' ⟨rfl, hb2⟩))
    go_ret2
    exact ⟨rfl, hb.trans (hb2.mono hb.size)⟩
end Go.Proofs.YtafhpnkedjbcdaaDoor
