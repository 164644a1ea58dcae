/- The model's words, joined words, greedy lines. -/
import Derived.Test.YtgacajnljplmiabDoorLin6
set_option linter.unusedVariables false
namespace Go.Proofs.YtgacajnljplmiabDoor
open Go.RowKit
open Doc1

set_option maxRecDepth 100000 in
set_option maxHeartbeats 1000000 in
theorem l13Word_any (s : ByteArray) (w : World) (hs : s.size ≤ 1048576) :
    Calls Tryd.prog 65 #[.string s] w fun e w' => e = .returned (.bool (wrd s)) ∧ w' = w := by
  have I : Hid (Calls Tryd.prog 55 #[.int .i64 (s.size : Int), .int .i64 1, .int .i64 80] w fun e w' => e = .returned (.bool (decide ((1 : Int) ≤ (s.size : Int) ∧ (s.size : Int) ≤ 80))) ∧ w' = w) := hide (l1In_any _ _ _ w)
  have K : Hid (∀ c : UInt8, Calls Tryd.prog 120 #[.int .u8 (c.toNat : Int)] w fun e w' => e = .returned (.bool (plB c)) ∧ w' = w) := hide (fun c => l1Plain_any c w)
  obtain ⟨Z, hZ⟩ : ∃ Z, Z = wrd s := ⟨_, rfl⟩
  rw [← hZ]
  obtain ⟨q, hq⟩ : ∃ q, q = decide ((1 : Int) ≤ (s.size : Int) ∧ (s.size : Int) ≤ 80) := ⟨_, rfl⟩
  rw [← hq] at I
  have HZ : Hid (Z = (s.data.toList.all wdB && q)) := hide (by rw [hZ, hq]; unfold wrd; congr 1; rw [decide_eq_decide]; omega)
  clear hZ hq
  go_enter Tryd.func65, Tryd.ntmps65
  go_wp2
  go_loop [3] (fun i => ∃ k : Nat, k ≤ s.size ∧ i = .int .i64 k ∧ Hid (Z = ((s.data.toList.drop k).all wdB && q))) (fun i => s.size - (intOf i).toNat)
  case atStart => exact ⟨0, Nat.zero_le _, rfl, by simpa using HZ⟩
  case round =>
    obtain ⟨k, hk, rfl, hr⟩ := hrel
    by_cases hlt : k < s.size
    · have hst := hide (all_step s k hlt)
      have K1 := hide (K.out s[k])
      by_cases hp : plB s[k] = true
      · rw [hp] at K1
        by_cases hb : ((s[k].toNat : Int) == 32) = true
        · have hno : Hid (Z = false) := hide (by rw [hr.out, hst.out]; unfold wdB; simp at hb; simp; intro _ e; omega)
          clear hp
          go_wp2_with (go_at_call 120; refine K1.out.mono ?_; rintro e w' ⟨rfl, rfl⟩)
          go_ret
          exact ⟨ret_bool hno.out.symm, rfl⟩
        · have hb2 : ((s[k].toNat : Int) == 32) = false := by simpa using hb
          have hyes : Hid (Z = ((s.data.toList.drop (k + 1)).all wdB && q)) := hide (by
            rw [hr.out, hst.out, show wdB s[k] = true by unfold wdB; rw [hp]; simp at hb2; simp; omega]
            simp)
          clear hb hp
          go_wp2_with (go_at_call 120; refine K1.out.mono ?_; rintro e w' ⟨rfl, rfl⟩)
          go_round
          case rel => exact ⟨k + 1, by omega, by go_num, hyes⟩
          case measure => simp [intOf]; omega
      · have hp2 : plB s[k] = false := by simpa using hp
        rw [hp2] at K1
        have hno : Hid (Z = false) := hide (by rw [hr.out, hst.out]; unfold wdB; rw [hp2]; simp)
        clear hp hp2
        go_wp2_with (go_at_call 120; refine K1.out.mono ?_; rintro e w' ⟨rfl, rfl⟩)
        go_ret
        exact ⟨ret_bool hno.out.symm, rfl⟩
    · have he : Hid (Z = q) := hide (by rw [hr.out, drop_end s k (by omega)]; simp)
      go_wp2_with (go_at_call 55; refine I.out.mono ?_; rintro e w' ⟨rfl, rfl⟩)
      go_ret
      exact ⟨ret_bool he.out.symm, rfl⟩

def okW (n : Int) (s : ByteArray) : Bool := wrd s && decide ((s.size : Int) ≤ n)
theorem okW_step {l : List ByteArray} {n : Int} {k : Nat} (h : k < l.length) : (l.drop k).all (okW n) = (okW n l[k] && (l.drop (k + 1)).all (okW n)) := by rw [List.drop_eq_getElem_cons h]; rfl
theorem okW_end {l : List ByteArray} {n : Int} {k : Nat} (h : l.length ≤ k) : (l.drop k).all (okW n) = true := by rw [List.drop_eq_nil_of_le h]; rfl

set_option maxRecDepth 100000 in
set_option maxHeartbeats 1000000 in
theorem l13Said_any (l : List ByteArray) (n : Int) (a : Option Addr) (cap : Nat) (w : World) (h : StIn w a cap l) (hs : ∀ s ∈ l, s.size ≤ 1048576) (hl : l.length ≤ 10000000) :
    Calls Tryd.prog 54 #[.slice a l.length cap, .int .i64 n] w fun e w' => e = .returned (.bool (said l n)) ∧ w' = w := by
  have I : Hid (Calls Tryd.prog 55 #[.int .i64 n, .int .i64 1, .int .i64 80] w fun e w' => e = .returned (.bool (decide ((1 : Int) ≤ n ∧ n ≤ 80))) ∧ w' = w) := hide (l1In_any _ _ _ w)
  have K : Hid (∀ k (hk : k < l.length), Calls Tryd.prog 65 #[.string l[k]] w fun e w' => e = .returned (.bool (wrd l[k])) ∧ w' = w) := hide (fun k hk => l13Word_any _ w (hs _ (List.getElem_mem hk)))
  have HSz : Hid (∀ k (hk : k < l.length), l[k].size ≤ 1048576) := hide (fun k hk => hs _ (List.getElem_mem hk))
  obtain ⟨Z, hZ⟩ : ∃ Z, Z = said l n := ⟨_, rfl⟩
  rw [← hZ]
  obtain ⟨q, hq⟩ : ∃ q, q = decide ((1 : Int) ≤ n ∧ n ≤ 80) := ⟨_, rfl⟩
  rw [← hq] at I
  have HZ : Hid (Z = (l.all (okW n) && (decide (l.length ≤ 60) && q))) := hide (by rw [hZ, hq]; unfold said; rw [Bool.and_assoc]; rfl)
  have HS := hide h.ce
  clear hZ hq h hs
  go_enter Tryd.func54, Tryd.ntmps54
  go_wp2
  go_loop [9] (fun i => ∃ k : Nat, k ≤ l.length ∧ i = .int .i64 k ∧ Hid (Z = ((l.drop k).all (okW n) && (decide (l.length ≤ 60) && q)))) (fun i => l.length - (intOf i).toNat)
  case atStart => exact ⟨0, Nat.zero_le _, rfl, by simpa using HZ⟩
  case round =>
    obtain ⟨k, hk, rfl, hr⟩ := hrel
    by_cases hlt : k < l.length
    · have hst := hide (okW_step (n := n) hlt)
      obtain ⟨g, o, rfl, hg, hc⟩ := HS.out k hlt
      have K1 := hide (K.out k hlt)
      have hz := HSz.out k hlt
      obtain ⟨s0, hs0⟩ : ∃ s0, l[k] = s0 := ⟨_, rfl⟩
      rw [hs0] at hc K1 hst hz
      clear hs0
      by_cases hp : wrd s0 = true
      · rw [hp] at K1
        by_cases hf : (s0.size : Int) ≤ n
        · have hyes : Hid (Z = ((l.drop (k + 1)).all (okW n) && (decide (l.length ≤ 60) && q))) := hide (by rw [hr.out, hst.out, show okW n s0 = true by unfold okW; rw [hp, decide_eq_true hf]; rfl]; simp)
          have hdd : decide (n < (s0.size : Int)) = false := by rw [decide_eq_false_iff_not]; omega
          clear hp hf
          go_wp2_with (go_at_call 65; refine K1.out.mono ?_; rintro e w' ⟨rfl, rfl⟩)
          go_round
          case rel => exact ⟨k + 1, by omega, by go_num, hyes⟩
          case measure => simp [intOf]; omega
        · have hno : Hid (Z = false) := hide (by rw [hr.out, hst.out]; unfold okW; rw [decide_eq_false hf]; simp)
          have hdd : decide (n < (s0.size : Int)) = true := by rw [decide_eq_true_iff]; omega
          clear hp hf
          go_wp2_with (go_at_call 65; refine K1.out.mono ?_; rintro e w' ⟨rfl, rfl⟩)
          go_ret
          exact ⟨ret_bool hno.out.symm, rfl⟩
      · have hp2 : wrd s0 = false := by simpa using hp
        rw [hp2] at K1
        have hno : Hid (Z = false) := hide (by rw [hr.out, hst.out]; unfold okW; rw [hp2]; simp)
        clear hp hp2
        go_wp2_with (go_at_call 65; refine K1.out.mono ?_; rintro e w' ⟨rfl, rfl⟩)
        go_ret
        exact ⟨ret_bool hno.out.symm, rfl⟩
    · have he : Hid (Z = (decide (l.length ≤ 60) && q)) := hide (by rw [hr.out, okW_end (by omega)]; simp)
      by_cases h6 : l.length ≤ 60
      · have hdd : decide ((l.length : Int) ≤ 60) = true := by rw [decide_eq_true_iff]; omega
        go_wp2_with (go_at_call 55; refine I.out.mono ?_; rintro e w' ⟨rfl, rfl⟩)
        go_ret
        exact ⟨ret_bool (by rw [he.out, decide_eq_true h6]; simp), rfl⟩
      · have hdd : decide ((l.length : Int) ≤ 60) = false := by rw [decide_eq_false_iff_not]; omega
        go_wp2_with (go_at_call 55; refine I.out.mono ?_; rintro e w' ⟨rfl, rfl⟩)
        go_ret
        exact ⟨ret_bool (by rw [he.out, decide_eq_false h6]; simp), rfl⟩

set_option maxRecDepth 100000 in
set_option maxHeartbeats 1000000 in
theorem l13Join_any (l : List ByteArray) (a : Option Addr) (cap : Nat) (w : World) (h : StIn w a cap l) (ht : tt l ≤ 100000) (hl : l.length ≤ 100000) :
    Calls Tryd.prog 112 #[.slice a l.length cap] w fun e w' => e = .returned (.string (jn l)) ∧ w' = w := by
  have HS := hide h.ce
  have HT := hide ht
  have HL : Hid (∀ k, (jn (l.take k)).size ≤ 200000) := hide (fun k => by rw [jn_size, List.length_take]; have := tt_tk l k; omega)
  clear h ht
  go_enter Tryd.func112, Tryd.ntmps112
  go_wp2
  go_loop [3, 8] (fun v i => ∃ k : Nat, k ≤ l.length ∧ i = .int .i64 k ∧ ∃ S, v = .string S ∧ Hid (S = jn (l.take k))) (fun _ i => l.length - (intOf i).toNat)
  case atStart => exact ⟨0, Nat.zero_le _, rfl, _, rfl, hide rfl⟩
  case round =>
    obtain ⟨k, hk, rfl, S, rfl, HJ⟩ := hrel
    by_cases hlt : k < l.length
    · obtain ⟨g, o, rfl, hg, hc⟩ := HS.out k hlt
      have hz := tt_take hlt
      have hy := tt_tk l (k + 1)
      have ht := HT.out
      have hsz : l[k].size ≤ 100000 := by omega
      have hS : S.size ≤ 200000 := by rw [HJ.out]; exact HL.out k
      by_cases h0 : k = 0
      · subst h0
        have HN : Hid (S ++ l[0] = jn (l.take (0 + 1))) := hide (by
          rw [jn_take0 (by omega), HJ.out]
          apply Doc1.ba_eq
          rw [apdB]
          rfl)
        obtain ⟨s0, hs00⟩ : ∃ s0, l[0] = s0 := ⟨_, rfl⟩
        rw [hs00] at hc hsz HN
        rw [Nat.add_zero] at hc
        clear hz hy ht hs00
        go_wp2
        go_round
        case rel => exact ⟨0 + 1, by omega, by go_num, _, rfl, hide (by first | exact HN.out | (rw [← HN.out]))⟩
        case measure => simp [intOf]; omega
      · have HN : Hid (S ++ blB ++ l[k] = jn (l.take (k + 1))) := hide (by rw [List.take_succ_eq_append_getElem hlt, jn_snoc _ _ (fun e => by have := congrArg List.length e; rw [List.length_take] at this; simp only [List.length_nil] at this; omega), HJ.out])
        have hkp : decide ((0 : Int) < (k : Int)) = true := by rw [decide_eq_true_iff]; omega
        obtain ⟨s0, hs00⟩ : ∃ s0, l[k] = s0 := ⟨_, rfl⟩
        rw [hs00] at hc hsz HN
        have hS2 : (S ++ blB).size ≤ 200001 := by rw [ByteArray.size_append]; show S.size + 1 ≤ _; omega
        unfold blB at HN hS2
        clear hz hy ht hs00
        go_wp2
        go_round
        case rel => exact ⟨k + 1, by omega, by go_num, _, rfl, hide HN.out⟩
        case measure => simp [intOf]; omega
    · have HE : Hid (S = jn l) := hide (by rw [HJ.out, List.take_of_length_le (by omega)])
      go_wp2
      go_ret
      refine ⟨?_, rfl⟩
      show Ending.returned (.string S) = _
      rw [HE.out]
end Go.Proofs.YtgacajnljplmiabDoor
