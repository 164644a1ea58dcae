/- The contracts of impl.RunStates and of the model's, with what they call. -/
import Derived.Test.YtafhpnkedjbcdayRowsSt
import Derived.Test.YtafhpnkedjbcdayShelf
import Derived.Test.YtafhpnkedjbcdayWalks4
import Derived.BigQuiet
import Derived.Deep.QuietTactic
namespace Go.Proofs.Ytafhpnkedjbcday
open Go.RowKit
open Doc1

theorem signOf_any (c : UInt8) (w : World) :
    Calls Try.prog 37 #[.int .u8 (c.toNat : Int)] w fun e w' => e = .returned (.int .i64 (sgn c)) ∧ w' = w := by
  have I := Try.strings_IndexByte ⟨#[33, 45, 46, 65, 66, 67, 68, 69, 70, 116]⟩ (c.toNat : Int) w
  have e1 : Lib.indexByte (ByteArray.mk #[33, 45, 46, 65, 66, 67, 68, 69, 70, 116]).data.toList (c.toNat : Int).toNat.toUInt8 = sgn c := by
    unfold sgn signL
    congr 1
    simp
  rw [e1] at I
  have H := hide I
  clear I e1
  generalize sgn c = r at *
  go_enter Try.func37, Try.ntmps37
  go_wp2_with fail
  refine H.out.mono ?_
  rintro e w' ⟨rfl, hw⟩
  subst hw
  go_wp2
  go_ret
  exact ⟨rfl, rfl⟩

set_option maxHeartbeats 1000000 in
theorem isWord_any (s : ByteArray) (w : World) (hs : s.size ≤ 1048576) :
    Calls Try.prog 36 #[.string s] w fun e w' => e = .returned (.bool (wordB s.data.toList)) ∧ w' = w := by
  have hlen : s.data.toList.length = s.size := by simp
  by_cases h60 : s.size ≤ 60
  · have S := hide (fun c w => signOf_any c w)
    go_enter Try.func36, Try.ntmps36
    go_wp2
    go_loop [9] (fun i => ∃ k : Nat, k ≤ s.size ∧ i = .int .i64 k ∧ Hid ((s.data.toList.take k).all symB = true)) (fun i => s.size - (intOf i).toNat)
    case atStart => exact ⟨0, by omega, rfl, hide rfl⟩
    case round =>
      obtain ⟨k, hk, rfl, hall⟩ := hrel
      by_cases hlt : k < s.size
      · have hget : s.data.toList[k]'(by omega) = s[k] := by simp [ByteArray.getElem_eq_getElem_data]
        cases hsy : symB s[k] with
        | true =>
          have hs1 := sgn_yes hsy
          have HA : Hid ((s.data.toList.take (k + 1)).all symB = true) := hide (all_take (by omega) hall.out (by rw [hget]; exact hsy))
          have S1 := hide (fun w => S.out s[k] w)
          have h3 : 3 ≤ sgn s[k] := by omega
          have h4 : sgn s[k] ≤ 100 := by omega
          clear hget hsy hs1
          generalize sgn s[k] = r at *
          go_wp2_with fail
          refine (S1.out _).mono ?_
          rintro e w' ⟨rfl, hw⟩
          replace hw := hw.symm; subst hw
          go_wp2
          go_round
          case rel => exact ⟨k + 1, by omega, by go_num, HA⟩
          case measure => simp [intOf]; omega
        | false =>
          have hs1 := sgn_no hsy
          have HN := hide (word_no_at (w := s.data.toList) (k := k) (by omega) (by rw [hget]; exact hsy))
          have S1 := hide (fun w => S.out s[k] w)
          clear hget hsy
          generalize sgn s[k] = r at *
          go_wp2_with fail
          refine (S1.out _).mono ?_
          rintro e w' ⟨rfl, hw⟩
          replace hw := hw.symm; subst hw
          go_wp2
          go_ret
          exact ⟨ret_bool HN.out.symm, rfl⟩
      · obtain rfl : k = s.size := by omega
        have hw : wordB s.data.toList = true := by
          have := hall.out
          rw [← hlen, List.take_length] at this
          unfold wordB
          rw [this, decide_eq_true (by omega)]; rfl
        have HW := hide hw
        clear hw
        go_wp2
        go_ret
        exact ⟨ret_bool HW.out.symm, rfl⟩
  · have hw : wordB s.data.toList = false := by unfold wordB; rw [decide_eq_false (by omega)]; rfl
    rw [hw]
    have h61 : (60 : Int) < (s.size : Int) := by omega
    go_enter Try.func36, Try.ntmps36
    go_wp2
    go_ret
    exact ⟨rfl, rfl⟩

set_option maxHeartbeats 400000 in
theorem l1Open_st (c : UInt8) (w : World) :
    Calls Try.prog 65 #[.int .u8 (c.toNat : Int)] w fun e w' => e = .returned (.bool (opB c)) ∧ w' = w := by
  go_enter Try.func65, Try.ntmps65
  go_wp2
  all_goals
    go_ret
    first | exact ⟨ret_bool (opB_yes c ‹_›), rfl⟩ | exact ⟨ret_bool (opB_no c ‹_›), rfl⟩

set_option maxHeartbeats 1000000 in
theorem l6Symbol_any (c : UInt8) (w : World) :
    Calls Try.prog 53 #[.int .u8 (c.toNat : Int)] w fun e w' => e = .returned (.bool (symB c)) ∧ w' = w := by
  have H := hide (l1Open_st c w)
  unfold symB
  cases h1 : opB c with
  | true =>
    rw [h1] at H
    simp only [Bool.true_or]
    go_enter Try.func53, Try.ntmps53
    go_wp2_with fail
    refine H.out.mono ?_
    rintro e w' ⟨rfl, hw⟩
    subst hw
    go_wp2
    go_ret
    exact ⟨rfl, rfl⟩
  | false =>
    rw [h1] at H
    simp only [Bool.false_or]
    by_cases h2 : c = 116
    · have e : (((c.toNat : Int)) == 116) = true := by subst h2; rfl
      rw [decide_eq_true h2]
      clear h2 h1
      go_enter Try.func53, Try.ntmps53
      go_wp2_with fail
      refine H.out.mono ?_
      rintro e w' ⟨rfl, hw⟩
      subst hw
      go_wp2
      go_ret
      exact ⟨rfl, rfl⟩
    · have e : (((c.toNat : Int)) == 116) = false := by
        rw [beq_eq_false_iff_ne]
        intro e
        exact h2 (UInt8.toNat_inj.1 (by show c.toNat = 116; omega))
      rw [decide_eq_false h2]
      clear h2 h1
      go_enter Try.func53, Try.ntmps53
      go_wp2_with fail
      refine H.out.mono ?_
      rintro e w' ⟨rfl, hw⟩
      subst hw
      go_wp2
      go_ret
      exact ⟨rfl, rfl⟩

set_option maxHeartbeats 1000000 in
theorem l6Word_any (s : ByteArray) (w : World) (hs : s.size ≤ 1048576) :
    Calls Try.prog 32 #[.string s] w fun e w' => e = .returned (.bool (wordB s.data.toList)) ∧ w' = w := by
  have hlen : s.data.toList.length = s.size := by simp
  have S := hide (fun c w => l6Symbol_any c w)
  go_enter Try.func32, Try.ntmps32
  go_wp2
  go_loop [3] (fun i => ∃ k : Nat, k ≤ s.size ∧ i = .int .i64 k ∧ Hid ((s.data.toList.take k).all symB = true)) (fun i => s.size - (intOf i).toNat)
  case atStart => exact ⟨0, by omega, rfl, hide rfl⟩
  case round =>
    obtain ⟨k, hk, rfl, hall⟩ := hrel
    by_cases hlt : k < s.size
    · have hget : s.data.toList[k]'(by omega) = s[k] := by simp [ByteArray.getElem_eq_getElem_data]
      have S1 := fun w => S.out s[k] w
      cases hsy : symB s[k] with
      | true =>
        have HA : Hid ((s.data.toList.take (k + 1)).all symB = true) := hide (all_take (by omega) hall.out (by rw [hget]; exact hsy))
        simp only [hsy] at S1
        have S2 := hide S1
        clear hget hsy S1
        go_wp2_with fail
        refine (S2.out _).mono ?_
        rintro e w' ⟨rfl, hw⟩
        replace hw := hw.symm; subst hw
        go_wp2
        go_round
        case rel => exact ⟨k + 1, by omega, by go_num, HA⟩
        case measure => simp [intOf]; omega
      | false =>
        have HN := hide (word_no_at (w := s.data.toList) (k := k) (by omega) (by rw [hget]; exact hsy))
        simp only [hsy] at S1
        have S2 := hide S1
        clear hget hsy S1
        go_wp2_with fail
        refine (S2.out _).mono ?_
        rintro e w' ⟨rfl, hw⟩
        replace hw := hw.symm; subst hw
        go_wp2
        go_ret
        exact ⟨ret_bool HN.out.symm, rfl⟩
    · obtain rfl : k = s.size := by omega
      have hw : wordB s.data.toList = decide ((s.size : Int) ≤ 60) := by
        have := hall.out
        rw [← hlen, List.take_length] at this
        unfold wordB
        rw [this, Bool.and_true]
        exact decide_eq_decide.2 (by omega)
      have HW := hide hw
      clear hw
      go_wp2
      go_ret
      exact ⟨ret_bool HW.out.symm, rfl⟩

theorem l6Index_any (c : UInt8) (w : World) (h : symB c = true) :
    Calls Try.prog 33 #[.int .u8 (c.toNat : Int)] w fun e w' => e = .returned (.int .i64 (ixB c : Int)) ∧ w' = w := by
  by_cases h2 : c = 116
  · subst h2
    go_enter Try.func33, Try.ntmps33
    go_wp2
    go_ret
    exact ⟨rfl, rfl⟩
  · have e : (((c.toNat : Int)) == 116) = false := by
      rw [beq_eq_false_iff_ne]
      intro e
      exact h2 (UInt8.toNat_inj.1 (by show c.toNat = 116; omega))
    have ho : opB c = true := by unfold symB at h; rw [decide_eq_false h2, Bool.or_false] at h; exact h
    have hr : 65 ≤ c.toNat ∧ c.toNat ≤ 70 := by
      unfold opB opN at ho
      simpa using ho
    have hx : (ixB c : Int) = (c.toNat : Int) - 65 := by unfold ixB; rw [if_neg h2]; omega
    have HX := hide hx
    clear hx ho h h2
    generalize c.toNat = q at *
    go_enter Try.func33, Try.ntmps33
    go_wp2
    go_ret
    exact ⟨ret_i2 HX.out.symm, rfl⟩

/-- States in a block of the call's own, with bounds. -/
structure Sin (w : World) (g : Nat) (l : List Stt) (gs : Nat → Nat) : Prop extends SIn w g l gs where
  sz : l.length ≤ 1048576
  nz : ∀ i (h : i < l.length), l[i].next.length ≤ 1048576
  rg : ∀ i (h : i < l.length), ∀ j (hj : j < l[i].next.length), -9223372036854775808 ≤ l[i].next[j] ∧ l[i].next[j] ≤ 9223372036854775807
theorem Sin.later' {w w1 : World} {g : Nat} {l : List Stt} {gs : Nat → Nat} (h : Sin w g l gs) (hb : Below w.heap.size w w1) : Sin w1 g l gs := ⟨h.toSIn.later hb, h.sz, h.nz, h.rg⟩

set_option maxRecDepth 100000 in
set_option maxHeartbeats 2000000 in
theorem areStates_any {w : World} {g : Nat} {l : List Stt} {gs : Nat → Nat} (h : Sin w g l gs) :
    Calls Try.prog 35 #[.slice (some ⟨g, 0, none⟩) l.length l.length] w fun e w' => e = .returned (.bool (statesB l)) ∧ Below w.heap.size w w' := by
  have hsz := h.sz
  have H := hide h
  clear h
  by_cases hl : 1 ≤ l.length ∧ l.length ≤ 60
  · obtain ⟨hl1, hl2⟩ := hl
    go_enter Try.func35, Try.ntmps35
    go_wp2
    go_loopw [17] (fun i wr => ∃ k : Nat, k ≤ l.length ∧ i = .int .i64 k ∧ Hid ((l.take k).all (nextB l.length) = true) ∧ Below w.heap.size w wr) (fun i _ => l.length - (intOf i).toNat)
    case atStart => exact ⟨0, by omega, rfl, hide rfl, Below.refl _ _⟩
    case round =>
      obtain ⟨k, hk, rfl, hall, hbel⟩ := hrel
      by_cases hlt : k < l.length
      · obtain ⟨c0, c1, c2⟩ := (H.out.later' hbel).c k hlt
        have hN := (H.out.later' hbel).n k hlt
        have hnz := H.out.nz k hlt
        by_cases h7 : l[k].next.length = 7
        · have HRG := hide (H.out.rg k hlt)
          have HNX := hide hN.1
          have hgl := hN.2
          have ha := fun o => hbel.alloc hbel.size o
          have hib := fun o => hide (hN.1.later ((Below.refl wr.heap.size wr).alloc (Nat.le_refl _) o) hN.2)
          have e7 : (l[k].next.length : Int) = 7 := by omega
          clear hN
          rw [h7] at c2
          go_wp2
          go_loop [28] (fun i => ∃ j : Nat, j ≤ 7 ∧ i = .int .i64 j ∧ Hid ((l[k].next.take j).all (fun n => decide (0 ≤ n ∧ n ≤ (l.length : Int) - 1)) = true)) (fun i => 7 - (intOf i).toNat)
          case atStart => exact ⟨0, by omega, rfl, hide rfl⟩
          case round =>
            obtain ⟨j, hj, rfl, hin⟩ := hrel
            by_cases hj7 : j < 7
            · have hjl : j < l[k].next.length := by omega
              have cj := (hib (.cells #[.string l[k].expr, .bool l[k].fin, .slice (some ⟨gs k, 0, none⟩) 7 7] 46)).out j hjl
              have rj := HRG.out j hjl
              by_cases hok : 0 ≤ l[k].next[j] ∧ l[k].next[j] ≤ (l.length : Int) - 1
              · have HA := hide (all_take (f := fun n => decide (0 ≤ n ∧ n ≤ (l.length : Int) - 1)) hjl hin.out (decide_eq_true hok))
                generalize l[k].next[j] = n at *
                obtain ⟨hok1, hok2⟩ := hok
                go_wp2
                go_round
                case rel => exact ⟨j + 1, by omega, by go_num, HA⟩
                case measure => simp [intOf]; omega
              · have HN := hide (states_no_at hlt (next_no_at hjl hok))
                generalize l[k].next[j] = n at *
                by_cases hneg : n < 0
                · clear hok
                  go_wp2
                  go_ret
                  exact ⟨ret_bool HN.out.symm, ha _⟩
                · have hge : (l.length : Int) ≤ n := by omega
                  clear hok
                  go_wp2
                  go_ret
                  exact ⟨ret_bool HN.out.symm, ha _⟩
            · obtain rfl : j = 7 := by omega
              have HA := hide (all_take (f := nextB l.length) hlt hall.out (next_yes h7 (by rw [h7]; exact hin.out)))
              go_wp2
              go_roundw
              case rel => exact ⟨k + 1, by omega, by go_num, HA, ha _⟩
              case measure => simp [intOf]; omega
        · have HN := hide (states_no_at hlt (next_no_len h7))
          have h7' : ((l[k].next.length : Int) != 7) = true := by simpa using (show (l[k].next.length : Int) ≠ 7 by omega)
          clear h7 hN
          go_wp2
          go_ret
          exact ⟨ret_bool HN.out.symm, hbel.alloc hbel.size _⟩
      · obtain rfl : k = l.length := by omega
        have hw : statesB l = true := by
          have := hall.out
          rw [List.take_length] at this
          unfold statesB
          rw [this, decide_eq_true ⟨hl1, hl2⟩]; rfl
        have HW := hide hw
        clear hw
        go_wp2
        go_ret
        exact ⟨ret_bool HW.out.symm, hbel⟩
  · have hw : statesB l = false := by unfold statesB; rw [decide_eq_false hl]; rfl
    rw [hw]
    by_cases h0 : l.length < 1
    · clear hl
      go_enter Try.func35, Try.ntmps35
      go_wp2
      go_ret
      exact ⟨rfl, Below.refl _ _⟩
    · have h61 : (60 : Int) < (l.length : Int) := by omega
      clear hl
      go_enter Try.func35, Try.ntmps35
      go_wp2
      go_ret
      exact ⟨rfl, Below.refl _ _⟩
end Go.Proofs.Ytafhpnkedjbcday
