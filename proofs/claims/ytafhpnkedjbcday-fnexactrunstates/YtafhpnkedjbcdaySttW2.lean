/- The contracts of impl.RunStates and of the model's. -/
import Derived.Test.YtafhpnkedjbcdaySttW1
namespace Go.Proofs.Ytafhpnkedjbcday
open Go.RowKit
open Doc1

theorem signOf_q (c : UInt8) (w : World) :
    Calls Try.prog 37 #[.int .u8 (c.toNat : Int)] w fun e w' => e = .returned (.int .i64 (sgn c)) ∧ ∃ n, w' = w.drewN n :=
  (signOf_any c w).mono fun _ _ h => ⟨h.1, 0, h.2⟩
theorem l6Index_q (c : UInt8) (w : World) (h : symB c = true) :
    Calls Try.prog 33 #[.int .u8 (c.toNat : Int)] w fun e w' => e = .returned (.int .i64 (ixB c : Int)) ∧ ∃ n, w' = w.drewN n :=
  (l6Index_any c w h).mono fun _ _ h => ⟨h.1, 0, h.2⟩
theorem ret_bb {a b c d : Bool} (h : a = c) (h2 : b = d) : Ending.returned (.tuple #[.bool a, .bool b]) = .returned (.tuple #[.bool c, .bool d]) := by rw [h, h2]

set_option maxRecDepth 100000 in
set_option maxHeartbeats 2000000 in
theorem runI {w : World} {g : Nat} {l : List Stt} {gs : Nat → Nat} (s : ByteArray) (h : Sin w g l gs) (hs : s.size ≤ 1048576) :
    Calls Try.prog 14 #[.slice (some ⟨g, 0, none⟩) l.length l.length, .string s] w fun e w' => e = .returned (.tuple #[.bool (runA l s.data.toList), .bool (runOk l s.data.toList)]) ∧ Below w.heap.size w w' := by
  have G := areStates_any h
  have hlen : s.data.toList.length = s.size := by simp
  unfold runA
  have hok : runOk l s.data.toList = (statesB l && wordB s.data.toList) := rfl
  have hsz := h.sz
  have H := hide h
  clear h
  cases h1 : statesB l with
  | false =>
    rw [h1] at G
    rw [h1, Bool.false_and] at hok
    simp only [hok, Bool.false_and]
    have HG := hide G
    clear G hok h1
    go_enter Try.func14, Try.ntmps14
    go_wp2_with fail
    refine HG.out.mono ?_
    rintro e w1 ⟨rfl, hb⟩
    go_wp2
    go_ret2
    exact ⟨rfl, hb⟩
  | true =>
    rw [h1] at G
    have HG := hide G
    have W1 := hide (fun w => isWord_any s w hs)
    clear G
    cases h2 : wordB s.data.toList with
    | false =>
      rw [h1, h2, Bool.and_false] at hok
      rw [h2] at W1
      simp only [hok, Bool.false_and]
      clear hok h1 h2
      go_enter Try.func14, Try.ntmps14
      go_wp2_with fail
      refine HG.out.mono ?_
      rintro e w1 ⟨rfl, hb⟩
      go_wp2_with fail
      refine (W1.out w1).mono ?_
      rintro e w' ⟨rfl, hw⟩
      replace hw := hw.symm; subst hw
      go_wp2
      go_ret2
      exact ⟨rfl, hb⟩
    | true =>
      rw [h1, h2, Bool.and_true] at hok
      rw [h2] at W1
      simp only [hok, Bool.true_and]
      have HS := hide h1
      have HW := hide h2
      have S := hide (fun c w => signOf_q c w)
      have h60 := (word_at h2).1
      clear hok h1 h2
      obtain ⟨R, hR⟩ : ∃ R, R = finB l (runTo l s.data.toList) := ⟨_, rfl⟩
      rw [← hR]
      have HR := hide hR
      clear hR
      go_enter Try.func14, Try.ntmps14
      go_wp2_with fail
      refine HG.out.mono ?_
      rintro e w1 ⟨rfl, hb⟩
      go_wp2_with fail
      refine (W1.out w1).mono ?_
      rintro e w' ⟨rfl, hw⟩
      replace hw := hw.symm; subst hw
      clear HG W1
      have hin := hide (H.out.later' hb)
      go_wp2
      go_loopw [6, 18] (fun a i wr => ∃ k : Nat, k ≤ s.size ∧ i = .int .i64 k ∧ a = .int .i64 (runTo l (s.data.toList.take k) : Int) ∧ Below w1.heap.size w1 wr) (fun _ i _ => s.size - (intOf i).toNat)
      case atStart => exact ⟨0, by omega, rfl, rfl, Below.refl _ _⟩
      case round =>
        obtain ⟨k, hk, rfl, rfl, hbr⟩ := hrel
        have hin2 := hide (hin.out.later' hbr)
        have hat := runTo_lt HS.out HW.out k (by omega)
        by_cases hlt : k < s.size
        · have hget : s.data.toList[k]'(by omega) = s[k] := by simp [ByteArray.getElem_eq_getElem_data]
          have hsy := (word_at HW.out).2 k (by omega)
          rw [hget] at hsy
          have hx := sgn_yes hsy
          obtain ⟨hj, he, -⟩ := goTo_eq HS.out hat hsy
          have hrt := runTo_take (l := l) (w := s.data.toList) (k := k) (by omega)
          rw [hget] at hrt
          have h7 := ((states_at HS.out).2 _ hat).1
          have HT := hide hrt
          have HE := hide he
          obtain ⟨c0, c1, c2⟩ := hin2.out.c _ hat
          have cn := (hin2.out.n _ hat).1 _ hj
          rw [h7] at c2
          have S1 := hide (fun w => S.out s[k] w)
          rw [hx.1] at S1
          have hx7 := hx.2
          generalize hq : runTo l (s.data.toList.take k) = q at *
          clear hq hrt he hsy hget hx c0 c1
          generalize hp : ixB s[k] = p at *
          clear hp
          go_wp2_with fail
          go_quiet ((go_at_call 37; exact Calls.quiet_of (S1.out _)))
          go_wp2
          go_roundw
          case rel => exact ⟨k + 1, by omega, by go_num, by rw [HT.out, HE.out], hbr.trans ⟨rfl, rfl, rfl, Nat.le_refl _, fun _ _ => rfl⟩⟩
          case measure => simp [intOf]; omega
        · obtain rfl : k = s.size := by omega
          have ht : s.data.toList.take s.size = s.data.toList := by rw [← hlen, List.take_length]
          obtain ⟨-, c1, -⟩ := hin2.out.c _ hat
          have hv : l[runTo l (s.data.toList.take s.size)].fin = R := by rw [HR.out, ← finB_at hat, ht]
          rw [hv] at c1
          have hbe := hb.trans (hbr.mono hb.size)
          clear ht hv
          generalize runTo l (s.data.toList.take s.size) = q at *
          go_wp2
          go_ret2
          exact ⟨rfl, hbe⟩

set_option maxRecDepth 100000 in
set_option maxHeartbeats 4000000 in
theorem runS {w : World} {g : Nat} {l : List Stt} {gs : Nat → Nat} (s : ByteArray) (h : Sin w g l gs) (hs : s.size ≤ 1048576) :
    Calls Try.prog 12 #[.slice (some ⟨g, 0, none⟩) l.length l.length, .string s] w fun e w' => e = .returned (.tuple #[.bool (runA l s.data.toList), .bool (runOk l s.data.toList)]) ∧ Below w.heap.size w w' := by
  have hlen : s.data.toList.length = s.size := by simp
  have hsz := h.sz
  have H := hide h
  have IN := hide (fun n lo hi w => l1In_any n lo hi w)
  have W1 := hide (fun w => l6Word_any s w hs)
  have FALSE : Hid (statesB l = false → runA l s.data.toList = false ∧ runOk l s.data.toList = false) := hide (fun c => by
    have : runOk l s.data.toList = false := by unfold runOk; rw [c, Bool.false_and]
    exact ⟨by unfold runA; rw [this, Bool.false_and], this⟩)
  have FALSW : Hid (wordB s.data.toList = false → runA l s.data.toList = false ∧ runOk l s.data.toList = false) := hide (fun c => by
    have : runOk l s.data.toList = false := by unfold runOk; rw [c, Bool.and_false]
    exact ⟨by unfold runA; rw [this, Bool.false_and], this⟩)
  have TRUE : Hid (statesB l = true → wordB s.data.toList = true → runA l s.data.toList = finB l (runTo l s.data.toList) ∧ runOk l s.data.toList = true) := hide (fun c d => by
    have : runOk l s.data.toList = true := by unfold runOk; rw [c, d]; rfl
    exact ⟨by unfold runA; rw [this, Bool.true_and], this⟩)
  clear h
  obtain ⟨R, hR⟩ : ∃ R, R = runA l s.data.toList := ⟨_, rfl⟩
  obtain ⟨OK, hOK⟩ : ∃ OK, OK = runOk l s.data.toList := ⟨_, rfl⟩
  rw [← hR, ← hOK]
  rw [← hR, ← hOK] at FALSE FALSW TRUE
  clear hR hOK
  go_enter Try.func12, Try.ntmps12
  go_wp2
  go_loopw [14] (fun i wr => ∃ k : Nat, k ≤ l.length ∧ i = .int .i64 k ∧ Hid ((l.take k).all (nextB l.length) = true) ∧ Below w.heap.size w wr) (fun i _ => l.length - (intOf i).toNat)
  case atStart => exact ⟨0, by omega, rfl, hide rfl, Below.refl _ _⟩
  case round =>
    obtain ⟨k, hk, rfl, hall, hbel⟩ := hrel
    by_cases hlt : k < l.length
    · obtain ⟨c0, c1, c2⟩ := (H.out.later' hbel).c k hlt
      have hN := (H.out.later' hbel).n k hlt
      have hnz := H.out.nz k hlt
      have HRG := hide (H.out.rg k hlt)
      have ha := fun o => hbel.alloc hbel.size o
      have hib := fun o => hide (hN.1.later ((Below.refl wr.heap.size wr).alloc (Nat.le_refl _) o) hN.2)
      clear hN
      go_wp2
      go_loop [21] (fun i => ∃ j : Nat, j ≤ l[k].next.length ∧ i = .int .i64 j ∧ Hid ((l[k].next.take j).all (fun n => decide (0 ≤ n ∧ n ≤ (l.length : Int) - 1)) = true)) (fun i => l[k].next.length - (intOf i).toNat)
      case atStart => exact ⟨0, by omega, rfl, hide rfl⟩
      case round =>
        obtain ⟨j, hj, rfl, hin⟩ := hrel
        by_cases hj7 : j < l[k].next.length
        · have cj := (hib (.cells #[.string l[k].expr, .bool l[k].fin, .slice (some ⟨gs k, 0, none⟩) l[k].next.length l[k].next.length] 46)).out j hj7
          have rj := HRG.out j hj7
          by_cases hok : 0 ≤ l[k].next[j] ∧ l[k].next[j] ≤ (l.length : Int) - 1
          · have HA := hide (all_take (f := fun n => decide (0 ≤ n ∧ n ≤ (l.length : Int) - 1)) hj7 hin.out (decide_eq_true hok))
            have I1 := fun w => IN.out l[k].next[j] 0 ((l.length : Int) - 1) w
            simp only [decide_eq_true hok] at I1
            have I2 := hide I1
            clear I1 hok
            generalize l[k].next[j] = n at *
            go_wp2_with fail
            refine (I2.out _).mono ?_
            rintro e w' ⟨rfl, hw⟩
            replace hw := hw.symm; subst hw
            go_wp2
            go_round
            case rel => exact ⟨j + 1, by omega, by go_num, HA⟩
            case measure => simp [intOf]; omega
          · have HN := hide (states_no_at hlt (next_no_at hj7 hok))
            have I1 := fun w => IN.out l[k].next[j] 0 ((l.length : Int) - 1) w
            simp only [decide_eq_false hok] at I1
            have I2 := hide I1
            clear I1 hok
            generalize l[k].next[j] = n at *
            go_wp2_with fail
            refine (I2.out _).mono ?_
            rintro e w' ⟨rfl, hw⟩
            replace hw := hw.symm; subst hw
            go_wp2
            go_ret2
            exact ⟨ret_bb (FALSE.out HN.out).1.symm (FALSE.out HN.out).2.symm, ha _⟩
        · obtain rfl : j = l[k].next.length := by omega
          by_cases h7 : l[k].next.length = 7
          · have HA := hide (all_take (f := nextB l.length) hlt hall.out (next_yes h7 hin.out))
            have h7' : ((l[k].next.length : Int) != 7) = false := by rw [h7]; rfl
            clear h7
            go_wp2
            go_roundw
            case rel => exact ⟨k + 1, by omega, by go_num, HA, ha _⟩
            case measure => simp [intOf]; omega
          · have HN := hide (states_no_at hlt (next_no_len h7))
            have h7' : ((l[k].next.length : Int) != 7) = true := by simpa using (show (l[k].next.length : Int) ≠ 7 by omega)
            clear h7
            go_wp2
            go_ret2
            exact ⟨ret_bb (FALSE.out HN.out).1.symm (FALSE.out HN.out).2.symm, ha _⟩
    · obtain rfl : k = l.length := by omega
      have hall' := hall.out
      rw [List.take_length] at hall'
      have I1 := fun w => IN.out (l.length : Int) 1 60 w
      have hb := hbel
      by_cases hl : 1 ≤ l.length ∧ l.length ≤ 60
      · have hst : statesB l = true := by unfold statesB; rw [hall', decide_eq_true hl]; rfl
        simp only [decide_eq_true (show (1 : Int) ≤ l.length ∧ (l.length : Int) ≤ 60 by omega)] at I1
        have I2 := hide I1
        clear I1 hall' hall
        cases h2 : wordB s.data.toList with
        | false =>
          rw [h2] at W1
          have F := hide (FALSW.out h2)
          clear h2
          go_wp2_with fail
          refine (I2.out _).mono ?_
          rintro e w' ⟨rfl, hw⟩
          replace hw := hw.symm; subst hw
          go_wp2_with fail
          refine (W1.out _).mono ?_
          rintro e w' ⟨rfl, hw⟩
          replace hw := hw.symm; subst hw
          go_wp2
          go_ret2
          exact ⟨ret_bb F.out.1.symm F.out.2.symm, hb⟩
        | true =>
          rw [h2] at W1
          have F := hide (TRUE.out hst h2)
          have HS := hide hst
          have HW := hide h2
          have SX := hide (fun c w (h : symB c = true) => l6Index_q c w h)
          have h60 := (word_at h2).1
          have hin := hide (H.out.later' hb)
          clear h2 hst hl
          go_wp2_with fail
          refine (I2.out _).mono ?_
          rintro e w' ⟨rfl, hw⟩
          replace hw := hw.symm; subst hw
          go_wp2_with fail
          refine (W1.out _).mono ?_
          rintro e w' ⟨rfl, hw⟩
          replace hw := hw.symm; subst hw
          clear I2 W1
          go_wp2
          go_loopw [10, 11] (fun a i wx => ∃ k : Nat, k ≤ s.size ∧ i = .int .i64 k ∧ a = .int .i64 (runTo l (s.data.toList.take k) : Int) ∧ Below wr.heap.size wr wx) (fun _ i _ => s.size - (intOf i).toNat)
          case atStart => exact ⟨0, by omega, rfl, rfl, Below.refl _ _⟩
          case round =>
            obtain ⟨k, hk, rfl, rfl, hbr⟩ := hrel
            have hin2 := hide (hin.out.later' hbr)
            have hat := runTo_lt HS.out HW.out k (by omega)
            by_cases hlt : k < s.size
            · have hget : s.data.toList[k]'(by omega) = s[k] := by simp [ByteArray.getElem_eq_getElem_data]
              have hsy := (word_at HW.out).2 k (by omega)
              rw [hget] at hsy
              have hx := sgn_yes hsy
              obtain ⟨hj, he, -⟩ := goTo_eq HS.out hat hsy
              have hrt := runTo_take (l := l) (w := s.data.toList) (k := k) (by omega)
              rw [hget] at hrt
              have h7 := ((states_at HS.out).2 _ hat).1
              have HT := hide hrt
              have HE := hide he
              obtain ⟨c0, c1, c2⟩ := hin2.out.c _ hat
              have cn := (hin2.out.n _ hat).1 _ hj
              rw [h7] at c2
              have S1 := hide (fun w => SX.out s[k] w hsy)
              have hx7 := hx.2
              generalize hq : runTo l (s.data.toList.take k) = q at *
              clear hq hrt he hsy hget hx c0 c1
              generalize hp : ixB s[k] = p at *
              clear hp
              go_wp2_with fail
              go_quiet ((go_at_call 33; exact Calls.quiet_of (S1.out _)))
              go_wp2
              go_roundw
              case rel => exact ⟨k + 1, by omega, by go_num, by rw [HT.out, HE.out], hbr.trans ⟨rfl, rfl, rfl, Nat.le_refl _, fun _ _ => rfl⟩⟩
              case measure => simp [intOf]; omega
            · obtain rfl : k = s.size := by omega
              have ht : s.data.toList.take s.size = s.data.toList := by rw [← hlen, List.take_length]
              obtain ⟨-, c1, -⟩ := hin2.out.c _ hat
              have hv : l[runTo l (s.data.toList.take s.size)].fin = R := by rw [F.out.1, ← finB_at hat, ht]
              rw [hv] at c1
              have hbe := hb.trans (hbr.mono hb.size)
              clear ht hv
              generalize runTo l (s.data.toList.take s.size) = q at *
              go_wp2
              go_ret2
              exact ⟨ret_bb rfl F.out.2.symm, hbe⟩
      · have hst : statesB l = false := by unfold statesB; rw [decide_eq_false hl]; rfl
        simp only [decide_eq_false (show ¬ ((1 : Int) ≤ l.length ∧ (l.length : Int) ≤ 60) by omega)] at I1
        have I2 := hide I1
        have F := hide (FALSE.out hst)
        clear I1 hall' hall hst hl
        go_wp2_with fail
        refine (I2.out _).mono ?_
        rintro e w' ⟨rfl, hw⟩
        replace hw := hw.symm; subst hw
        go_wp2
        go_ret2
        exact ⟨ret_bb F.out.1.symm F.out.2.symm, hb⟩

theorem toSt_cp2 {w : World} {v : Value} {l : List Stt} (h : ArgSt w v l) (hm : l.length + szSU l l.length ≤ 1048576) :
    Calls Try.prog 13 #[v] w fun e w' => e = .returned (.slice (some ⟨w.heap.size, 0, none⟩) l.length l.length) ∧ SCp w' w.heap.size l ∧ Below w.heap.size w w' := toSt_cp h hm
theorem SCp.sin {w : World} {g : Nat} {l : List Stt} (h : SCp w g l) (hf : szSn l ≤ 1048576) (hr : ∀ i (hi : i < l.length), (l[i].expr.size ≤ 9223372036854775807) ∧ ∀ j (hj : j < l[i].next.length), -9223372036854775808 ≤ l[i].next[j] ∧ l[i].next[j] ≤ 9223372036854775807) : ∃ gs, Sin w g l gs := by
  obtain ⟨gs, h⟩ := h
  obtain ⟨h1, h2⟩ := szS_each hf
  exact ⟨gs, h, h1, fun i hi => (h2 i hi).2, fun i hi => (hr i hi).2⟩
end Go.Proofs.Ytafhpnkedjbcday
