/- The law FnWidths: with the least width there are few enough lines, and with one less there are not, and words come back from lines. -/
import Derived.Test.YtgacajnljplmiabDoorWds3
import Derived.Test.YtgacajnljplmiabDoorTabWd
set_option linter.unusedVariables false
namespace Go.Proofs.YtgacajnljplmiabDoor
open Go.RowKit
open Doc1

theorem wdT_300 (s : ByteArray) : (wdT s).1.length ≤ 300 := by
  unfold wdT
  split
  · have h := wdP_ok s
    exact (wds_bd (wdP s).data.toList (by rw [← szB]; exact h.2)).1
  · simp

set_option maxRecDepth 100000 in
set_option maxHeartbeats 8000000 in
theorem law_widths (C D : Value) (w : World) (hco : CodeAt w.heap.size C w) (hco2 : CodeAt w.heap.size D w) (hlen : ∀ a len cap, C = .slice a len cap → len ≤ 140737488355328) (hlen2 : ∀ a len cap, D = .slice a len cap → len ≤ 140737488355328) (hT : TabW w) :
    Calls Tryd.prog 3 #[C, D] w fun e w' => e = .returned (.bool true) ∧ Below w.heap.size w w' := by
  obtain ⟨a1, len, cap, rfl⟩ := hco.shape
  obtain ⟨a2, len2, cap2, rfl⟩ := hco2.shape
  have l1 := hlen a1 len cap rfl
  have l2 := hlen2 a2 len2 cap2 rfl
  clear hlen hlen2
  by_cases hl : (len : Int) + len2 ≤ 1048576
  · have H0 := hide (drawLeast_any (.slice a1 len cap) w hco)
    have DW : Hid (∀ w1, Below w.heap.size w w1 → Calls Tryd.prog 16 #[.slice a2 len2 cap2] w1 fun e w' => ∃ s : ByteArray, e = .returned (.string s) ∧ s.size ≤ 300000 ∧ Below w1.heap.size w1 w') := hide (fun w1 hb => drawWords_any _ w1 (code_on hco2 hb))
    have WI : Hid (∀ (s : ByteArray) w1, s.size ≤ 1048576 → Below w.heap.size w w1 → Calls Tryd.prog 13 #[.string s] w1 (LbPost (wdT s).1 (wdT s).2 w1)) := hide (fun s w1 hs hb => wordsI_any s w1 hs (hT.below hb).1 (fun w' hb' => (hT.below hb).2.below hb'))
    have WS : Hid (∀ (s : ByteArray) w1, s.size ≤ 1048576 → Calls Tryd.prog 17 #[.string s] w1 (LbPost (wdT s).1 (wdT s).2 w1)) := hide (fun s w1 hs => wordsS_any s w1 hs)
    have LI : Hid (∀ (L : List ByteArray) (m : Int) a c w1, Below w.heap.size w w1 → (∀ x ∈ L, x.size ≤ 9) → StIn w1 a c L → Calls Tryd.prog 10 #[.slice a L.length c, .int .i64 m] w1 (IbPost (lwT L m).1 (lwT L m).2 w1)) := hide (fun L m a c w1 hb hs hx => leastI_any L m a c w1 hx (fun s h => by have := hs s h; omega) (hT.below hb).1)
    have LS : Hid (∀ (L : List ByteArray) (m : Int) a c w1, L.length ≤ 61 → (∀ x ∈ L, x.size ≤ 9) → StIn w1 a c L → Calls Tryd.prog 11 #[.slice a L.length c, .int .i64 m] w1 (IbPost (lwT L m).1 (lwT L m).2 w1)) := hide (fun L m a c w1 hl hs hx => leastS_any L m a c w1 hx (fun s h => by have := hs s h; omega) (by omega))
    have GI : Hid (∀ (L : List ByteArray) (n : Int) a c w1, Below w.heap.size w w1 → (∀ x ∈ L, x.size ≤ 9) → StIn w1 a c L → Calls Tryd.prog 12 #[.slice a L.length c, .int .i64 n] w1 (LbPost (grT L n).1 (grT L n).2 w1)) := hide (fun L n a c w1 hb hs hx => greedyI_any L n a c w1 hx (fun s h => by have := hs s h; omega) (hT.below hb).1)
    have GT : Hid (∀ (s : ByteArray) w1, s.size ≤ 1048576 → Calls Tryd.prog 14 #[.string s] w1 fun e w' => e = .returned (.bool (good s.data.toList)) ∧ w' = w1) := hide (fun s w1 hs => goodTextS_any s w1 hs)
    clear hco hco2 hT
    go_enter Tryd.func3, Tryd.ntmps3
    go_wp2_with fail
    refine H0.out.mono ?_
    rintro e w1 ⟨v, L, m, rfl, ho, hL, hsz, hm0, hm8, hb1⟩
    obtain ⟨av, cv, rfl, st⟩ := ho.st
    have hLc := st.c1
    have hLm := st.c2
    unfold maxLen at hLm
    have HSZ := hide hsz
    have HST := hide st
    have HB1 := hide hb1
    have L1 := hide (LI.out L m av cv w1 hb1 hsz st)
    unfold IbPost at L1
    obtain ⟨R, hR⟩ : ∃ R, R = lwT L m := ⟨_, rfl⟩
    rw [← hR] at L1
    have HR := hide hR
    have L2 : Hid (∀ w2, Below w1.heap.size w1 w2 → Calls Tryd.prog 11 #[.slice av L.length cv, .int .i64 m] w2 (IbPost R.1 R.2 w2)) := hide (fun w2 hb => by rw [hR]; exact LS.out L m av cv w2 hL hsz (st.later hb))
    clear H0 ho st hb1 hsz hR LI LS
    obtain ⟨t, bb⟩ := R
    go_wp2_with fail
    refine L1.out.mono ?_
    rintro e w2 ⟨rfl, hb2⟩
    have L3 := hide (L2.out w2 hb2)
    have HB2 := hide hb2
    clear L1 L2 hb2
    unfold IbPost at L3
    go_wp2_with fail
    refine L3.out.mono ?_
    rintro e w3 ⟨rfl, hb3⟩
    have HB13 : Hid (Below w1.heap.size w1 w3) := hide (HB2.out.trans (hb3.mono HB2.out.size))
    have HB3 : Hid (Below w.heap.size w w3) := hide (HB1.out.trans (HB13.out.mono HB1.out.size))
    have hbn : (bb != bb) = false := by simp
    have htn : (t != t) = false := by simp
    clear hb3 L3 HB2
    cases bb with
    | false =>
      clear hbn htn
      have D1 := hide (DW.out w3 HB3.out)
      go_wp2_with fail
      refine D1.out.mono ?_
      rintro e x1 ⟨s, rfl, hss, hx1⟩
      have HX1 : Hid (Below w.heap.size w x1) := hide ((HB3.out).trans (hx1.mono (HB3.out).size))
      have I1 := hide (WI.out s x1 (by omega) HX1.out)
      clear hx1 D1
      go_wp2_with fail
      refine I1.out.mono ?_
      rintro e x2 ⟨v2, rfl, o2, hx2⟩
      have HX2 : Hid (Below w.heap.size w x2) := hide (HX1.out.trans (hx2.mono HX1.out.size))
      have S1 := hide (WS.out s x2 (by omega))
      have HO2 := hide o2
      clear hx2 I1 o2
      go_wp2_with fail
      refine S1.out.mono ?_
      rintro e x3 ⟨v3, rfl, o3, hx3⟩
      have HX3 : Hid (Below w.heap.size w x3) := hide (HX2.out.trans (hx3.mono HX2.out.size))
      have o2' := own_below HO2.out hx3
      obtain ⟨a2', c2', e2', st2⟩ := SOwn.st o2'
      obtain ⟨a3', c3', e3', st3⟩ := SOwn.st o3
      subst e2' e3'
      have T1 := hide (sameTexts_yes _ _ _ _ _ x3 st2 st3 (by have := wdT_le s; have := (wdT_300 s); omega))
      have hbe : ((wdT s).2 == (wdT s).2) = true := by simp
      obtain ⟨bw, hbw⟩ : ∃ bw, bw = (wdT s).2 := ⟨_, rfl⟩
      rw [← hbw] at hbe ⊢
      clear hx3 S1 o2' o3 st2 st3 HO2 hbw
      go_wp2_with (go_at_call 15; refine T1.out.mono ?_; rintro e x4 ⟨rfl, hx4⟩; have HX4 : Hid (Below w.heap.size w x4) := hide (HX3.out.trans (hx4.mono HX3.out.size)); clear hx4)
      go_ret
      exact ⟨rfl, HX4.out⟩
    | true =>
      by_cases h0 : L.length = 0
      · have hz : decide ((0 : Int) < (L.length : Int)) = false := by rw [decide_eq_false_iff_not]; omega
        have hz' : decide (0 < L.length) = false := by rw [decide_eq_false_iff_not]; omega
        clear hbn htn
        have D1 := hide (DW.out w3 HB3.out)
        go_wp2_with fail
        refine D1.out.mono ?_
        rintro e x1 ⟨s, rfl, hss, hx1⟩
        have HX1 : Hid (Below w.heap.size w x1) := hide ((HB3.out).trans (hx1.mono (HB3.out).size))
        have I1 := hide (WI.out s x1 (by omega) HX1.out)
        clear hx1 D1
        go_wp2_with fail
        refine I1.out.mono ?_
        rintro e x2 ⟨v2, rfl, o2, hx2⟩
        have HX2 : Hid (Below w.heap.size w x2) := hide (HX1.out.trans (hx2.mono HX1.out.size))
        have S1 := hide (WS.out s x2 (by omega))
        have HO2 := hide o2
        clear hx2 I1 o2
        go_wp2_with fail
        refine S1.out.mono ?_
        rintro e x3 ⟨v3, rfl, o3, hx3⟩
        have HX3 : Hid (Below w.heap.size w x3) := hide (HX2.out.trans (hx3.mono HX2.out.size))
        have o2' := own_below HO2.out hx3
        obtain ⟨a2', c2', e2', st2⟩ := SOwn.st o2'
        obtain ⟨a3', c3', e3', st3⟩ := SOwn.st o3
        subst e2' e3'
        have T1 := hide (sameTexts_yes _ _ _ _ _ x3 st2 st3 (by have := wdT_le s; have := (wdT_300 s); omega))
        have hbe : ((wdT s).2 == (wdT s).2) = true := by simp
        obtain ⟨bw, hbw⟩ : ∃ bw, bw = (wdT s).2 := ⟨_, rfl⟩
        rw [← hbw] at hbe ⊢
        clear hx3 S1 o2' o3 st2 st3 HO2 hbw
        go_wp2_with (go_at_call 15; refine T1.out.mono ?_; rintro e x4 ⟨rfl, hx4⟩; have HX4 : Hid (Below w.heap.size w x4) := hide (HX3.out.trans (hx4.mono HX3.out.size)); clear hx4)
        go_ret
        exact ⟨rfl, HX4.out⟩
      · have hz : decide ((0 : Int) < (L.length : Int)) = true := by rw [decide_eq_true_iff]; omega
        have hz' : decide (0 < L.length) = true := by rw [decide_eq_true_iff]; omega
        have hlw : lwx L m 1 = (t, true) := by
          have h1 := HR.out
          unfold lwT at h1
          by_cases hc : said L 80 = true ∧ 1 ≤ m ∧ m ≤ 60
          · rw [if_pos hc, if_neg h0] at h1; exact h1.symm
          · rw [if_neg hc] at h1; cases h1
        obtain ⟨q, rfl, hq1, hq8, hsd, hle, hno⟩ := lwx_spec _ 1 t rfl hlw
        have hgt := grT_len hsd
        have gr : grT L q = (grL L q, true) := by unfold grT; rw [if_pos hsd]
        have G1 := hide (GI.out L (q : Int) av cv w3 HB3.out HSZ.out (HST.out.later HB13.out))
        rw [gr] at G1
        have hg60 := grL_len hsd
        have HJ : Hid (jn (grL L q) = jn L) := hide (jn_grL q (by omega))
        have hsw : saidW L = true := by
          have := said_split L q
          rw [hsd] at this
          have h2 := this.symm
          simp only [Bool.and_eq_true] at h2
          exact h2.1.2
        have HSW := hide hsw
        have htt := (said_iff.1 hsd).tt_le
        have hwq : IntKind.i64.wrap ((q : Int) - 1) = (q : Int) - 1 := by rw [IntKind.wrap_i64]; omega
        have G2 := hide (fun w4 (hb : Below w3.heap.size w3 w4) => GI.out L ((q : Int) - 1) av cv w4 (HB3.out.trans (hb.mono HB3.out.size)) HSZ.out ((HST.out.later HB13.out).later hb))
        have HNO : Hid ((grT L ((q : Int) - 1)).2 = true → ¬ ((grT L ((q : Int) - 1)).1.length : Int) ≤ m) := hide (fun h hle2 => by
          by_cases hs1 : said L ((q : Int) - 1) = true
          · have hlo := (said_iff.1 hs1).lo
            obtain ⟨p, hp⟩ : ∃ p : Nat, (q : Int) - 1 = (p : Int) := ⟨((q : Int) - 1).toNat, by omega⟩
            rw [hp] at hs1 hle2
            rw [(grT_len hs1).1] at hle2
            exact hno p (by omega) (by omega) ⟨hs1, hle2⟩
          · rw [(grT_no hs1).2] at h; cases h)
        have hG60 : (grT L ((q : Int) - 1)).1.length ≤ 60 := by
          by_cases hs1 : said L ((q : Int) - 1) = true
          · rw [(grT_len hs1).1]; exact grL_len hs1
          · rw [(grT_no hs1).1]; simp
        obtain ⟨GL, hGL⟩ : ∃ GL, GL = grL L q := ⟨_, rfl⟩
        rw [← hGL] at G1 hle hg60 HJ
        have htg : tt GL ≤ 5000 := by
          have h1 := congrArg ByteArray.size HJ.out
          rw [jn_size, jn_size] at h1
          omega
        obtain ⟨G3, hG3⟩ : ∃ G3, G3 = (grT L ((q : Int) - 1)).1 := ⟨_, rfl⟩
        obtain ⟨b3, hb3⟩ : ∃ b3, b3 = (grT L ((q : Int) - 1)).2 := ⟨_, rfl⟩
        rw [← hG3] at G2 HNO hG60
        rw [← hb3] at G2 HNO
        have hdl : decide (m < (GL.length : Int)) = false := by rw [decide_eq_false_iff_not]; omega
        clear hlw hno hgt gr hsd hsw hGL hG3 hb3 HR hbn htn GI
        go_wp2_with fail
        refine G1.out.mono ?_
        rintro e w4 ⟨v4, rfl, o4, hb4⟩
        obtain ⟨a4, c4, rfl, st4⟩ := SOwn.st o4
        have HB34 := hide hb4
        have HS4 := hide st4
        have hc41 := st4.c1
        have hc42 := st4.c2
        unfold maxLen at hc42
        have G4 := hide (G2.out w4 hb4)
        clear o4 hb4 st4 G1 G2
        go_wp2_with fail
        refine G4.out.mono ?_
        rintro e w5 ⟨v5, rfl, o5, hb5⟩
        obtain ⟨a5, c5, rfl, st5⟩ := SOwn.st o5
        have HB35 : Hid (Below w3.heap.size w3 w5) := hide (HB34.out.trans (hb5.mono HB34.out.size))
        have HS5 := hide (HS4.out.later hb5)
        clear o5 hb5 st5 G4
        have hb3d : b3 = false ∨ (b3 = true ∧ decide ((G3.length : Int) ≤ m) = false) := by
          cases b3 with
          | false => exact .inl rfl
          | true => exact .inr ⟨rfl, decide_eq_false (by have := HNO.out rfl; omega)⟩
        have HS5c := hide HS5.out.ce
        have HTG := hide htg
        have HLK : Hid (∀ k, (jn (GL.take k)).size ≤ 6000) := hide (fun k => by rw [jn_size, List.length_take]; have := tt_tk GL k; omega)
        have HB5 : Hid (Below w.heap.size w w5) := hide (HB3.out.trans (HB35.out.mono HB3.out.size))
        have W5 := hide (WI.out (jn L) w5 (by rw [jn_size]; omega) HB5.out)
        have W6 := hide (fun w6 => GT.out (jn L) w6 (by rw [jn_size]; omega))
        have HST5 := hide ((HST.out.later HB13.out).later HB35.out)
        clear htg HNO HS5 htt
        rcases hb3d with rfl | ⟨rfl, hd3⟩
        · go_wp2
          go_loop [15, 92] (fun v i => ∃ k : Nat, k ≤ GL.length ∧ i = .int .i64 k ∧ ∃ S, v = .string S ∧ Hid (S = jn (GL.take k))) (fun _ i => GL.length - (intOf i).toNat)
          case atStart => exact ⟨0, Nat.zero_le _, rfl, _, rfl, hide rfl⟩
          case round =>
            obtain ⟨k, hk, rfl, S, rfl, HJK⟩ := hrel
            by_cases hlt : k < GL.length
            · obtain ⟨g, o, rfl, hg, hc⟩ := HS5c.out k hlt
              have hz1 := tt_take hlt
              have hy := tt_tk GL (k + 1)
              have ht := HTG.out
              have hsz1 : GL[k].size ≤ 5000 := by omega
              have hS : S.size ≤ 6000 := by rw [HJK.out]; exact HLK.out k
              by_cases h00 : k = 0
              · subst h00
                have HN : Hid (S ++ GL[0] = jn (GL.take (0 + 1))) := hide (by
                  rw [jn_take0 (by omega), HJK.out]
                  apply Doc1.ba_eq
                  rw [apdB]
                  rfl)
                obtain ⟨s0, hs00⟩ : ∃ s0, GL[0] = s0 := ⟨_, rfl⟩
                rw [hs00] at hc hsz1 HN
                rw [Nat.add_zero] at hc
                clear hz1 hy ht hs00
                go_wp2
                go_round
                case rel => exact ⟨0 + 1, by omega, by go_num, _, rfl, hide (by first | exact HN.out | (rw [← HN.out]))⟩
                case measure => simp [intOf]; omega
              · have HN : Hid (S ++ blB ++ GL[k] = jn (GL.take (k + 1))) := hide (by rw [List.take_succ_eq_append_getElem hlt, jn_snoc _ _ (fun e => by have := congrArg List.length e; rw [List.length_take] at this; simp only [List.length_nil] at this; omega), HJK.out])
                have hkp : decide ((0 : Int) < (k : Int)) = true := by rw [decide_eq_true_iff]; omega
                obtain ⟨s0, hs00⟩ : ∃ s0, GL[k] = s0 := ⟨_, rfl⟩
                rw [hs00] at hc hsz1 HN
                have hS2 : (S ++ blB).size ≤ 6001 := by rw [ByteArray.size_append]; show S.size + 1 ≤ _; omega
                unfold blB at HN hS2
                clear hz1 hy ht hs00
                go_wp2
                go_round
                case rel => exact ⟨k + 1, by omega, by go_num, _, rfl, hide HN.out⟩
                case measure => simp [intOf]; omega
            · obtain rfl : S = jn L := by rw [HJK.out, List.take_of_length_le (by omega), HJ.out]
              clear HJK
              go_wp2_with fail
              refine W5.out.mono ?_
              rintro e w6 ⟨v6, rfl, o6, hb6⟩
              obtain ⟨a6, c6, e6, st6⟩ := SOwn.st o6
              subst e6
              have HB6 : Hid (Below w.heap.size w w6) := hide (HB5.out.trans (hb6.mono HB5.out.size))
              have HST6 := hide (HST5.out.later hb6)
              have W7 := hide (W6.out w6)
              have HS6 := hide st6
              clear hb6 o6 st6 W5
              by_cases hgd : good (jn L).data.toList = true
              · have hwb := words_back HSW.out hgd
                rw [hwb] at HS6 ⊢
                rw [hgd] at W7
                have T6 := hide (sameTexts_yes L a6 av c6 cv w6 HS6.out HST6.out (by omega))
                clear hwb hgd
                go_wp2_with (first
                  | (go_at_call 14; refine W7.out.mono ?_; rintro e w9 ⟨rfl, hw'⟩; replace hw' := hw'.symm; subst hw')
                  | (go_at_call 15; refine T6.out.mono ?_; rintro e w7 ⟨rfl, hb7⟩; have HB7 : Hid (Below w.heap.size w w7) := hide (HB6.out.trans (hb7.mono HB6.out.size)); clear hb7)
                  | fail)
                have D1 := hide (DW.out w7 HB7.out)
                skip
                refine D1.out.mono ?_
                rintro e x1 ⟨s, rfl, hss, hx1⟩
                have HX1 : Hid (Below w.heap.size w x1) := hide ((HB7.out).trans (hx1.mono (HB7.out).size))
                have I1 := hide (WI.out s x1 (by omega) HX1.out)
                clear hx1 D1
                go_wp2_with fail
                refine I1.out.mono ?_
                rintro e x2 ⟨v2, rfl, o2, hx2⟩
                have HX2 : Hid (Below w.heap.size w x2) := hide (HX1.out.trans (hx2.mono HX1.out.size))
                have S1 := hide (WS.out s x2 (by omega))
                have HO2 := hide o2
                clear hx2 I1 o2
                go_wp2_with fail
                refine S1.out.mono ?_
                rintro e x3 ⟨v3, rfl, o3, hx3⟩
                have HX3 : Hid (Below w.heap.size w x3) := hide (HX2.out.trans (hx3.mono HX2.out.size))
                have o2' := own_below HO2.out hx3
                obtain ⟨a2', c2', e2', st2⟩ := SOwn.st o2'
                obtain ⟨a3', c3', e3', st3⟩ := SOwn.st o3
                subst e2' e3'
                have T1 := hide (sameTexts_yes _ _ _ _ _ x3 st2 st3 (by have := wdT_le s; have := (wdT_300 s); omega))
                have hbe : ((wdT s).2 == (wdT s).2) = true := by simp
                obtain ⟨bw, hbw⟩ : ∃ bw, bw = (wdT s).2 := ⟨_, rfl⟩
                rw [← hbw] at hbe ⊢
                clear hx3 S1 o2' o3 st2 st3 HO2 hbw
                go_wp2_with (go_at_call 15; refine T1.out.mono ?_; rintro e x4 ⟨rfl, hx4⟩; have HX4 : Hid (Below w.heap.size w x4) := hide (HX3.out.trans (hx4.mono HX3.out.size)); clear hx4)
                go_ret
                exact ⟨rfl, HX4.out⟩
              · have hgf : good (jn L).data.toList = false := by simpa using hgd
                rw [hgf] at W7
                obtain ⟨Q1, hQ1⟩ : ∃ Q1, Q1 = (wdT (jn L)).1 := ⟨_, rfl⟩
                obtain ⟨Q2, hQ2⟩ : ∃ Q2, Q2 = (wdT (jn L)).2 := ⟨_, rfl⟩
                rw [← hQ1, ← hQ2]
                clear hgd hgf hQ1 hQ2
                go_wp2_with (go_at_call 14; refine W7.out.mono ?_; rintro e w9 ⟨rfl, hw'⟩; replace hw' := hw'.symm; subst hw')
                have D1 := hide (DW.out w6 HB6.out)
                skip
                refine D1.out.mono ?_
                rintro e x1 ⟨s, rfl, hss, hx1⟩
                have HX1 : Hid (Below w.heap.size w x1) := hide ((HB6.out).trans (hx1.mono (HB6.out).size))
                have I1 := hide (WI.out s x1 (by omega) HX1.out)
                clear hx1 D1
                go_wp2_with fail
                refine I1.out.mono ?_
                rintro e x2 ⟨v2, rfl, o2, hx2⟩
                have HX2 : Hid (Below w.heap.size w x2) := hide (HX1.out.trans (hx2.mono HX1.out.size))
                have S1 := hide (WS.out s x2 (by omega))
                have HO2 := hide o2
                clear hx2 I1 o2
                go_wp2_with fail
                refine S1.out.mono ?_
                rintro e x3 ⟨v3, rfl, o3, hx3⟩
                have HX3 : Hid (Below w.heap.size w x3) := hide (HX2.out.trans (hx3.mono HX2.out.size))
                have o2' := own_below HO2.out hx3
                obtain ⟨a2', c2', e2', st2⟩ := SOwn.st o2'
                obtain ⟨a3', c3', e3', st3⟩ := SOwn.st o3
                subst e2' e3'
                have T1 := hide (sameTexts_yes _ _ _ _ _ x3 st2 st3 (by have := wdT_le s; have := (wdT_300 s); omega))
                have hbe : ((wdT s).2 == (wdT s).2) = true := by simp
                obtain ⟨bw, hbw⟩ : ∃ bw, bw = (wdT s).2 := ⟨_, rfl⟩
                rw [← hbw] at hbe ⊢
                clear hx3 S1 o2' o3 st2 st3 HO2 hbw
                go_wp2_with (go_at_call 15; refine T1.out.mono ?_; rintro e x4 ⟨rfl, hx4⟩; have HX4 : Hid (Below w.heap.size w x4) := hide (HX3.out.trans (hx4.mono HX3.out.size)); clear hx4)
                go_ret
                exact ⟨rfl, HX4.out⟩
        · go_wp2
          go_loop [15, 92] (fun v i => ∃ k : Nat, k ≤ GL.length ∧ i = .int .i64 k ∧ ∃ S, v = .string S ∧ Hid (S = jn (GL.take k))) (fun _ i => GL.length - (intOf i).toNat)
          case atStart => exact ⟨0, Nat.zero_le _, rfl, _, rfl, hide rfl⟩
          case round =>
            obtain ⟨k, hk, rfl, S, rfl, HJK⟩ := hrel
            by_cases hlt : k < GL.length
            · obtain ⟨g, o, rfl, hg, hc⟩ := HS5c.out k hlt
              have hz1 := tt_take hlt
              have hy := tt_tk GL (k + 1)
              have ht := HTG.out
              have hsz1 : GL[k].size ≤ 5000 := by omega
              have hS : S.size ≤ 6000 := by rw [HJK.out]; exact HLK.out k
              by_cases h00 : k = 0
              · subst h00
                have HN : Hid (S ++ GL[0] = jn (GL.take (0 + 1))) := hide (by
                  rw [jn_take0 (by omega), HJK.out]
                  apply Doc1.ba_eq
                  rw [apdB]
                  rfl)
                obtain ⟨s0, hs00⟩ : ∃ s0, GL[0] = s0 := ⟨_, rfl⟩
                rw [hs00] at hc hsz1 HN
                rw [Nat.add_zero] at hc
                clear hz1 hy ht hs00
                go_wp2
                go_round
                case rel => exact ⟨0 + 1, by omega, by go_num, _, rfl, hide (by first | exact HN.out | (rw [← HN.out]))⟩
                case measure => simp [intOf]; omega
              · have HN : Hid (S ++ blB ++ GL[k] = jn (GL.take (k + 1))) := hide (by rw [List.take_succ_eq_append_getElem hlt, jn_snoc _ _ (fun e => by have := congrArg List.length e; rw [List.length_take] at this; simp only [List.length_nil] at this; omega), HJK.out])
                have hkp : decide ((0 : Int) < (k : Int)) = true := by rw [decide_eq_true_iff]; omega
                obtain ⟨s0, hs00⟩ : ∃ s0, GL[k] = s0 := ⟨_, rfl⟩
                rw [hs00] at hc hsz1 HN
                have hS2 : (S ++ blB).size ≤ 6001 := by rw [ByteArray.size_append]; show S.size + 1 ≤ _; omega
                unfold blB at HN hS2
                clear hz1 hy ht hs00
                go_wp2
                go_round
                case rel => exact ⟨k + 1, by omega, by go_num, _, rfl, hide HN.out⟩
                case measure => simp [intOf]; omega
            · obtain rfl : S = jn L := by rw [HJK.out, List.take_of_length_le (by omega), HJ.out]
              clear HJK
              go_wp2_with fail
              refine W5.out.mono ?_
              rintro e w6 ⟨v6, rfl, o6, hb6⟩
              obtain ⟨a6, c6, e6, st6⟩ := SOwn.st o6
              subst e6
              have HB6 : Hid (Below w.heap.size w w6) := hide (HB5.out.trans (hb6.mono HB5.out.size))
              have HST6 := hide (HST5.out.later hb6)
              have W7 := hide (W6.out w6)
              have HS6 := hide st6
              clear hb6 o6 st6 W5
              by_cases hgd : good (jn L).data.toList = true
              · have hwb := words_back HSW.out hgd
                rw [hwb] at HS6 ⊢
                rw [hgd] at W7
                have T6 := hide (sameTexts_yes L a6 av c6 cv w6 HS6.out HST6.out (by omega))
                clear hwb hgd
                go_wp2_with (first
                  | (go_at_call 14; refine W7.out.mono ?_; rintro e w9 ⟨rfl, hw'⟩; replace hw' := hw'.symm; subst hw')
                  | (go_at_call 15; refine T6.out.mono ?_; rintro e w7 ⟨rfl, hb7⟩; have HB7 : Hid (Below w.heap.size w w7) := hide (HB6.out.trans (hb7.mono HB6.out.size)); clear hb7)
                  | fail)
                have D1 := hide (DW.out w7 HB7.out)
                skip
                refine D1.out.mono ?_
                rintro e x1 ⟨s, rfl, hss, hx1⟩
                have HX1 : Hid (Below w.heap.size w x1) := hide ((HB7.out).trans (hx1.mono (HB7.out).size))
                have I1 := hide (WI.out s x1 (by omega) HX1.out)
                clear hx1 D1
                go_wp2_with fail
                refine I1.out.mono ?_
                rintro e x2 ⟨v2, rfl, o2, hx2⟩
                have HX2 : Hid (Below w.heap.size w x2) := hide (HX1.out.trans (hx2.mono HX1.out.size))
                have S1 := hide (WS.out s x2 (by omega))
                have HO2 := hide o2
                clear hx2 I1 o2
                go_wp2_with fail
                refine S1.out.mono ?_
                rintro e x3 ⟨v3, rfl, o3, hx3⟩
                have HX3 : Hid (Below w.heap.size w x3) := hide (HX2.out.trans (hx3.mono HX2.out.size))
                have o2' := own_below HO2.out hx3
                obtain ⟨a2', c2', e2', st2⟩ := SOwn.st o2'
                obtain ⟨a3', c3', e3', st3⟩ := SOwn.st o3
                subst e2' e3'
                have T1 := hide (sameTexts_yes _ _ _ _ _ x3 st2 st3 (by have := wdT_le s; have := (wdT_300 s); omega))
                have hbe : ((wdT s).2 == (wdT s).2) = true := by simp
                obtain ⟨bw, hbw⟩ : ∃ bw, bw = (wdT s).2 := ⟨_, rfl⟩
                rw [← hbw] at hbe ⊢
                clear hx3 S1 o2' o3 st2 st3 HO2 hbw
                go_wp2_with (go_at_call 15; refine T1.out.mono ?_; rintro e x4 ⟨rfl, hx4⟩; have HX4 : Hid (Below w.heap.size w x4) := hide (HX3.out.trans (hx4.mono HX3.out.size)); clear hx4)
                go_ret
                exact ⟨rfl, HX4.out⟩
              · have hgf : good (jn L).data.toList = false := by simpa using hgd
                rw [hgf] at W7
                obtain ⟨Q1, hQ1⟩ : ∃ Q1, Q1 = (wdT (jn L)).1 := ⟨_, rfl⟩
                obtain ⟨Q2, hQ2⟩ : ∃ Q2, Q2 = (wdT (jn L)).2 := ⟨_, rfl⟩
                rw [← hQ1, ← hQ2]
                clear hgd hgf hQ1 hQ2
                go_wp2_with (go_at_call 14; refine W7.out.mono ?_; rintro e w9 ⟨rfl, hw'⟩; replace hw' := hw'.symm; subst hw')
                have D1 := hide (DW.out w6 HB6.out)
                skip
                refine D1.out.mono ?_
                rintro e x1 ⟨s, rfl, hss, hx1⟩
                have HX1 : Hid (Below w.heap.size w x1) := hide ((HB6.out).trans (hx1.mono (HB6.out).size))
                have I1 := hide (WI.out s x1 (by omega) HX1.out)
                clear hx1 D1
                go_wp2_with fail
                refine I1.out.mono ?_
                rintro e x2 ⟨v2, rfl, o2, hx2⟩
                have HX2 : Hid (Below w.heap.size w x2) := hide (HX1.out.trans (hx2.mono HX1.out.size))
                have S1 := hide (WS.out s x2 (by omega))
                have HO2 := hide o2
                clear hx2 I1 o2
                go_wp2_with fail
                refine S1.out.mono ?_
                rintro e x3 ⟨v3, rfl, o3, hx3⟩
                have HX3 : Hid (Below w.heap.size w x3) := hide (HX2.out.trans (hx3.mono HX2.out.size))
                have o2' := own_below HO2.out hx3
                obtain ⟨a2', c2', e2', st2⟩ := SOwn.st o2'
                obtain ⟨a3', c3', e3', st3⟩ := SOwn.st o3
                subst e2' e3'
                have T1 := hide (sameTexts_yes _ _ _ _ _ x3 st2 st3 (by have := wdT_le s; have := (wdT_300 s); omega))
                have hbe : ((wdT s).2 == (wdT s).2) = true := by simp
                obtain ⟨bw, hbw⟩ : ∃ bw, bw = (wdT s).2 := ⟨_, rfl⟩
                rw [← hbw] at hbe ⊢
                clear hx3 S1 o2' o3 st2 st3 HO2 hbw
                go_wp2_with (go_at_call 15; refine T1.out.mono ?_; rintro e x4 ⟨rfl, hx4⟩; have HX4 : Hid (Below w.heap.size w x4) := hide (HX3.out.trans (hx4.mono HX3.out.size)); clear hx4)
                go_ret
                exact ⟨rfl, HX4.out⟩
  · have hd : decide ((1048576 : Int) < (len : Int) + len2) = true := decide_eq_true (by omega)
    have hw : IntKind.i64.wrap ((len : Int) + len2) = (len : Int) + len2 := by rw [IntKind.wrap_i64]; omega
    go_enter Tryd.func3, Tryd.ntmps3
    go_wp2
    go_ret
    exact ⟨rfl, Below.refl _ _⟩
end Go.Proofs.YtgacajnljplmiabDoor
