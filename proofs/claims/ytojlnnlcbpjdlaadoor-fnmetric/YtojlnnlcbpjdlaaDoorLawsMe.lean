/- The law FnMetric: how far texts are apart is a distance. -/
import Derived.Test.YtojlnnlcbpjdlaaDoorChg0
import Derived.Test.YtojlnnlcbpjdlaaDoorChg2
set_option linter.unusedVariables false
namespace Go.Proofs.YtojlnnlcbpjdlaaDoor
open Go.RowKit
open Doc1

theorem edA_bd (t : Nat) {a b : List UInt8} : 0 ≤ edA t a b ∧ edA t a b ≤ 600 := by
  unfold edA
  split
  · rename_i h
    rw [Bool.and_eq_true] at h
    have h1 := good_len h.1
    have h2 := good_len h.2
    have := ed_most t a b
    omega
  · omega
theorem edA_sym (t : Nat) (a b : List UInt8) : edA t b a = edA t a b := by
  unfold edA
  rw [Bool.and_comm, ed_sym]
theorem edA_good {t : Nat} {a b : List UInt8} (h1 : good a = true) (h2 : good b = true) : edA t a b = (ed t a b : Int) := by
  unfold edA; rw [h1, h2]; rfl
theorem list_ba {a b : ByteArray} (h : a.data.toList = b.data.toList) : a = b := ByteArray.ext (Array.ext' h)
theorem str_same {a b : ByteArray} (h : a = b) : (a.toList == b.toList) = true := by rw [h]; simp
theorem str_other {a b : ByteArray} (h : ¬ a = b) : (a.toList == b.toList) = false := by
  rw [beq_eq_false_iff_ne, ByteArray.toList_eq, ByteArray.toList_eq]
  exact fun c => h (list_ba c)

set_option maxRecDepth 100000 in
set_option maxHeartbeats 8000000 in
theorem law_metric (C D : Value) (w : World) (hco : CodeAt w.heap.size C w) (hco2 : CodeAt w.heap.size D w) (hlen : ∀ a len cap, C = .slice a len cap → len ≤ 140737488355328) (hlen2 : ∀ a len cap, D = .slice a len cap → len ≤ 140737488355328) (hT : Tab w) :
    Calls Tryd.prog 6 #[C, D] w fun e w' => e = .returned (.bool true) ∧ Below w.heap.size w w' := by
  obtain ⟨a1, len, cap, rfl⟩ := hco.shape
  obtain ⟨a2, len2, cap2, rfl⟩ := hco2.shape
  have l1 := hlen a1 len cap rfl
  have l2 := hlen2 a2 len2 cap2 rfl
  clear hlen hlen2
  by_cases hl : (len : Int) + len2 ≤ 1048576
  · have H0 := hide (drawDistanceOf_any (.slice a1 len cap) w hco (by show len ≤ 1048576; omega))
    have H1 := hide (fun w1 hb => drawEditsOf_any (.slice a2 len2 cap2) w1 (code_on hco2 hb) (by show len2 ≤ 1048576; omega))
    have HT := hide hT
    clear hco hco2 hT
    go_enter Tryd.func6, Tryd.ntmps6
    go_wp2_with fail
    refine H0.out.mono ?_
    rintro e w1 ⟨a, b, rfl, ha, hb, hw⟩
    clear H0
    go_wp2_with fail
    refine (H1.out w1 hw).mono ?_
    rintro e w2 ⟨c, c', rfl, hc, hc', hw2⟩
    replace hw := hw.trans (hw2.mono hw.size)
    clear H1 hw2
    have a16 : a.size ≤ 10000000000000000 := by omega
    have c16 : c.size ≤ 10000000000000000 := by omega
    cases hg : (good a.data.toList && good b.data.toList) with
    | false =>
      have K2 := distI_all a b w2 a16 hb (HT.out.below hw)
      rw [hg] at K2
      replace K2 := hide K2
      go_wp2_with fail
      refine K2.out.mono ?_
      rintro e w3 ⟨rfl, hq⟩
      replace hw := hw.trans (hq.mono hw.size)
      clear hq K2
      have K3 := distS_all a b w3 a16 hb
      rw [hg] at K3
      replace K3 := hide K3
      go_wp2_with fail
      refine K3.out.mono ?_
      rintro e w4 ⟨rfl, hq⟩
      replace hw := hw.trans (hq.mono hw.size)
      clear hq K3
      have K4 := editsI_all a b w4 a16 hb (HT.out.below hw)
      rw [hg] at K4
      replace K4 := hide K4
      go_wp2_with fail
      refine K4.out.mono ?_
      rintro e w5 ⟨rfl, hq⟩
      replace hw := hw.trans (hq.mono hw.size)
      clear hq K4
      have K5 := editsS_all a b w5 a16 hb
      rw [hg] at K5
      replace K5 := hide K5
      go_wp2_with fail
      refine K5.out.mono ?_
      rintro e w6 ⟨rfl, hq⟩
      replace hw := hw.trans (hq.mono hw.size)
      clear hq K5
      go_wp2
      go_ret
      exact ⟨rfl, hw⟩
    | true =>
      have b1 := edA_bd 2 (a := a.data.toList) (b := b.data.toList)
      have b2 := edA_bd 1 (a := a.data.toList) (b := b.data.toList)
      have hgs := hg
      rw [Bool.and_eq_true] at hgs
      obtain ⟨hga, hgb⟩ := hgs
      obtain ⟨d, hd⟩ : ∃ d, edA 2 a.data.toList b.data.toList = d := ⟨_, rfl⟩
      obtain ⟨e1, he⟩ : ∃ d, edA 1 a.data.toList b.data.toList = d := ⟨_, rfl⟩
      rw [hd] at b1
      rw [he] at b2
      have K2 := distI_all a b w2 a16 hb (HT.out.below hw)
      rw [hg, hd] at K2
      replace K2 := hide K2
      go_wp2_with fail
      refine K2.out.mono ?_
      rintro e w3 ⟨rfl, hq⟩
      replace hw := hw.trans (hq.mono hw.size)
      clear hq K2
      have K3 := distS_all a b w3 a16 hb
      rw [hg, hd] at K3
      replace K3 := hide K3
      go_wp2_with fail
      refine K3.out.mono ?_
      rintro e w4 ⟨rfl, hq⟩
      replace hw := hw.trans (hq.mono hw.size)
      clear hq K3
      have K4 := editsI_all a b w4 a16 hb (HT.out.below hw)
      rw [hg, he] at K4
      replace K4 := hide K4
      go_wp2_with fail
      refine K4.out.mono ?_
      rintro e w5 ⟨rfl, hq⟩
      replace hw := hw.trans (hq.mono hw.size)
      clear hq K4
      have K5 := editsS_all a b w5 a16 hb
      rw [hg, he] at K5
      replace K5 := hide K5
      go_wp2_with fail
      refine K5.out.mono ?_
      rintro e w6 ⟨rfl, hq⟩
      replace hw := hw.trans (hq.mono hw.size)
      clear hq K5
      have G := goodTextS_all c w6 c16
      cases hgc : good c.data.toList with
      | false =>
        rw [hgc] at G
        replace G := hide G
        go_wp2_with fail
        refine G.out.mono ?_
        rintro e w7 ⟨rfl, hq⟩
        replace hq := hq.symm
        subst hq
        go_wp2
        go_ret
        exact ⟨rfl, hw⟩
      | true =>
        rw [hgc] at G
        replace G := hide G
        go_wp2_with fail
        refine G.out.mono ?_
        rintro e w7 ⟨rfl, hq⟩
        replace hq := hq.symm
        subst hq
        clear G
        have g1 : (good b.data.toList && good a.data.toList) = true := by rw [hga, hgb]; rfl
        have g2 : (good a.data.toList && good c.data.toList) = true := by rw [hga, hgc]; rfl
        have g3 : (good c.data.toList && good b.data.toList) = true := by rw [hgb, hgc]; rfl
        have b3 := edA_bd 2 (a := a.data.toList) (b := c.data.toList)
        have b4 := edA_bd 2 (a := c.data.toList) (b := b.data.toList)
        have b5 := edA_bd 1 (a := a.data.toList) (b := c.data.toList)
        have b6 := edA_bd 1 (a := c.data.toList) (b := b.data.toList)
        have t1 := ed_tri 2 a.data.toList c.data.toList b.data.toList
        have t2 := ed_tri 1 a.data.toList c.data.toList b.data.toList
        have t3 := ed_between a.data.toList b.data.toList
        have t4 := ed_nought (t := 2) (by omega) a.data.toList b.data.toList
        have t5 := ed_nought (t := 1) (by omega) a.data.toList b.data.toList
        rw [edA_good hga hgb] at hd he
        obtain ⟨x1, hx1⟩ : ∃ d, edA 2 a.data.toList c.data.toList = d := ⟨_, rfl⟩
        obtain ⟨x2, hx2⟩ : ∃ d, edA 2 c.data.toList b.data.toList = d := ⟨_, rfl⟩
        obtain ⟨x3, hx3⟩ : ∃ d, edA 1 a.data.toList c.data.toList = d := ⟨_, rfl⟩
        obtain ⟨x4, hx4⟩ : ∃ d, edA 1 c.data.toList b.data.toList = d := ⟨_, rfl⟩
        rw [hx1] at b3
        rw [hx2] at b4
        rw [hx3] at b5
        rw [hx4] at b6
        have q1 : d ≤ x1 + x2 := by rw [← hx1, ← hx2, edA_good hga hgc, edA_good hgc hgb, ← hd]; omega
        have q2 : e1 ≤ x3 + x4 := by rw [← hx3, ← hx4, edA_good hga hgc, edA_good hgc hgb, ← he]; omega
        have q3 : e1 ≤ d := by rw [← hd, ← he]; omega
        have q4 : d ≤ 2 * e1 := by rw [← hd, ← he]; omega
        have u1 : decide (d ≤ x1 + x2) = true := decide_eq_true q1
        have u2 : decide (e1 ≤ x3 + x4) = true := decide_eq_true q2
        have u3 : decide (e1 ≤ d) = true := decide_eq_true q3
        have u4 : decide (d ≤ 2 * e1) = true := decide_eq_true q4
        have hEq : Hid (((d == 0) = (a.toList == b.toList)) ∧ ((e1 == 0) = (a.toList == b.toList))) := hide (by
          by_cases hab : a = b
          · have z1 : d = 0 := by rw [← hd, t4.2 (by rw [hab])]; rfl
            have z2 : e1 = 0 := by rw [← he, t5.2 (by rw [hab])]; rfl
            rw [str_same hab, z1, z2]
            exact ⟨rfl, rfl⟩
          · have z1 : ¬ d = 0 := fun c => hab (list_ba (t4.1 (by omega)))
            have z2 : ¬ e1 = 0 := fun c => hab (list_ba (t5.1 (by omega)))
            rw [str_other hab]
            exact ⟨by simpa using z1, by simpa using z2⟩)
        have hd' : edA 2 b.data.toList a.data.toList = d := by rw [edA_sym, edA_good hga hgb]; exact hd
        have he' : edA 1 b.data.toList a.data.toList = e1 := by rw [edA_sym, edA_good hga hgb]; exact he
        clear t1 t2 t3 t4 t5 hd he
        have K6 := distI_all b a w6 hb a16 (HT.out.below hw)
        rw [g1, hd'] at K6
        replace K6 := hide K6
        go_wp2_with fail
        refine K6.out.mono ?_
        rintro e w7 ⟨rfl, hq⟩
        replace hw := hw.trans (hq.mono hw.size)
        clear hq K6
        have K7 := distI_all a c w7 a16 c16 (HT.out.below hw)
        rw [g2, hx1] at K7
        replace K7 := hide K7
        go_wp2_with fail
        refine K7.out.mono ?_
        rintro e w8 ⟨rfl, hq⟩
        replace hw := hw.trans (hq.mono hw.size)
        clear hq K7
        have K8 := distI_all c b w8 c16 hb (HT.out.below hw)
        rw [g3, hx2] at K8
        replace K8 := hide K8
        go_wp2_with fail
        refine K8.out.mono ?_
        rintro e w9 ⟨rfl, hq⟩
        replace hw := hw.trans (hq.mono hw.size)
        clear hq K8
        have K9 := editsI_all b a w9 hb a16 (HT.out.below hw)
        rw [g1, he'] at K9
        replace K9 := hide K9
        go_wp2_with fail
        refine K9.out.mono ?_
        rintro e w10 ⟨rfl, hq⟩
        replace hw := hw.trans (hq.mono hw.size)
        clear hq K9
        have K10 := editsI_all a c w10 a16 c16 (HT.out.below hw)
        rw [g2, hx3] at K10
        replace K10 := hide K10
        go_wp2_with fail
        refine K10.out.mono ?_
        rintro e w11 ⟨rfl, hq⟩
        replace hw := hw.trans (hq.mono hw.size)
        clear hq K10
        have K11 := editsI_all c b w11 c16 hb (HT.out.below hw)
        rw [g3, hx4] at K11
        replace K11 := hide K11
        go_wp2_with fail
        refine K11.out.mono ?_
        rintro e w12 ⟨rfl, hq⟩
        replace hw := hw.trans (hq.mono hw.size)
        clear hq K11
        clear hd' he' hx1 hx2 hx3 hx4 g1 g2 g3 hga hgb hgc hg
        cases hab : (a.toList == b.toList) with
        | true =>
          obtain ⟨z1, z2⟩ := hEq.out
          rw [hab] at z1 z2
          go_wp2
          go_ret
          exact ⟨rfl, hw⟩
        | false =>
          obtain ⟨z1, z2⟩ := hEq.out
          rw [hab] at z1 z2
          go_wp2
          go_ret
          exact ⟨rfl, hw⟩
  · go_enter Tryd.func6, Tryd.ntmps6
    go_wp2
    go_ret
    exact ⟨rfl, Below.refl _ _⟩
end Go.Proofs.YtojlnnlcbpjdlaaDoor
