/- The law FnPaths: a place comes back from its path, and what is cut out of a tree makes it less by its size. -/
import Derived.Test.YtafhpnkedjbcdaaDoorLawsT2
import Derived.Test.YtafhpnkedjbcdaaDoorPlaceW1
import Derived.Test.YtafhpnkedjbcdaaDoorPathWM
import Derived.Test.YtafhpnkedjbcdaaDoorTreeS4
namespace Go.Proofs.YtafhpnkedjbcdaaDoor
open Go.RowKit
open Doc1

theorem ba_list (x : List UInt8) : (ba x).data.toList = x := by simp [ba]
theorem cut_at {l : List Nd} {k : Int} (h : cutOk l k = true) : goodT l = true ∧ ∃ m : Nat, k = m ∧ 1 ≤ m ∧ m < l.length := by
  unfold cutOk at h
  have := of_decide_eq_true h
  exact ⟨this.1, k.toNat, by omega, by omega, by omega⟩
theorem cutA_no {l : List Nd} {k : Int} (h : cutOk l k = false) : cutA l k = [] := by
  unfold cutA
  rw [if_neg (by unfold cutOk at h; exact of_decide_eq_false h)]
/-- What is cut out makes the tree less by its size. -/
theorem cut_sizes {l : List Nd} {m : Nat} (hg : goodT l = true) (h1 : 1 ≤ m) (hm : m < l.length) :
    ∃ s : ByteArray, cutA l (m : Int) = tree s.data.toList ∧ doc s.data.toList = true ∧ (fl l 0).length = (fl (tree s.data.toList) 0).length + (fl l m).length := by
  obtain ⟨y, hy⟩ := Option.isSome_iff_exists.1 (show (layL l).isSome = true by rw [lay_good]; exact hg)
  have hL := laid_of hy
  obtain ⟨e1, e2⟩ := hL.seg m hm
  have hd := cut_doc hy h1 hm
  refine ⟨ba (cutT y m), ?_, by rw [ba_list]; exact hd, ?_⟩
  · unfold cutA
    rw [if_pos ⟨hg, by omega, by omega⟩, hy, ba_list]
    simp
  · have := (tree_good (s := ba (cutT y m)) (by rw [ba_list]; exact hd)).2
    rw [this, ba_list]
    unfold cutT
    rw [hL.text] at e2 ⊢
    simp only [List.length_append, List.length_take, List.length_drop]
    omega
theorem leads_at {s : ByteArray} (hd : doc s.data.toList = true) {n : Nat} (hn : n ≤ s.size) : Leads s (path s.data.toList n) (some n) :=
  ⟨fun m h => by cases h; exact hn, fun k hk => ⟨fun h => by rw [path_inj _ s (Nat.le_refl _) hd k n hk hn h], fun h => by cases h; rfl⟩⟩
theorem path_deep {s : ByteArray} (hd : doc s.data.toList = true) {n : Nat} (hn : n ≤ s.size) : ((path s.data.toList n).length : Int) = dep s.data.toList n + 1 := by
  unfold path
  rw [path_len]
  have := W_len s hd n hn
  omega
theorem depAt_at {s : ByteArray} {n : Nat} (hd : doc s.data.toList = true) (hn : n ≤ s.size) : depAt s.data.toList n = (dep s.data.toList n, true) := by
  rw [depAt_yes hd (by omega) (by rw [size_len]; omega)]
  simp
theorem cutA_le {l : List Nd} {k : Int} (h : cutOk l k = true) : (cutA l k).length ≤ 10000000 := by
  obtain ⟨hg, m, rfl, h1, hm⟩ := cut_at h
  obtain ⟨s, e, hd, -⟩ := cut_sizes hg h1 hm
  rw [e]
  have h1 := tree_len s.data.toList
  have h2 := doc_size s hd
  have h3 : s.data.toList.length = s.size := by simp
  omega

theorem drawPathOf_any (C : Value) (w : World) (hco : CodeAt w.heap.size C w) :
    Calls Tryd.prog 37 #[C] w (DrawnAt w) := by
  have H := hidI (drawDepthAt_any C w hco)
  obtain ⟨a, len, cap, rfl⟩ := hco.shape
  clear hco
  go_enter Tryd.func37, Tryd.ntmps37
  go_wp2_with fail
  refine H.out.mono ?_
  rintro e w1 ⟨s, x, rfl, hs, h0, h1, hb⟩
  go_wp2
  go_ret2
  exact ⟨s, x, rfl, hs, h0, h1, hb⟩

theorem drawCutNode_any (C : Value) (w : World) (hco : CodeAt w.heap.size C w) :
    Calls Tryd.prog 41 #[C] w (KidsDrawn w) := by
  have H := hidI (drawKidsOf_any C w hco)
  obtain ⟨a, len, cap, rfl⟩ := hco.shape
  clear hco
  go_enter Tryd.func41, Tryd.ntmps41
  go_wp2_with fail
  refine H.out.mono ?_
  rintro e w1 ⟨gt, cp, l, k, rfl, h1, h2, h3, h4, hb⟩
  go_wp2
  go_ret2
  exact ⟨gt, cp, l, k, rfl, h1, h2, h3, h4, hb⟩

set_option maxRecDepth 100000 in
set_option maxHeartbeats 8000000 in
theorem law_paths (C C2 : Value) (w : World) (hco : CodeAt w.heap.size C w) (hco2 : CodeAt w.heap.size C2 w) (hlen : ∀ a len cap, C = .slice a len cap → len ≤ 140737488355328) (hlen2 : ∀ a len cap, C2 = .slice a len cap → len ≤ 140737488355328) (hT : Tab w) :
    Calls Tryd.prog 6 #[C, C2] w fun e w' => e = .returned (.bool true) ∧ Below w.heap.size w w' := by
  have H0 := hidI (drawPathOf_any C w hco)
  replace hco2 := hidI hco2
  obtain ⟨a, len, cap, rfl⟩ := hco.shape
  obtain ⟨a2, len2, cap2, hC2⟩ := hco2.out.shape
  have l1 := hlen a len cap rfl
  have l2 := hlen2 a2 len2 cap2 hC2
  clear hlen hlen2 hco
  subst hC2
  by_cases hl : (len : Int) + len2 ≤ 1048576
  · go_enter Tryd.func6, Tryd.ntmps6
    go_wp2_with fail
    refine H0.out.mono ?_
    rintro e w1 ⟨s, x, rfl, hs, hx0, hx1, hb1⟩
    clear H0
    have hs' : s.size ≤ 1048576 := by omega
    have T1 := hidI (hT.below hb1)
    by_cases hyes : doc s.data.toList = true ∧ 0 ≤ x ∧ x ≤ s.size
    · obtain ⟨hd, hy0, hy1⟩ := hyes
      obtain ⟨n, rfl⟩ : ∃ n : Nat, x = n := ⟨x.toNat, by omega⟩
      have hn : n ≤ s.size := by omega
      have A1 := hidI (pathI_yes s n w1 hs' T1.out hd hn)
      have LD := hidI (leads_at hd hn)
      have PD := path_deep hd hn
      have DA := hidI (depAt_at hd hn)
      have hpl := path_le s n hn
      have hpn := List.length_pos_iff.2 (path_ne s.data.toList n)
      have HD := hidI hd
      clear hd hy0 hy1
      generalize hpp : path s.data.toList n = pp at *
      have HPP := hidI hpp
      clear hpp
      go_wp2_with fail
      refine A1.out.mono ?_
      rintro e w2 ⟨v1, rfl, o1, hb'⟩
      have hb2 := hb1.trans (hb'.mono hb1.size)
      clear A1 hb' hb1 T1
      have A2 := pathS_yes s n w2 hs' HD.out hn
      rw [HPP.out] at A2
      replace A2 := hidI A2
      have O1 := hidI o1
      obtain ⟨x1, c1, rfl, -, -⟩ := own_shp o1
      clear o1
      go_wp2_with fail
      refine A2.out.mono ?_
      rintro e w3 ⟨v2, rfl, o2, hb'⟩
      have hb3 := hb2.trans (hb'.mono hb2.size)
      have O3 := hidI (own_below O1.out hb')
      clear A2 hb' hb2 O1
      have S := hidI (sameInts_own O3.out o2 (by omega))
      clear o2
      go_wp2_with fail
      refine S.out.mono ?_
      rintro e w4 ⟨rfl, hb'⟩
      have hb4 := hb3.trans (hb'.mono hb3.size)
      have o4 := own_below O3.out hb'
      clear S hb' hb3 O3
      obtain ⟨gp, cp, ev, p1, p2, -, p3, p4, -⟩ := own_cat o4 hpn
      cases ev
      have T4 := hidI (hT.below hb4)
      have F := hidI (placeI_yes s pp gp _ (some n) w4 hs' T4.out HD.out LD.out (iat_of_cls p4) p3 (by omega) ⟨p1, p2⟩)
      clear o4 p4
      go_wp2_with fail
      refine F.out.mono ?_
      rintro e w5 ⟨rfl, hb'⟩
      have hb5 := hb4.trans (hb'.mono hb4.size)
      clear F hb' T4 hb4 p3
      have T5 := hidI (hT.below hb5)
      have G := depthAtI_any s (n : Int) w5 hs' T5.out
      rw [DA.out] at G
      replace G := hidI G
      go_wp2_with fail
      refine G.out.mono ?_
      rintro e w6 ⟨rfl, hb'⟩
      have hb6 := hb5.trans (hb'.mono hb5.size)
      clear G hb' T5 hb5 LD DA HPP HD
      have PD2 : dep s.data.toList n = (pp.length : Int) - 1 := by omega
      clear PD
      generalize dep s.data.toList n = dd at *
      subst PD2
      have K := hidI (drawCutNode_any (.slice a2 len2 cap2) _ (code_on hco2.out hb6))
      go_wp2_with fail
      refine K.out.mono ?_
      rintro e w7 ⟨gl, cl, l, k, rfl, -, htl, hk0, hk1, hb'⟩
      have hb7 := hb6.trans (hb'.mono hb6.size)
      have hll := htl.len
      have hcl := htl.cap
      have htl := hidI htl
      clear K hb' hb6
      have T7 := hidI (hT.below hb7)
      have A1 := hidI (cutI k htl.out.nin T7.out)
      go_wp2_with fail
      refine A1.out.mono ?_
      rintro e w8 ⟨v1, rfl, o1, hb'⟩
      have hb8 := hb7.trans (hb'.mono hb7.size)
      have htl8 := hidI (htl.out.later hb' htl.out.lt)
      clear A1 hb' hb7 T7 htl
      have A2 := hidI (cutS k htl8.out.nin)
      have O1 := hidI o1
      obtain ⟨x3, c3, rfl, hc3, hc4⟩ := own_shp o1
      clear o1
      go_wp2_with fail
      refine A2.out.mono ?_
      rintro e w9 ⟨v2, rfl, o2, hb'⟩
      have hb9 := hb8.trans (hb'.mono hb8.size)
      have htl9 := hidI (htl8.out.later hb' htl8.out.lt)
      have O9 := hidI (O1.out.below hb')
      clear A2 hb' hb8 htl8 O1
      have hle : (cutA l k).length ≤ 10000000 := by
        cases hc : cutOk l k with
        | true => exact cutA_le hc
        | false => rw [cutA_no hc]; simp
      have S := hidI (sameNodes_own O9.out o2 hle)
      clear o2
      go_wp2_with fail
      refine S.out.mono ?_
      rintro e wa ⟨rfl, hb'⟩
      have hba := hb9.trans (hb'.mono hb9.size)
      have htla := hidI (htl9.out.later hb' htl9.out.lt)
      have oa := O9.out.below hb'
      clear S hb' hb9 htl9 O9
      cases hin : cutOk l k with
      | false =>
        have ek := cutA_no hin
        simp only [ek]
        clear ek oa
        go_wp2
        go_ret
        exact ⟨rfl, hba⟩
      | true =>
        obtain ⟨hg, m, rfl, hm1, hm⟩ := cut_at hin
        obtain ⟨sc, ec, hdc, esum⟩ := cut_sizes hg hm1 hm
        rw [ec] at oa
        simp only [ec]
        clear ec hle hin
        obtain ⟨gm, cm, ev, -, htm⟩ := tree_row oa hdc
        cases ev
        have hcm := htm.cap
        have htm := hidI htm
        have hgm := (tree_good hdc).1
        clear oa
        have hf0 := fl_small hg hll.1
        have hfm := fl_small hg hm
        have hft := fl_small hgm htm.out.len.1
        have Ta := hidI (hT.below hba)
        have Z := sizeI 0 htla.out.nin Ta.out
        rw [show (0 : Int) = ((0 : Nat) : Int) from rfl, (sizeA_at hg hll.1).1, (sizeA_at hg hll.1).2] at Z
        replace Z := hidI Z
        have HG := hidI hg
        have HGM := hidI hgm
        have HDC := hidI hdc
        clear hg hgm hdc
        go_wp2_with fail
        refine Z.out.mono ?_
        rintro e wb ⟨rfl, hb'⟩
        have hbb := hba.trans (hb'.mono hba.size)
        have htlb := hidI (htla.out.later hb' htla.out.lt)
        have htmb := hidI (htm.out.later hb' htm.out.lt)
        clear Z hb' Ta hba htla htm
        have Tb := hidI (hT.below hbb)
        have Z := sizeI 0 htmb.out.nin Tb.out
        rw [show (0 : Int) = ((0 : Nat) : Int) from rfl, (sizeA_at HGM.out htmb.out.len.1).1, (sizeA_at HGM.out htmb.out.len.1).2] at Z
        replace Z := hidI Z
        go_wp2_with fail
        refine Z.out.mono ?_
        rintro e wc ⟨rfl, hb'⟩
        have hbc := hbb.trans (hb'.mono hbb.size)
        have htlc := hidI (htlb.out.later hb' htlb.out.lt)
        have htmc := hidI (htmb.out.later hb' htmb.out.lt)
        clear Z hb' Tb hbb htlb htmb
        have Tc := hidI (hT.below hbc)
        have Z := sizeI (m : Int) htlc.out.nin Tc.out
        rw [(sizeA_at HG.out hm).1, (sizeA_at HG.out hm).2] at Z
        replace Z := hidI Z
        go_wp2_with fail
        refine Z.out.mono ?_
        rintro e wd ⟨rfl, hb'⟩
        have hbd := hbc.trans (hb'.mono hbc.size)
        have htmd := hidI (htmc.out.later hb' htmc.out.lt)
        clear Z hb' Tc hbc htlc htmc
        have Td := hidI (hT.below hbd)
        have GG := goodI htmd.out.nin Td.out
        rw [HGM.out] at GG
        replace GG := hidI GG
        have esum' : ((fl l 0).length : Int) = ((fl (tree sc.data.toList) 0).length : Int) + ((fl l m).length : Int) := by omega
        generalize h1 : ((fl l 0).length : Int) = z1 at *
        generalize h2 : ((fl (tree sc.data.toList) 0).length : Int) = z2 at *
        generalize h3 : ((fl l m).length : Int) = z3 at *
        have hz : 0 ≤ z2 ∧ z2 ≤ 300 ∧ 0 ≤ z3 ∧ z3 ≤ 300 := by omega
        clear h1 h2 h3 hf0 hfm hft esum
        subst esum'
        go_wp2_with fail
        refine GG.out.mono ?_
        rintro e we ⟨rfl, hb'⟩
        have hbe := hbd.trans (hb'.mono hbd.size)
        clear GG hb' hbd
        go_wp2
        go_ret
        exact ⟨rfl, hbe⟩
    · have A1 := hidI (pathI_no s x w1 hs' T1.out hyes)
      go_wp2_with fail
      refine A1.out.mono ?_
      rintro e w2 ⟨rfl, hb'⟩
      have hb2 := hb1.trans (hb'.mono hb1.size)
      clear A1 hb' hb1 T1
      have A2 := hidI (pathS_no s x w2 hs' hyes)
      clear hyes
      go_wp2_with fail
      refine A2.out.mono ?_
      rintro e w' ⟨rfl, hw⟩
      replace hw := hw.symm; subst hw
      clear A2
      have S := hidI (sameInts_zero none none 0 0 w2)
      go_wp2_with fail
      refine S.out.mono ?_
      rintro e w' ⟨rfl, hw⟩
      replace hw := hw.symm; subst hw
      have hb6 := hb2
      clear S hb2
      have K := hidI (drawCutNode_any (.slice a2 len2 cap2) _ (code_on hco2.out hb6))
      go_wp2_with fail
      refine K.out.mono ?_
      rintro e w7 ⟨gl, cl, l, k, rfl, -, htl, hk0, hk1, hb'⟩
      have hb7 := hb6.trans (hb'.mono hb6.size)
      have hll := htl.len
      have hcl := htl.cap
      have htl := hidI htl
      clear K hb' hb6
      have T7 := hidI (hT.below hb7)
      have A1 := hidI (cutI k htl.out.nin T7.out)
      go_wp2_with fail
      refine A1.out.mono ?_
      rintro e w8 ⟨v1, rfl, o1, hb'⟩
      have hb8 := hb7.trans (hb'.mono hb7.size)
      have htl8 := hidI (htl.out.later hb' htl.out.lt)
      clear A1 hb' hb7 T7 htl
      have A2 := hidI (cutS k htl8.out.nin)
      have O1 := hidI o1
      obtain ⟨x3, c3, rfl, hc3, hc4⟩ := own_shp o1
      clear o1
      go_wp2_with fail
      refine A2.out.mono ?_
      rintro e w9 ⟨v2, rfl, o2, hb'⟩
      have hb9 := hb8.trans (hb'.mono hb8.size)
      have htl9 := hidI (htl8.out.later hb' htl8.out.lt)
      have O9 := hidI (O1.out.below hb')
      clear A2 hb' hb8 htl8 O1
      have hle : (cutA l k).length ≤ 10000000 := by
        cases hc : cutOk l k with
        | true => exact cutA_le hc
        | false => rw [cutA_no hc]; simp
      have S := hidI (sameNodes_own O9.out o2 hle)
      clear o2
      go_wp2_with fail
      refine S.out.mono ?_
      rintro e wa ⟨rfl, hb'⟩
      have hba := hb9.trans (hb'.mono hb9.size)
      have htla := hidI (htl9.out.later hb' htl9.out.lt)
      have oa := O9.out.below hb'
      clear S hb' hb9 htl9 O9
      cases hin : cutOk l k with
      | false =>
        have ek := cutA_no hin
        simp only [ek]
        clear ek oa
        go_wp2
        go_ret
        exact ⟨rfl, hba⟩
      | true =>
        obtain ⟨hg, m, rfl, hm1, hm⟩ := cut_at hin
        obtain ⟨sc, ec, hdc, esum⟩ := cut_sizes hg hm1 hm
        rw [ec] at oa
        simp only [ec]
        clear ec hle hin
        obtain ⟨gm, cm, ev, -, htm⟩ := tree_row oa hdc
        cases ev
        have hcm := htm.cap
        have htm := hidI htm
        have hgm := (tree_good hdc).1
        clear oa
        have hf0 := fl_small hg hll.1
        have hfm := fl_small hg hm
        have hft := fl_small hgm htm.out.len.1
        have Ta := hidI (hT.below hba)
        have Z := sizeI 0 htla.out.nin Ta.out
        rw [show (0 : Int) = ((0 : Nat) : Int) from rfl, (sizeA_at hg hll.1).1, (sizeA_at hg hll.1).2] at Z
        replace Z := hidI Z
        have HG := hidI hg
        have HGM := hidI hgm
        have HDC := hidI hdc
        clear hg hgm hdc
        go_wp2_with fail
        refine Z.out.mono ?_
        rintro e wb ⟨rfl, hb'⟩
        have hbb := hba.trans (hb'.mono hba.size)
        have htlb := hidI (htla.out.later hb' htla.out.lt)
        have htmb := hidI (htm.out.later hb' htm.out.lt)
        clear Z hb' Ta hba htla htm
        have Tb := hidI (hT.below hbb)
        have Z := sizeI 0 htmb.out.nin Tb.out
        rw [show (0 : Int) = ((0 : Nat) : Int) from rfl, (sizeA_at HGM.out htmb.out.len.1).1, (sizeA_at HGM.out htmb.out.len.1).2] at Z
        replace Z := hidI Z
        go_wp2_with fail
        refine Z.out.mono ?_
        rintro e wc ⟨rfl, hb'⟩
        have hbc := hbb.trans (hb'.mono hbb.size)
        have htlc := hidI (htlb.out.later hb' htlb.out.lt)
        have htmc := hidI (htmb.out.later hb' htmb.out.lt)
        clear Z hb' Tb hbb htlb htmb
        have Tc := hidI (hT.below hbc)
        have Z := sizeI (m : Int) htlc.out.nin Tc.out
        rw [(sizeA_at HG.out hm).1, (sizeA_at HG.out hm).2] at Z
        replace Z := hidI Z
        go_wp2_with fail
        refine Z.out.mono ?_
        rintro e wd ⟨rfl, hb'⟩
        have hbd := hbc.trans (hb'.mono hbc.size)
        have htmd := hidI (htmc.out.later hb' htmc.out.lt)
        clear Z hb' Tc hbc htlc htmc
        have Td := hidI (hT.below hbd)
        have GG := goodI htmd.out.nin Td.out
        rw [HGM.out] at GG
        replace GG := hidI GG
        have esum' : ((fl l 0).length : Int) = ((fl (tree sc.data.toList) 0).length : Int) + ((fl l m).length : Int) := by omega
        generalize h1 : ((fl l 0).length : Int) = z1 at *
        generalize h2 : ((fl (tree sc.data.toList) 0).length : Int) = z2 at *
        generalize h3 : ((fl l m).length : Int) = z3 at *
        have hz : 0 ≤ z2 ∧ z2 ≤ 300 ∧ 0 ≤ z3 ∧ z3 ≤ 300 := by omega
        clear h1 h2 h3 hf0 hfm hft esum
        subst esum'
        go_wp2_with fail
        refine GG.out.mono ?_
        rintro e we ⟨rfl, hb'⟩
        have hbe := hbd.trans (hb'.mono hbd.size)
        clear GG hb' hbd
        go_wp2
        go_ret
        exact ⟨rfl, hbe⟩
  · go_enter Tryd.func6, Tryd.ntmps6
    go_wp2
    go_ret
    exact ⟨rfl, Below.refl _ _⟩
end Go.Proofs.YtafhpnkedjbcdaaDoor
