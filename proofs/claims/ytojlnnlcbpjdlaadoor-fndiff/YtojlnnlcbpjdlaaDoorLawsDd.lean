/- The law FnDiff: the least change makes one text of the other, at the cost of how far they are apart, and no change of both costs less. -/
import Derived.Test.YtojlnnlcbpjdlaaDoorDif6
import Derived.Test.YtojlnnlcbpjdlaaDoorChg0
import Derived.Test.YtojlnnlcbpjdlaaDoorChgM
set_option linter.unusedVariables false
namespace Go.Proofs.YtojlnnlcbpjdlaaDoor
open Go.RowKit
open Doc1

theorem pk_smP {l : List Pt} (h : goodO l = true) : ∀ p ∈ l, smP p := fun p hp => by
  have h1 := goodO_pk h p hp
  have h2 := pk_szs h1
  obtain ⟨K, h3, h4⟩ := pk_nat h1
  exact ⟨⟨by omega, by omega⟩, h2⟩
theorem dfO_len (a b : List UInt8) : (dfO a b).length ≤ 10000000 := by
  unfold dfO dfG
  split
  · rename_i h
    have := (goodO_le h).1
    omega
  · simp
theorem dfO_no {a b : List UInt8} (h : dfG a b = false) : dfO a b = [] := by unfold dfO; rw [h]; rfl

set_option maxRecDepth 100000 in
set_option maxHeartbeats 8000000 in
theorem law_diff (C D : Value) (w : World) (hco : CodeAt w.heap.size C w) (hco2 : CodeAt w.heap.size D w) (hlen : ∀ a len cap, C = .slice a len cap → len ≤ 140737488355328) (hlen2 : ∀ a len cap, D = .slice a len cap → len ≤ 140737488355328) (hT : Tab w) :
    Calls Tryd.prog 7 #[C, D] w fun e w' => e = .returned (.bool true) ∧ Below w.heap.size w w' := by
  obtain ⟨a1, len, cap, rfl⟩ := hco.shape
  obtain ⟨a2, len2, cap2, rfl⟩ := hco2.shape
  have l1 := hlen a1 len cap rfl
  have l2 := hlen2 a2 len2 cap2 rfl
  clear hlen hlen2
  by_cases hl : (len : Int) + len2 ≤ 1048576
  · have H0 := hidI (drawDiffOps_any (.slice a1 len cap) w hco (by show len ≤ 1048576; omega))
    replace hco2 := hidI hco2
    clear hco
    go_enter Tryd.func7, Tryd.ntmps7
    go_wp2_with fail
    refine H0.out.mono ?_
    rintro e w1 ⟨a, b, rfl, ha, hbs, hb⟩
    have T := hidI (hT.below hb)
    clear H0
    have a16 : a.size ≤ 10000000000000000 := by omega
    cases hg : (good a.data.toList && good b.data.toList) with
    | false =>
      have CA := hidI (diffI_none a b w1 T.out a16 hbs hg)
      go_wp2_with fail
      refine CA.out.mono ?_
      rintro e w2 ⟨rfl, hb'⟩
      replace hb := hb.trans (hb'.mono hb.size)
      replace T := hidI (hT.below hb)
      clear CA hb'
      have CA := hidI (diffS_none a b w2 a16 hbs hg)
      go_wp2_with fail
      refine CA.out.mono ?_
      rintro e w3 ⟨rfl, hb'⟩
      replace hb := hb.trans (hb'.mono hb.size)
      replace T := hidI (hT.below hb)
      clear CA hb'
      have N0 : POwn w3 0 (.slice none 0 0) [] := World.ownsRow_nil _ _ _ _
      have CA := hidI (sameOps_own N0 N0 (by simp))
      go_wp2_with fail
      refine CA.out.mono ?_
      rintro e w4 ⟨rfl, hb'⟩
      replace hb := hb.trans (hb'.mono hb.size)
      replace T := hidI (hT.below hb)
      clear CA hb'
      clear N0
      have CA := hidI (drawApplyOp_any (.slice a2 len2 cap2) _ (code_on hco2.out hb) (by show len2 ≤ 1048576; omega))
      go_wp2_with fail
      refine CA.out.mono ?_
      rintro e w5 ⟨vr, L, s, rfl, orr, hLl, hsm, hs, hb'⟩
      replace hb := hb.trans (hb'.mono hb.size)
      replace T := hidI (hT.below hb)
      clear CA hb'
      replace hsm := hidI hsm
      have R := hidI orr
      obtain ⟨aR, cR, rfl⟩ := own_sl orr
      clear orr
      cases hap : (aplO L s).2 with
      | false =>
        have CA := hidI (applyS_own s R.out T.out hsm.out (by omega))
        rw [hap] at CA
        go_wp2_with fail
        refine CA.out.mono ?_
        rintro e w6 ⟨rfl, hb'⟩
        replace hb := hb.trans (hb'.mono hb.size)
        replace R := hidI (own_below R.out hb')
        replace T := hidI (hT.below hb)
        clear CA hb'
        have CA := hidI (costI_own R.out T.out hsm.out)
        go_wp2_with fail
        refine CA.out.mono ?_
        rintro e w7 ⟨rfl, hb'⟩
        replace hb := hb.trans (hb'.mono hb.size)
        replace R := hidI (own_below R.out hb')
        replace T := hidI (hT.below hb)
        clear CA hb'
        have CA := hidI (costS_own R.out T.out hsm.out)
        go_wp2_with fail
        refine CA.out.mono ?_
        rintro e w8 ⟨rfl, hb'⟩
        replace hb := hb.trans (hb'.mono hb.size)
        replace R := hidI (own_below R.out hb')
        replace T := hidI (hT.below hb)
        clear CA hb'
        clear R
        go_wp2
        go_ret
        exact ⟨rfl, hb⟩
      | true =>
        obtain ⟨hgo, hgs, hgt, hcst⟩ := ap_cost hap
        have hcA : cstA L = cst L := by unfold cstA; rw [hgo]; rfl
        have hcb := cst_bd L (goodO_pk hgo)
        have hL60 := (goodO_le hgo).1
        have hg2 : (good s.data.toList && good (aplO L s).1.data.toList) = true := by rw [hgs, hgt]; rfl
        have hE : edA 2 s.data.toList (aplO L s).1.data.toList = (ed 2 s.data.toList (aplO L s).1.data.toList : Int) := edA_good hgs hgt
        have hbE := edA_bd 2 (a := s.data.toList) (b := (aplO L s).1.data.toList)
        rw [← hE] at hcst
        have ht3 := good_len' hgt
        clear hE
        have CA := hidI (applyS_own s R.out T.out hsm.out (by omega))
        rw [hap] at CA
        go_wp2_with fail
        refine CA.out.mono ?_
        rintro e w6 ⟨rfl, hb'⟩
        replace hb := hb.trans (hb'.mono hb.size)
        replace R := hidI (own_below R.out hb')
        replace T := hidI (hT.below hb)
        clear CA hb'
        have CA := hidI (costI_own R.out T.out hsm.out)
        go_wp2_with fail
        refine CA.out.mono ?_
        rintro e w7 ⟨rfl, hb'⟩
        replace hb := hb.trans (hb'.mono hb.size)
        replace R := hidI (own_below R.out hb')
        replace T := hidI (hT.below hb)
        clear CA hb'
        have CA := hidI (costS_own R.out T.out hsm.out)
        go_wp2_with fail
        refine CA.out.mono ?_
        rintro e w8 ⟨rfl, hb'⟩
        replace hb := hb.trans (hb'.mono hb.size)
        replace R := hidI (own_below R.out hb')
        replace T := hidI (hT.below hb)
        clear CA hb'
        clear R
        have CA := hidI (distI_all s (aplO L s).1 w8 (by omega) (by omega) T.out)
        rw [hg2] at CA
        go_wp2_with fail
        refine CA.out.mono ?_
        rintro e w9 ⟨rfl, hb'⟩
        replace hb := hb.trans (hb'.mono hb.size)
        replace T := hidI (hT.below hb)
        clear CA hb'
        obtain ⟨dd, hdd⟩ : ∃ d, edA 2 s.data.toList (aplO L s).1.data.toList = d := ⟨_, rfl⟩
        obtain ⟨nn, hnn⟩ : ∃ d, cst L = d := ⟨_, rfl⟩
        rw [hdd] at hcst hbE ⊢
        rw [hnn] at hcst hcb ⊢
        have u1 : decide (dd ≤ nn) = true := decide_eq_true hcst
        clear hdd hnn hcA
        go_wp2
        go_ret
        exact ⟨rfl, hb⟩
    | true =>
      have hgg := hg
      rw [Bool.and_eq_true] at hgg
      obtain ⟨hga, hgb⟩ := hgg
      have ha3 := good_len' hga
      have hb3 := good_len' hgb
      have hdl := dfO_len a.data.toList b.data.toList
      cases hdf : dfG a.data.toList b.data.toList with
      | false =>
        have CA := hidI (diffI_good a b w1 T.out hga hgb ha3 hb3)
        rw [hdf, dfO_no hdf] at CA
        go_wp2_with fail
        refine CA.out.mono ?_
        rintro e w2 ⟨vx, rfl, ox, hb'⟩
        replace hb := hb.trans (hb'.mono hb.size)
        replace T := hidI (hT.below hb)
        clear CA hb'
        have X := hidI ox
        obtain ⟨aX, cX, rfl⟩ := own_sl ox
        clear ox
        have CA := hidI (diffS_good a b w2 hga hgb ha3 hb3)
        rw [hdf, dfO_no hdf] at CA
        go_wp2_with fail
        refine CA.out.mono ?_
        rintro e w3 ⟨vy, rfl, oy, hb'⟩
        replace hb := hb.trans (hb'.mono hb.size)
        replace X := hidI (own_below X.out hb')
        replace T := hidI (hT.below hb)
        clear CA hb'
        have Y := hidI oy
        obtain ⟨aY, cY, rfl⟩ := own_sl oy
        clear oy
        have CA := hidI (sameOps_own X.out Y.out (by simp))
        go_wp2_with fail
        refine CA.out.mono ?_
        rintro e w4 ⟨rfl, hb'⟩
        replace hb := hb.trans (hb'.mono hb.size)
        replace X := hidI (own_below X.out hb')
        replace Y := hidI (own_below Y.out hb')
        replace T := hidI (hT.below hb)
        clear CA hb'
        clear Y
        clear X
        have CA := hidI (drawApplyOp_any (.slice a2 len2 cap2) _ (code_on hco2.out hb) (by show len2 ≤ 1048576; omega))
        go_wp2_with fail
        refine CA.out.mono ?_
        rintro e w5 ⟨vr, L, s, rfl, orr, hLl, hsm, hs, hb'⟩
        replace hb := hb.trans (hb'.mono hb.size)
        replace T := hidI (hT.below hb)
        clear CA hb'
        replace hsm := hidI hsm
        have R := hidI orr
        obtain ⟨aR, cR, rfl⟩ := own_sl orr
        clear orr
        cases hap : (aplO L s).2 with
        | false =>
          have CA := hidI (applyS_own s R.out T.out hsm.out (by omega))
          rw [hap] at CA
          go_wp2_with fail
          refine CA.out.mono ?_
          rintro e w6 ⟨rfl, hb'⟩
          replace hb := hb.trans (hb'.mono hb.size)
          replace R := hidI (own_below R.out hb')
          replace T := hidI (hT.below hb)
          clear CA hb'
          have CA := hidI (costI_own R.out T.out hsm.out)
          go_wp2_with fail
          refine CA.out.mono ?_
          rintro e w7 ⟨rfl, hb'⟩
          replace hb := hb.trans (hb'.mono hb.size)
          replace R := hidI (own_below R.out hb')
          replace T := hidI (hT.below hb)
          clear CA hb'
          have CA := hidI (costS_own R.out T.out hsm.out)
          go_wp2_with fail
          refine CA.out.mono ?_
          rintro e w8 ⟨rfl, hb'⟩
          replace hb := hb.trans (hb'.mono hb.size)
          replace R := hidI (own_below R.out hb')
          replace T := hidI (hT.below hb)
          clear CA hb'
          clear R
          go_wp2
          go_ret
          exact ⟨rfl, hb⟩
        | true =>
          obtain ⟨hgo, hgs, hgt, hcst⟩ := ap_cost hap
          have hcA : cstA L = cst L := by unfold cstA; rw [hgo]; rfl
          have hcb := cst_bd L (goodO_pk hgo)
          have hL60 := (goodO_le hgo).1
          have hg2 : (good s.data.toList && good (aplO L s).1.data.toList) = true := by rw [hgs, hgt]; rfl
          have hE : edA 2 s.data.toList (aplO L s).1.data.toList = (ed 2 s.data.toList (aplO L s).1.data.toList : Int) := edA_good hgs hgt
          have hbE := edA_bd 2 (a := s.data.toList) (b := (aplO L s).1.data.toList)
          rw [← hE] at hcst
          have ht3 := good_len' hgt
          clear hE
          have CA := hidI (applyS_own s R.out T.out hsm.out (by omega))
          rw [hap] at CA
          go_wp2_with fail
          refine CA.out.mono ?_
          rintro e w6 ⟨rfl, hb'⟩
          replace hb := hb.trans (hb'.mono hb.size)
          replace R := hidI (own_below R.out hb')
          replace T := hidI (hT.below hb)
          clear CA hb'
          have CA := hidI (costI_own R.out T.out hsm.out)
          go_wp2_with fail
          refine CA.out.mono ?_
          rintro e w7 ⟨rfl, hb'⟩
          replace hb := hb.trans (hb'.mono hb.size)
          replace R := hidI (own_below R.out hb')
          replace T := hidI (hT.below hb)
          clear CA hb'
          have CA := hidI (costS_own R.out T.out hsm.out)
          go_wp2_with fail
          refine CA.out.mono ?_
          rintro e w8 ⟨rfl, hb'⟩
          replace hb := hb.trans (hb'.mono hb.size)
          replace R := hidI (own_below R.out hb')
          replace T := hidI (hT.below hb)
          clear CA hb'
          clear R
          have CA := hidI (distI_all s (aplO L s).1 w8 (by omega) (by omega) T.out)
          rw [hg2] at CA
          go_wp2_with fail
          refine CA.out.mono ?_
          rintro e w9 ⟨rfl, hb'⟩
          replace hb := hb.trans (hb'.mono hb.size)
          replace T := hidI (hT.below hb)
          clear CA hb'
          obtain ⟨dd, hdd⟩ : ∃ d, edA 2 s.data.toList (aplO L s).1.data.toList = d := ⟨_, rfl⟩
          obtain ⟨nn, hnn⟩ : ∃ d, cst L = d := ⟨_, rfl⟩
          rw [hdd] at hcst hbE ⊢
          rw [hnn] at hcst hcb ⊢
          have u1 : decide (dd ≤ nn) = true := decide_eq_true hcst
          clear hdd hnn hcA
          go_wp2
          go_ret
          exact ⟨rfl, hb⟩
      | true =>
        obtain ⟨hd1, hd2, hd3⟩ := df_does hga hgb hdf
        have hsmX := hidI (pk_smP hd3)
        have hcA : cstA (dfO a.data.toList b.data.toList) = (ed 2 a.data.toList b.data.toList : Int) := by unfold cstA; rw [hd3, if_pos rfl]; exact hd2
        have hdA : edA 2 a.data.toList b.data.toList = (ed 2 a.data.toList b.data.toList : Int) := edA_good hga hgb
        have hedb := ed_most 2 a.data.toList b.data.toList
        simp only [Array.length_toList, ByteArray.size_data] at hedb
        obtain ⟨dn, hdn⟩ : ∃ d : Nat, ed 2 a.data.toList b.data.toList = d := ⟨_, rfl⟩
        rw [hdn] at hcA hdA hedb
        have CA := hidI (diffI_good a b w1 T.out hga hgb ha3 hb3)
        rw [hdf] at CA
        go_wp2_with fail
        refine CA.out.mono ?_
        rintro e w2 ⟨vx, rfl, ox, hb'⟩
        replace hb := hb.trans (hb'.mono hb.size)
        replace T := hidI (hT.below hb)
        clear CA hb'
        have X := hidI ox
        obtain ⟨aX, cX, rfl⟩ := own_sl ox
        clear ox
        have CA := hidI (diffS_good a b w2 hga hgb ha3 hb3)
        rw [hdf] at CA
        go_wp2_with fail
        refine CA.out.mono ?_
        rintro e w3 ⟨vy, rfl, oy, hb'⟩
        replace hb := hb.trans (hb'.mono hb.size)
        replace X := hidI (own_below X.out hb')
        replace T := hidI (hT.below hb)
        clear CA hb'
        have Y := hidI oy
        obtain ⟨aY, cY, rfl⟩ := own_sl oy
        clear oy
        have CA := hidI (sameOps_own X.out Y.out hdl)
        go_wp2_with fail
        refine CA.out.mono ?_
        rintro e w4 ⟨rfl, hb'⟩
        replace hb := hb.trans (hb'.mono hb.size)
        replace X := hidI (own_below X.out hb')
        replace Y := hidI (own_below Y.out hb')
        replace T := hidI (hT.below hb)
        clear CA hb'
        clear Y
        have CA := hidI (applyI_own a X.out T.out hsmX.out (by omega))
        rw [hd1] at CA
        go_wp2_with fail
        refine CA.out.mono ?_
        rintro e w5 ⟨rfl, hb'⟩
        replace hb := hb.trans (hb'.mono hb.size)
        replace X := hidI (own_below X.out hb')
        replace T := hidI (hT.below hb)
        clear CA hb'
        have CA := hidI (costI_own X.out T.out hsmX.out)
        rw [hcA, hd3] at CA
        go_wp2_with fail
        refine CA.out.mono ?_
        rintro e w6 ⟨rfl, hb'⟩
        replace hb := hb.trans (hb'.mono hb.size)
        replace X := hidI (own_below X.out hb')
        replace T := hidI (hT.below hb)
        clear CA hb'
        have CA := hidI (distI_all a b w6 a16 hbs T.out)
        rw [hdA, hg] at CA
        go_wp2_with fail
        refine CA.out.mono ?_
        rintro e w7 ⟨rfl, hb'⟩
        replace hb := hb.trans (hb'.mono hb.size)
        replace X := hidI (own_below X.out hb')
        replace T := hidI (hT.below hb)
        clear CA hb'
        clear X hsmX
        clear hd1 hd2 hd3 hcA hdA hdn
        have CA := hidI (drawApplyOp_any (.slice a2 len2 cap2) _ (code_on hco2.out hb) (by show len2 ≤ 1048576; omega))
        go_wp2_with fail
        refine CA.out.mono ?_
        rintro e w8 ⟨vr, L, s, rfl, orr, hLl, hsm, hs, hb'⟩
        replace hb := hb.trans (hb'.mono hb.size)
        replace T := hidI (hT.below hb)
        clear CA hb'
        replace hsm := hidI hsm
        have R := hidI orr
        obtain ⟨aR, cR, rfl⟩ := own_sl orr
        clear orr
        cases hap : (aplO L s).2 with
        | false =>
          have CA := hidI (applyS_own s R.out T.out hsm.out (by omega))
          rw [hap] at CA
          go_wp2_with fail
          refine CA.out.mono ?_
          rintro e w9 ⟨rfl, hb'⟩
          replace hb := hb.trans (hb'.mono hb.size)
          replace R := hidI (own_below R.out hb')
          replace T := hidI (hT.below hb)
          clear CA hb'
          have CA := hidI (costI_own R.out T.out hsm.out)
          go_wp2_with fail
          refine CA.out.mono ?_
          rintro e w10 ⟨rfl, hb'⟩
          replace hb := hb.trans (hb'.mono hb.size)
          replace R := hidI (own_below R.out hb')
          replace T := hidI (hT.below hb)
          clear CA hb'
          have CA := hidI (costS_own R.out T.out hsm.out)
          go_wp2_with fail
          refine CA.out.mono ?_
          rintro e w11 ⟨rfl, hb'⟩
          replace hb := hb.trans (hb'.mono hb.size)
          replace R := hidI (own_below R.out hb')
          replace T := hidI (hT.below hb)
          clear CA hb'
          clear R
          go_wp2
          go_ret
          exact ⟨rfl, hb⟩
        | true =>
          obtain ⟨hgo, hgs, hgt, hcst⟩ := ap_cost hap
          have hcA : cstA L = cst L := by unfold cstA; rw [hgo]; rfl
          have hcb := cst_bd L (goodO_pk hgo)
          have hL60 := (goodO_le hgo).1
          have hg2 : (good s.data.toList && good (aplO L s).1.data.toList) = true := by rw [hgs, hgt]; rfl
          have hE : edA 2 s.data.toList (aplO L s).1.data.toList = (ed 2 s.data.toList (aplO L s).1.data.toList : Int) := edA_good hgs hgt
          have hbE := edA_bd 2 (a := s.data.toList) (b := (aplO L s).1.data.toList)
          rw [← hE] at hcst
          have ht3 := good_len' hgt
          clear hE
          have CA := hidI (applyS_own s R.out T.out hsm.out (by omega))
          rw [hap] at CA
          go_wp2_with fail
          refine CA.out.mono ?_
          rintro e w9 ⟨rfl, hb'⟩
          replace hb := hb.trans (hb'.mono hb.size)
          replace R := hidI (own_below R.out hb')
          replace T := hidI (hT.below hb)
          clear CA hb'
          have CA := hidI (costI_own R.out T.out hsm.out)
          go_wp2_with fail
          refine CA.out.mono ?_
          rintro e w10 ⟨rfl, hb'⟩
          replace hb := hb.trans (hb'.mono hb.size)
          replace R := hidI (own_below R.out hb')
          replace T := hidI (hT.below hb)
          clear CA hb'
          have CA := hidI (costS_own R.out T.out hsm.out)
          go_wp2_with fail
          refine CA.out.mono ?_
          rintro e w11 ⟨rfl, hb'⟩
          replace hb := hb.trans (hb'.mono hb.size)
          replace R := hidI (own_below R.out hb')
          replace T := hidI (hT.below hb)
          clear CA hb'
          clear R
          have CA := hidI (distI_all s (aplO L s).1 w11 (by omega) (by omega) T.out)
          rw [hg2] at CA
          go_wp2_with fail
          refine CA.out.mono ?_
          rintro e w12 ⟨rfl, hb'⟩
          replace hb := hb.trans (hb'.mono hb.size)
          replace T := hidI (hT.below hb)
          clear CA hb'
          obtain ⟨dd, hdd⟩ : ∃ d, edA 2 s.data.toList (aplO L s).1.data.toList = d := ⟨_, rfl⟩
          obtain ⟨nn, hnn⟩ : ∃ d, cst L = d := ⟨_, rfl⟩
          rw [hdd] at hcst hbE ⊢
          rw [hnn] at hcst hcb ⊢
          have u1 : decide (dd ≤ nn) = true := decide_eq_true hcst
          clear hdd hnn hcA
          go_wp2
          go_ret
          exact ⟨rfl, hb⟩
  · go_enter Tryd.func7, Tryd.ntmps7
    go_wp2
    go_ret
    exact ⟨rfl, Below.refl _ _⟩
end Go.Proofs.YtojlnnlcbpjdlaaDoor
