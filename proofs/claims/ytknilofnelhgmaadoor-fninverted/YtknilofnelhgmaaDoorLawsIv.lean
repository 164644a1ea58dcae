/- The law FnInverted: a change that is turned round takes back what it did, and turned round twice it is itself, normal. -/
import Derived.Test.YtknilofnelhgmaaDoorOwn3
import Derived.Test.YtknilofnelhgmaaDoorSameOp
import Derived.Test.YtknilofnelhgmaaDoorDraw5
namespace Go.Proofs.YtknilofnelhgmaaDoor
open Go.RowKit
open Doc1

set_option maxRecDepth 100000 in
set_option maxHeartbeats 8000000 in
theorem law_inverted (C : Value) (w : World) (hco : CodeAt w.heap.size C w) (hT : Tab w) :
    Calls Tryd.prog 3 #[C] w fun e w' => e = .returned (.bool true) ∧ Below w.heap.size w w' := by
  obtain ⟨a, len, cap, rfl⟩ := hco.shape
  by_cases hl : (len : Int) ≤ 1048576
  · have H0 := hidI (drawApplyOp_any (.slice a len cap) w hco (by show len ≤ 1048576; omega))
    clear hco
    go_enter Tryd.func3, Tryd.ntmps3
    go_wp2_with fail
    refine H0.out.mono ?_
    rintro e w1 ⟨v, L, s, rfl, ho, hL, hsm, hs, hb⟩
    have T := hidI (hT.below hb)
    have R := hidI ho
    replace hsm := hidI hsm
    have hxl : Hid ((invO L).length ≤ 10000000) := hidI (by
      by_cases h : goodO L = true
      · have := (goodO_le (good_invO h).1).1; omega
      · unfold invO; rw [if_neg h]; simp)
    obtain ⟨aR, cR, rfl⟩ := own_sl ho
    clear ho H0
    cases hg : goodO L with
    | false =>
      have hap : aplO L s = (⟨#[]⟩, false) := by unfold aplO; rw [hg]; simp
      have CA := hidI (applyI_own s R.out T.out hsm.out (by omega))
      rw [hap] at CA
      go_wp2_with fail
      refine CA.out.mono ?_
      rintro e w2 ⟨rfl, hb'⟩
      replace hb := hb.trans (hb'.mono hb.size)
      replace R := hidI (own_below R.out hb')
      replace T := hidI (hT.below hb)
      clear CA hb'
      have CA := hidI (applyS_own s R.out T.out hsm.out (by omega))
      rw [hap] at CA
      clear hap
      go_wp2_with fail
      refine CA.out.mono ?_
      rintro e w3 ⟨rfl, hb'⟩
      replace hb := hb.trans (hb'.mono hb.size)
      replace R := hidI (own_below R.out hb')
      replace T := hidI (hT.below hb)
      clear CA hb'
      have CA := hidI (invertI_own R.out T.out hsm.out)
      rw [hg] at CA
      go_wp2_with fail
      refine CA.out.mono ?_
      rintro e w4 ⟨vx, rfl, ox, hb'⟩
      replace hb := hb.trans (hb'.mono hb.size)
      replace R := hidI (own_below R.out hb')
      replace T := hidI (hT.below hb)
      clear CA hb'
      have X := hidI ox
      obtain ⟨aX, cX, rfl⟩ := own_sl ox
      clear ox
      have CA := hidI (invertS_own R.out T.out hsm.out)
      rw [hg] at CA
      clear hg
      go_wp2_with fail
      refine CA.out.mono ?_
      rintro e w5 ⟨vy, rfl, oy, hb'⟩
      replace hb := hb.trans (hb'.mono hb.size)
      replace R := hidI (own_below R.out hb')
      replace X := hidI (own_below X.out hb')
      replace T := hidI (hT.below hb)
      clear CA hb'
      have Y := hidI oy
      obtain ⟨aY, cY, rfl⟩ := own_sl oy
      clear oy
      have CA := hidI (sameOps_own X.out Y.out hxl.out)
      go_wp2_with fail
      refine CA.out.mono ?_
      rintro e w6 ⟨rfl, hb'⟩
      replace hb := hb.trans (hb'.mono hb.size)
      replace R := hidI (own_below R.out hb')
      replace X := hidI (own_below X.out hb')
      replace Y := hidI (own_below Y.out hb')
      replace T := hidI (hT.below hb)
      clear CA hb'
      clear Y
      go_wp2
      go_ret
      exact ⟨rfl, hb⟩
    | true =>
      obtain ⟨gx, gt, gm⟩ := good_invO hg
      have hII := hidI (inv_inv hg)
      have hsT : szT L = tkL L := by unfold szT; rw [hg]; rfl
      have hsM : szM L = mkL L := by unfold szM; rw [hg]; rfl
      have hxT : szT (invO L) = mkL L := by unfold szT; rw [gx]; exact gt
      have hxM : szM (invO L) = tkL L := by unfold szM; rw [gx]; exact gm
      have hnl : Hid ((norO L).length ≤ 10000000) := hidI (by
        have := (goodO_le (norm_goodO hg).1).1
        unfold norO; rw [if_pos hg]; omega)
      cases hok : (aplO L s).2 with
      | false =>
        have CA := hidI (applyI_own s R.out T.out hsm.out (by omega))
        rw [hok] at CA
        go_wp2_with fail
        refine CA.out.mono ?_
        rintro e w2 ⟨rfl, hb'⟩
        replace hb := hb.trans (hb'.mono hb.size)
        replace R := hidI (own_below R.out hb')
        replace T := hidI (hT.below hb)
        clear CA hb'
        have CA := hidI (applyS_own s R.out T.out hsm.out (by omega))
        rw [hok] at CA
        go_wp2_with fail
        refine CA.out.mono ?_
        rintro e w3 ⟨rfl, hb'⟩
        replace hb := hb.trans (hb'.mono hb.size)
        replace R := hidI (own_below R.out hb')
        replace T := hidI (hT.below hb)
        clear CA hb'
        have CA := hidI (invertI_own R.out T.out hsm.out)
        rw [hg] at CA
        go_wp2_with fail
        refine CA.out.mono ?_
        rintro e w4 ⟨vx, rfl, ox, hb'⟩
        replace hb := hb.trans (hb'.mono hb.size)
        replace R := hidI (own_below R.out hb')
        replace T := hidI (hT.below hb)
        clear CA hb'
        have X := hidI ox
        obtain ⟨aX, cX, rfl⟩ := own_sl ox
        clear ox
        have CA := hidI (invertS_own R.out T.out hsm.out)
        rw [hg] at CA
        go_wp2_with fail
        refine CA.out.mono ?_
        rintro e w5 ⟨vy, rfl, oy, hb'⟩
        replace hb := hb.trans (hb'.mono hb.size)
        replace R := hidI (own_below R.out hb')
        replace X := hidI (own_below X.out hb')
        replace T := hidI (hT.below hb)
        clear CA hb'
        have Y := hidI oy
        obtain ⟨aY, cY, rfl⟩ := own_sl oy
        clear oy
        have CA := hidI (sameOps_own X.out Y.out hxl.out)
        go_wp2_with fail
        refine CA.out.mono ?_
        rintro e w6 ⟨rfl, hb'⟩
        replace hb := hb.trans (hb'.mono hb.size)
        replace R := hidI (own_below R.out hb')
        replace X := hidI (own_below X.out hb')
        replace Y := hidI (own_below Y.out hb')
        replace T := hidI (hT.below hb)
        clear CA hb'
        clear Y
        have CA := hidI (invertI_own X.out T.out (invO_smP L))
        rw [gx, hII.out] at CA
        go_wp2_with fail
        refine CA.out.mono ?_
        rintro e w7 ⟨vz, rfl, oz, hb'⟩
        replace hb := hb.trans (hb'.mono hb.size)
        replace R := hidI (own_below R.out hb')
        replace X := hidI (own_below X.out hb')
        replace T := hidI (hT.below hb)
        clear CA hb'
        have Z := hidI oz
        obtain ⟨aZ, cZ, rfl⟩ := own_sl oz
        clear oz
        have CA := hidI (normalI_own R.out T.out hsm.out)
        rw [hg] at CA
        go_wp2_with fail
        refine CA.out.mono ?_
        rintro e w8 ⟨vn, rfl, on, hb'⟩
        replace hb := hb.trans (hb'.mono hb.size)
        replace R := hidI (own_below R.out hb')
        replace X := hidI (own_below X.out hb')
        replace Z := hidI (own_below Z.out hb')
        replace T := hidI (hT.below hb)
        clear CA hb'
        have N := hidI on
        obtain ⟨aN, cN, rfl⟩ := own_sl on
        clear on
        have CA := hidI (sizesI_own R.out T.out hsm.out)
        rw [hsT, hsM, hg] at CA
        go_wp2_with fail
        refine CA.out.mono ?_
        rintro e w9 ⟨rfl, hb'⟩
        replace hb := hb.trans (hb'.mono hb.size)
        replace R := hidI (own_below R.out hb')
        replace X := hidI (own_below X.out hb')
        replace Z := hidI (own_below Z.out hb')
        replace N := hidI (own_below N.out hb')
        replace T := hidI (hT.below hb)
        clear CA hb'
        have CA := hidI (sizesI_own X.out T.out (invO_smP L))
        rw [hxT, hxM, gx] at CA
        go_wp2_with fail
        refine CA.out.mono ?_
        rintro e w10 ⟨rfl, hb'⟩
        replace hb := hb.trans (hb'.mono hb.size)
        replace R := hidI (own_below R.out hb')
        replace X := hidI (own_below X.out hb')
        replace Z := hidI (own_below Z.out hb')
        replace N := hidI (own_below N.out hb')
        replace T := hidI (hT.below hb)
        clear CA hb'
        have CA := hidI (sameOps_own Z.out N.out hnl.out)
        go_wp2_with fail
        refine CA.out.mono ?_
        rintro e w11 ⟨rfl, hb'⟩
        replace hb := hb.trans (hb'.mono hb.size)
        replace R := hidI (own_below R.out hb')
        replace X := hidI (own_below X.out hb')
        replace Z := hidI (own_below Z.out hb')
        replace N := hidI (own_below N.out hb')
        replace T := hidI (hT.below hb)
        clear CA hb'
        go_wp2
        go_ret
        exact ⟨rfl, hb⟩
      | true =>
        obtain ⟨u1, u2, u3⟩ := undo hok
        have hm3 := (goodO_le hg).2.2
        have hts : (aplO L s).1.size ≤ 300 := by omega
        replace u1 := hidI u1
        replace u2 := hidI u2
        replace u3 := hidI u3
        have CA := hidI (applyI_own s R.out T.out hsm.out (by omega))
        rw [hok] at CA
        go_wp2_with fail
        refine CA.out.mono ?_
        rintro e w2 ⟨rfl, hb'⟩
        replace hb := hb.trans (hb'.mono hb.size)
        replace R := hidI (own_below R.out hb')
        replace T := hidI (hT.below hb)
        clear CA hb'
        have CA := hidI (applyS_own s R.out T.out hsm.out (by omega))
        rw [hok] at CA
        go_wp2_with fail
        refine CA.out.mono ?_
        rintro e w3 ⟨rfl, hb'⟩
        replace hb := hb.trans (hb'.mono hb.size)
        replace R := hidI (own_below R.out hb')
        replace T := hidI (hT.below hb)
        clear CA hb'
        have CA := hidI (invertI_own R.out T.out hsm.out)
        rw [hg] at CA
        go_wp2_with fail
        refine CA.out.mono ?_
        rintro e w4 ⟨vx, rfl, ox, hb'⟩
        replace hb := hb.trans (hb'.mono hb.size)
        replace R := hidI (own_below R.out hb')
        replace T := hidI (hT.below hb)
        clear CA hb'
        have X := hidI ox
        obtain ⟨aX, cX, rfl⟩ := own_sl ox
        clear ox
        have CA := hidI (invertS_own R.out T.out hsm.out)
        rw [hg] at CA
        go_wp2_with fail
        refine CA.out.mono ?_
        rintro e w5 ⟨vy, rfl, oy, hb'⟩
        replace hb := hb.trans (hb'.mono hb.size)
        replace R := hidI (own_below R.out hb')
        replace X := hidI (own_below X.out hb')
        replace T := hidI (hT.below hb)
        clear CA hb'
        have Y := hidI oy
        obtain ⟨aY, cY, rfl⟩ := own_sl oy
        clear oy
        have CA := hidI (sameOps_own X.out Y.out hxl.out)
        go_wp2_with fail
        refine CA.out.mono ?_
        rintro e w6 ⟨rfl, hb'⟩
        replace hb := hb.trans (hb'.mono hb.size)
        replace R := hidI (own_below R.out hb')
        replace X := hidI (own_below X.out hb')
        replace Y := hidI (own_below Y.out hb')
        replace T := hidI (hT.below hb)
        clear CA hb'
        clear Y
        have CA := hidI (invertI_own X.out T.out (invO_smP L))
        rw [gx, hII.out] at CA
        go_wp2_with fail
        refine CA.out.mono ?_
        rintro e w7 ⟨vz, rfl, oz, hb'⟩
        replace hb := hb.trans (hb'.mono hb.size)
        replace R := hidI (own_below R.out hb')
        replace X := hidI (own_below X.out hb')
        replace T := hidI (hT.below hb)
        clear CA hb'
        have Z := hidI oz
        obtain ⟨aZ, cZ, rfl⟩ := own_sl oz
        clear oz
        have CA := hidI (normalI_own R.out T.out hsm.out)
        rw [hg] at CA
        go_wp2_with fail
        refine CA.out.mono ?_
        rintro e w8 ⟨vn, rfl, on, hb'⟩
        replace hb := hb.trans (hb'.mono hb.size)
        replace R := hidI (own_below R.out hb')
        replace X := hidI (own_below X.out hb')
        replace Z := hidI (own_below Z.out hb')
        replace T := hidI (hT.below hb)
        clear CA hb'
        have N := hidI on
        obtain ⟨aN, cN, rfl⟩ := own_sl on
        clear on
        have CA := hidI (sizesI_own R.out T.out hsm.out)
        rw [hsT, hsM, hg] at CA
        rw [← u2.out, ← u3.out] at CA
        go_wp2_with fail
        refine CA.out.mono ?_
        rintro e w9 ⟨rfl, hb'⟩
        replace hb := hb.trans (hb'.mono hb.size)
        replace R := hidI (own_below R.out hb')
        replace X := hidI (own_below X.out hb')
        replace Z := hidI (own_below Z.out hb')
        replace N := hidI (own_below N.out hb')
        replace T := hidI (hT.below hb)
        clear CA hb'
        have CA := hidI (sizesI_own X.out T.out (invO_smP L))
        rw [hxT, hxM, gx] at CA
        rw [← u2.out, ← u3.out] at CA
        go_wp2_with fail
        refine CA.out.mono ?_
        rintro e w10 ⟨rfl, hb'⟩
        replace hb := hb.trans (hb'.mono hb.size)
        replace R := hidI (own_below R.out hb')
        replace X := hidI (own_below X.out hb')
        replace Z := hidI (own_below Z.out hb')
        replace N := hidI (own_below N.out hb')
        replace T := hidI (hT.below hb)
        clear CA hb'
        have CA := hidI (sameOps_own Z.out N.out hnl.out)
        go_wp2_with fail
        refine CA.out.mono ?_
        rintro e w11 ⟨rfl, hb'⟩
        replace hb := hb.trans (hb'.mono hb.size)
        replace R := hidI (own_below R.out hb')
        replace X := hidI (own_below X.out hb')
        replace Z := hidI (own_below Z.out hb')
        replace N := hidI (own_below N.out hb')
        replace T := hidI (hT.below hb)
        clear CA hb'
        clear Z N
        have CA := hidI (applyI_own (aplO L s).1 X.out T.out (invO_smP L) (by omega))
        rw [u1.out] at CA
        go_wp2_with fail
        refine CA.out.mono ?_
        rintro e w12 ⟨rfl, hb'⟩
        replace hb := hb.trans (hb'.mono hb.size)
        replace R := hidI (own_below R.out hb')
        replace X := hidI (own_below X.out hb')
        replace T := hidI (hT.below hb)
        clear CA hb'
        go_wp2
        go_ret
        exact ⟨rfl, hb⟩
  · go_enter Tryd.func3, Tryd.ntmps3
    go_wp2
    go_ret
    exact ⟨rfl, Below.refl _ _⟩
end Go.Proofs.YtknilofnelhgmaaDoor
