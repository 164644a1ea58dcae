/- The law FnNormal: a normal change does the same and is normal, keeping all changes nothing, and what is spliced is just that. -/
import Derived.Test.YtojlnnlcbpjdlaaDoorOwnM
import Derived.Test.YtojlnnlcbpjdlaaDoorNorM
import Derived.Test.YtojlnnlcbpjdlaaDoorCmpWM
import Derived.Deep.QuietTactic
import Derived.BigQuiet
namespace Go.Proofs.YtojlnnlcbpjdlaaDoor
open Go.RowKit
open Doc1

theorem compI_own {w : World} {A B : Nat} {u v : Value} {a b : List Pt} (ha : POwn w A u a) (hb : POwn w B v b) (hT : Tab w) (ma : ∀ p ∈ a, smP p) (mb : ∀ p ∈ b, smP p) (la : a.length ≤ 1048576) (lb : b.length ≤ 1048576) :
    Calls Tryd.prog 10 #[u, v] w fun e w' => ∃ v, e = .returned (.tuple #[v, .bool (cmpO a b).2]) ∧ POwn w' w.heap.size v (cmpO a b).1 ∧ Below w.heap.size w w' := by
  obtain ⟨aw, g, cap, rfl, hp⟩ := own_pin ha hT (smP_sz ma) la
  obtain ⟨aw2, g2, cap2, rfl, hp2⟩ := own_pin hb hT (smP_sz mb) lb
  exact compI hp hp2 hT
theorem keep_smP {n : Int} (h0 : 0 ≤ n) (h : n ≤ 300) : ∀ p ∈ keepL n, smP p := by
  obtain ⟨m, rfl⟩ : ∃ m : Nat, n = m := ⟨n.toNat, by omega⟩
  exact gq_smP (keepL_good (by omega))
theorem spO_smP (s put : ByteArray) (a b : Int) : ∀ p ∈ (spO s put a b).1, smP p := by
  unfold spO
  split
  · rename_i h; exact gq_smP h.2
  · intro p hp; cases hp
theorem spO_len6 (s put : ByteArray) (a b : Int) : (spO s put a b).1.length ≤ 10000000 := by
  unfold spO
  split
  · rename_i h
    have := (goodO_le h.2).1
    exact Nat.le_trans this (by omega)
  · simp
theorem spO_not {s put : ByteArray} {a b : Int} (h : (spO s put a b).2 = false) : spO s put a b = ([], false) := by
  unfold spO at h ⊢
  split
  · rename_i hc; rw [if_pos hc] at h; cases h
  · rfl
theorem spl_str {t put : ByteArray} {m n : Nat} (hn : n ≤ t.size) : ((ba (List.take m t.data.toList ++ (put.data.toList ++ List.drop n t.data.toList))).toList == (t.extract 0 m ++ put ++ t.extract n t.size).toList) = true := by
  rw [beq_iff_eq, ByteArray.toList_eq, ByteArray.toList_eq]
  have hl := sz_list t
  have e1 : (t.extract 0 m).data.toList = t.data.toList.take m := by simp [ByteArray.data_extract, Array.toList_extract, List.extract_eq_take_drop]
  have e2 : (t.extract n t.size).data.toList = t.data.toList.drop n := by
    simp only [ByteArray.data_extract, Array.toList_extract, List.extract_eq_take_drop]
    rw [List.take_of_length_le (by rw [List.length_drop]; omega)]
  rw [ByteArray.data_append, ByteArray.data_append, Array.toList_append, Array.toList_append, e1, e2, ba_list, List.append_assoc]
theorem spO_le {s put : ByteArray} {a b : Int} (h : (spO s put a b).2 = true) : b ≤ (s.size : Int) := by
  unfold spO at h
  split at h
  · rename_i hc; exact hc.1.2.2.2.2
  · cases h

set_option maxRecDepth 100000 in
set_option maxHeartbeats 8000000 in
theorem law_normal (C D : Value) (w : World) (hco : CodeAt w.heap.size C w) (hco2 : CodeAt w.heap.size D w) (hlen : ∀ a len cap, C = .slice a len cap → len ≤ 140737488355328) (hlen2 : ∀ a len cap, D = .slice a len cap → len ≤ 140737488355328) (hT : Tab w) :
    Calls Tryd.prog 4 #[C, D] w fun e w' => e = .returned (.bool true) ∧ Below w.heap.size w w' := by
  obtain ⟨a1, len, cap, rfl⟩ := hco.shape
  obtain ⟨a2, len2, cap2, rfl⟩ := hco2.shape
  have l1 := hlen a1 len cap rfl
  have l2 := hlen2 a2 len2 cap2 rfl
  clear hlen hlen2
  by_cases hl : (len : Int) + len2 ≤ 1048576
  · have H0 := hidI (drawApplyOp_any (.slice a1 len cap) w hco (by show len ≤ 1048576; omega))
    replace hco2 := hidI hco2
    clear hco
    go_enter Tryd.func4, Tryd.ntmps4
    go_wp2_with fail
    refine H0.out.mono ?_
    rintro e w1 ⟨v, L, s, rfl, ho, hL, hsm, hs, hb⟩
    have T := hidI (hT.below hb)
    have R := hidI ho
    replace hsm := hidI hsm
    have hxl : Hid ((norO L).length ≤ 10000000) := hidI (by
      by_cases h : goodO L = true
      · have := (goodO_le (nor_nor h).2).1; omega
      · unfold norO; rw [if_neg h]; simp)
    obtain ⟨aR, cR, rfl⟩ := own_sl ho
    clear ho H0
    cases hg : goodO L with
    | false =>
      have CA := hidI (normalI_own R.out T.out hsm.out)
      rw [hg] at CA
      go_wp2_with fail
      refine CA.out.mono ?_
      rintro e w2 ⟨vx, rfl, ox, hb'⟩
      replace hb := hb.trans (hb'.mono hb.size)
      replace R := hidI (own_below R.out hb')
      replace T := hidI (hT.below hb)
      clear CA hb'
      have X := hidI ox
      obtain ⟨aX, cX, rfl⟩ := own_sl ox
      clear ox
      have CA := hidI (normalS_own R.out T.out hsm.out)
      rw [hg] at CA
      go_wp2_with fail
      refine CA.out.mono ?_
      rintro e w3 ⟨vy, rfl, oy, hb'⟩
      replace hb := hb.trans (hb'.mono hb.size)
      replace R := hidI (own_below R.out hb')
      replace X := hidI (own_below X.out hb')
      replace T := hidI (hT.below hb)
      clear CA hb'
      have Y := hidI oy
      obtain ⟨aY, cY, rfl⟩ := own_sl oy
      clear oy
      have CA := hidI (sameOps_own X.out Y.out hxl.out)
      go_wp2_with fail
      refine CA.out.mono ?_
      rintro e w4 ⟨rfl, hb'⟩
      replace hb := hb.trans (hb'.mono hb.size)
      replace R := hidI (own_below R.out hb')
      replace X := hidI (own_below X.out hb')
      replace Y := hidI (own_below Y.out hb')
      replace T := hidI (hT.below hb)
      clear CA hb'
      clear Y
      clear R X
      have CA := hidI (drawSpliceOp_any (.slice a2 len2 cap2) _ (code_on hco2.out hb))
      go_wp2_with fail
      refine CA.out.mono ?_
      rintro e w5 ⟨t, put, m, n, rfl, ht, hp, hm, hmn, hn, hb'⟩
      replace hb := hb.trans (hb'.mono hb.size)
      replace T := hidI (hT.below hb)
      clear CA hb'
      cases hsp : (spO t put m n).2 with
      | false =>
        have hsq := spO_not hsp
        have CA := hidI (spliceI t put m n (by omega) (by omega) T.out)
        rw [hsq] at CA
        go_wp2_with fail
        refine CA.out.mono ?_
        rintro e w6 ⟨vz, rfl, oz, hb'⟩
        replace hb := hb.trans (hb'.mono hb.size)
        replace T := hidI (hT.below hb)
        clear CA hb'
        have Z := hidI oz
        obtain ⟨aZ, cZ, rfl⟩ := own_sl oz
        clear oz
        have CA := hidI (spliceS (w := w6) t put m n (by omega) (by omega))
        rw [hsq] at CA
        go_wp2_with fail
        refine CA.out.mono ?_
        rintro e w7 ⟨vw, rfl, ow, hb'⟩
        replace hb := hb.trans (hb'.mono hb.size)
        replace Z := hidI (own_below Z.out hb')
        replace T := hidI (hT.below hb)
        clear CA hb'
        have Wr := hidI ow
        obtain ⟨aWr, cWr, rfl⟩ := own_sl ow
        clear ow
        have CA := hidI (sameOps_own Z.out Wr.out (by simp))
        go_wp2_with fail
        refine CA.out.mono ?_
        rintro e w8 ⟨rfl, hb'⟩
        replace hb := hb.trans (hb'.mono hb.size)
        replace Z := hidI (own_below Z.out hb')
        replace Wr := hidI (own_below Wr.out hb')
        replace T := hidI (hT.below hb)
        clear CA hb'
        clear Wr
        go_wp2
        go_ret
        exact ⟨rfl, hb⟩
      | true =>
        have CA := hidI (spliceI t put m n (by omega) (by omega) T.out)
        rw [hsp] at CA
        go_wp2_with fail
        refine CA.out.mono ?_
        rintro e w6 ⟨vz, rfl, oz, hb'⟩
        replace hb := hb.trans (hb'.mono hb.size)
        replace T := hidI (hT.below hb)
        clear CA hb'
        have Z := hidI oz
        obtain ⟨aZ, cZ, rfl⟩ := own_sl oz
        clear oz
        have CA := hidI (spliceS (w := w6) t put m n (by omega) (by omega))
        rw [hsp] at CA
        go_wp2_with fail
        refine CA.out.mono ?_
        rintro e w7 ⟨vw, rfl, ow, hb'⟩
        replace hb := hb.trans (hb'.mono hb.size)
        replace Z := hidI (own_below Z.out hb')
        replace T := hidI (hT.below hb)
        clear CA hb'
        have Wr := hidI ow
        obtain ⟨aWr, cWr, rfl⟩ := own_sl ow
        clear ow
        have CA := hidI (sameOps_own Z.out Wr.out (spO_len6 _ _ _ _))
        go_wp2_with fail
        refine CA.out.mono ?_
        rintro e w8 ⟨rfl, hb'⟩
        replace hb := hb.trans (hb'.mono hb.size)
        replace Z := hidI (own_below Z.out hb')
        replace Wr := hidI (own_below Wr.out hb')
        replace T := hidI (hT.below hb)
        clear CA hb'
        clear Wr
        have hnl := spO_le hsp
        have hn0 : (n : Int) ≤ (t.size : Int) := hnl
        have m0 : (0 : Int) ≤ (m : Int) := by omega
        have m1 : (m : Int) ≤ (t.size : Int) := by omega
        have n0 : (0 : Int) ≤ (n : Int) := by omega
        have CA := hidI (applyI_own t Z.out T.out (spO_smP _ _ _ _) (by omega))
        rw [spl_apply hsp] at CA
        go_wp2_with fail
        refine CA.out.mono ?_
        rintro e w9 ⟨rfl, hb'⟩
        replace hb := hb.trans (hb'.mono hb.size)
        replace Z := hidI (own_below Z.out hb')
        replace T := hidI (hT.below hb)
        clear CA hb'
        clear Z hsp
        go_wp2
        go_quiet (fail)
        go_wp2
        go_ret
        exact ⟨by rw [spl_str (by omega)]; rfl, hb.trans ⟨rfl, rfl, rfl, Nat.le_refl _, fun _ _ => rfl⟩⟩
    | true =>
      obtain ⟨nn, gx⟩ := nor_nor hg
      have hAN := hidI (aplO_norm hg s)
      replace nn := hidI nn
      have hsT : szT L = tkL L := by unfold szT; rw [hg]; rfl
      obtain ⟨g60, gt3, gm3⟩ := goodO_le hg
      have t0 : 0 ≤ tkL L := by have := (stL_sums L (goodO_pk hg)).1; omega
      have hko : keepOk (tkL L) = true := by unfold keepOk; exact decide_eq_true ⟨t0, by omega⟩
      have hCK : Hid (cmpO (keepL (tkL L)) L = (norO L, true)) := hidI (by unfold norO; rw [if_pos hg]; exact cmpO_keep hg)
      have hKs : Hid (∀ p ∈ keepL (tkL L), smP p) := hidI (keep_smP t0 (by omega))
      have hNs : Hid (∀ p ∈ norO L, smP p) := hidI (gq_smP gx)
      have hKl := keepL_len (tkL L)
      have CA := hidI (normalI_own R.out T.out hsm.out)
      rw [hg] at CA
      go_wp2_with fail
      refine CA.out.mono ?_
      rintro e w2 ⟨vx, rfl, ox, hb'⟩
      replace hb := hb.trans (hb'.mono hb.size)
      replace R := hidI (own_below R.out hb')
      replace T := hidI (hT.below hb)
      clear CA hb'
      have X := hidI ox
      obtain ⟨aX, cX, rfl⟩ := own_sl ox
      clear ox
      have CA := hidI (normalS_own R.out T.out hsm.out)
      rw [hg] at CA
      go_wp2_with fail
      refine CA.out.mono ?_
      rintro e w3 ⟨vy, rfl, oy, hb'⟩
      replace hb := hb.trans (hb'.mono hb.size)
      replace R := hidI (own_below R.out hb')
      replace X := hidI (own_below X.out hb')
      replace T := hidI (hT.below hb)
      clear CA hb'
      have Y := hidI oy
      obtain ⟨aY, cY, rfl⟩ := own_sl oy
      clear oy
      have CA := hidI (sameOps_own X.out Y.out hxl.out)
      go_wp2_with fail
      refine CA.out.mono ?_
      rintro e w4 ⟨rfl, hb'⟩
      replace hb := hb.trans (hb'.mono hb.size)
      replace R := hidI (own_below R.out hb')
      replace X := hidI (own_below X.out hb')
      replace Y := hidI (own_below Y.out hb')
      replace T := hidI (hT.below hb)
      clear CA hb'
      clear Y
      have CA := hidI (applyI_own s R.out T.out hsm.out (by omega))
      go_wp2_with fail
      refine CA.out.mono ?_
      rintro e w5 ⟨rfl, hb'⟩
      replace hb := hb.trans (hb'.mono hb.size)
      replace R := hidI (own_below R.out hb')
      replace X := hidI (own_below X.out hb')
      replace T := hidI (hT.below hb)
      clear CA hb'
      have CA := hidI (applyI_own s X.out T.out hNs.out (by omega))
      rw [hAN.out] at CA
      go_wp2_with fail
      refine CA.out.mono ?_
      rintro e w6 ⟨rfl, hb'⟩
      replace hb := hb.trans (hb'.mono hb.size)
      replace R := hidI (own_below R.out hb')
      replace X := hidI (own_below X.out hb')
      replace T := hidI (hT.below hb)
      clear CA hb'
      have CA := hidI (normalI_own X.out T.out hNs.out)
      rw [gx, nn.out] at CA
      go_wp2_with fail
      refine CA.out.mono ?_
      rintro e w7 ⟨va, rfl, oa, hb'⟩
      replace hb := hb.trans (hb'.mono hb.size)
      replace R := hidI (own_below R.out hb')
      replace X := hidI (own_below X.out hb')
      replace T := hidI (hT.below hb)
      clear CA hb'
      have A := hidI oa
      obtain ⟨aA, cA, rfl⟩ := own_sl oa
      clear oa
      have CA := hidI (sizesI_own R.out T.out hsm.out)
      rw [hsT, hg] at CA
      go_wp2_with fail
      refine CA.out.mono ?_
      rintro e w8 ⟨rfl, hb'⟩
      replace hb := hb.trans (hb'.mono hb.size)
      replace R := hidI (own_below R.out hb')
      replace X := hidI (own_below X.out hb')
      replace A := hidI (own_below A.out hb')
      replace T := hidI (hT.below hb)
      clear CA hb'
      have CA := hidI (keepI (tkL L) w8)
      rw [hko] at CA
      go_wp2_with fail
      refine CA.out.mono ?_
      rintro e w9 ⟨vk, rfl, ok, hb'⟩
      replace hb := hb.trans (hb'.mono hb.size)
      replace R := hidI (own_below R.out hb')
      replace X := hidI (own_below X.out hb')
      replace A := hidI (own_below A.out hb')
      replace T := hidI (hT.below hb)
      clear CA hb'
      have K := hidI ok
      obtain ⟨aK, cK, rfl⟩ := own_sl ok
      clear ok
      have CA := hidI (compI_own K.out R.out T.out hKs.out hsm.out (by omega) (by omega))
      rw [hCK.out] at CA
      go_wp2_with fail
      refine CA.out.mono ?_
      rintro e w10 ⟨vs, rfl, os, hb'⟩
      replace hb := hb.trans (hb'.mono hb.size)
      replace R := hidI (own_below R.out hb')
      replace X := hidI (own_below X.out hb')
      replace A := hidI (own_below A.out hb')
      replace K := hidI (own_below K.out hb')
      replace T := hidI (hT.below hb)
      clear CA hb'
      have S := hidI os
      obtain ⟨aS, cS, rfl⟩ := own_sl os
      clear os
      have CA := hidI (sameOps_own A.out X.out hxl.out)
      go_wp2_with fail
      refine CA.out.mono ?_
      rintro e w11 ⟨rfl, hb'⟩
      replace hb := hb.trans (hb'.mono hb.size)
      replace R := hidI (own_below R.out hb')
      replace X := hidI (own_below X.out hb')
      replace A := hidI (own_below A.out hb')
      replace K := hidI (own_below K.out hb')
      replace S := hidI (own_below S.out hb')
      replace T := hidI (hT.below hb)
      clear CA hb'
      clear A K R
      have CA := hidI (sameOps_own S.out X.out hxl.out)
      go_wp2_with fail
      refine CA.out.mono ?_
      rintro e w12 ⟨rfl, hb'⟩
      replace hb := hb.trans (hb'.mono hb.size)
      replace X := hidI (own_below X.out hb')
      replace S := hidI (own_below S.out hb')
      replace T := hidI (hT.below hb)
      clear CA hb'
      clear S X
      have CA := hidI (drawSpliceOp_any (.slice a2 len2 cap2) _ (code_on hco2.out hb))
      go_wp2_with fail
      refine CA.out.mono ?_
      rintro e w13 ⟨t, put, m, n, rfl, ht, hp, hm, hmn, hn, hb'⟩
      replace hb := hb.trans (hb'.mono hb.size)
      replace T := hidI (hT.below hb)
      clear CA hb'
      cases hsp : (spO t put m n).2 with
      | false =>
        have hsq := spO_not hsp
        have CA := hidI (spliceI t put m n (by omega) (by omega) T.out)
        rw [hsq] at CA
        go_wp2_with fail
        refine CA.out.mono ?_
        rintro e w14 ⟨vz, rfl, oz, hb'⟩
        replace hb := hb.trans (hb'.mono hb.size)
        replace T := hidI (hT.below hb)
        clear CA hb'
        have Z := hidI oz
        obtain ⟨aZ, cZ, rfl⟩ := own_sl oz
        clear oz
        have CA := hidI (spliceS (w := w14) t put m n (by omega) (by omega))
        rw [hsq] at CA
        go_wp2_with fail
        refine CA.out.mono ?_
        rintro e w15 ⟨vw, rfl, ow, hb'⟩
        replace hb := hb.trans (hb'.mono hb.size)
        replace Z := hidI (own_below Z.out hb')
        replace T := hidI (hT.below hb)
        clear CA hb'
        have Wr := hidI ow
        obtain ⟨aWr, cWr, rfl⟩ := own_sl ow
        clear ow
        have CA := hidI (sameOps_own Z.out Wr.out (by simp))
        go_wp2_with fail
        refine CA.out.mono ?_
        rintro e w16 ⟨rfl, hb'⟩
        replace hb := hb.trans (hb'.mono hb.size)
        replace Z := hidI (own_below Z.out hb')
        replace Wr := hidI (own_below Wr.out hb')
        replace T := hidI (hT.below hb)
        clear CA hb'
        clear Wr
        go_wp2
        go_ret
        exact ⟨rfl, hb⟩
      | true =>
        have CA := hidI (spliceI t put m n (by omega) (by omega) T.out)
        rw [hsp] at CA
        go_wp2_with fail
        refine CA.out.mono ?_
        rintro e w14 ⟨vz, rfl, oz, hb'⟩
        replace hb := hb.trans (hb'.mono hb.size)
        replace T := hidI (hT.below hb)
        clear CA hb'
        have Z := hidI oz
        obtain ⟨aZ, cZ, rfl⟩ := own_sl oz
        clear oz
        have CA := hidI (spliceS (w := w14) t put m n (by omega) (by omega))
        rw [hsp] at CA
        go_wp2_with fail
        refine CA.out.mono ?_
        rintro e w15 ⟨vw, rfl, ow, hb'⟩
        replace hb := hb.trans (hb'.mono hb.size)
        replace Z := hidI (own_below Z.out hb')
        replace T := hidI (hT.below hb)
        clear CA hb'
        have Wr := hidI ow
        obtain ⟨aWr, cWr, rfl⟩ := own_sl ow
        clear ow
        have CA := hidI (sameOps_own Z.out Wr.out (spO_len6 _ _ _ _))
        go_wp2_with fail
        refine CA.out.mono ?_
        rintro e w16 ⟨rfl, hb'⟩
        replace hb := hb.trans (hb'.mono hb.size)
        replace Z := hidI (own_below Z.out hb')
        replace Wr := hidI (own_below Wr.out hb')
        replace T := hidI (hT.below hb)
        clear CA hb'
        clear Wr
        have hnl := spO_le hsp
        have hn0 : (n : Int) ≤ (t.size : Int) := hnl
        have m0 : (0 : Int) ≤ (m : Int) := by omega
        have m1 : (m : Int) ≤ (t.size : Int) := by omega
        have n0 : (0 : Int) ≤ (n : Int) := by omega
        have CA := hidI (applyI_own t Z.out T.out (spO_smP _ _ _ _) (by omega))
        rw [spl_apply hsp] at CA
        go_wp2_with fail
        refine CA.out.mono ?_
        rintro e w17 ⟨rfl, hb'⟩
        replace hb := hb.trans (hb'.mono hb.size)
        replace Z := hidI (own_below Z.out hb')
        replace T := hidI (hT.below hb)
        clear CA hb'
        clear Z hsp
        go_wp2
        go_quiet (fail)
        go_wp2
        go_ret
        exact ⟨by rw [spl_str (by omega)]; rfl, hb.trans ⟨rfl, rfl, rfl, Nat.le_refl _, fun _ _ => rfl⟩⟩
  · go_enter Tryd.func4, Tryd.ntmps4
    go_wp2
    go_ret
    exact ⟨rfl, Below.refl _ _⟩
end Go.Proofs.YtojlnnlcbpjdlaaDoor
