/- The law FnComposed: two changes put together do what they do one behind the other, and three are the same either way. -/
import Derived.Test.YtfobkjoinjphdaaDoorCmdM
import Derived.Test.YtfobkjoinjphdaaDoorCmoM
import Derived.Test.YtfobkjoinjphdaaDoorPlcN
namespace Go.Proofs.YtfobkjoinjphdaaDoor
open Go.RowKit
open Doc1

theorem cmp_not {A B : List Pt} (h : (cmpO A B).2 = false) : cmpO A B = ([], false) := by
  by_cases hall : goodO A = true ∧ goodO B = true
  · obtain ⟨k1, k2⟩ := cmpO_eq hall.1 hall.2
    cases hT : cmpS (stL A) (stL B) with
    | none => exact k2 hT
    | some T =>
      have e := k1 T hT
      rw [e] at h
      simp only at h
      rw [h] at e
      exact e
  · exact cmpO_no (fun c => hall ⟨c.1, c.2.1⟩)
theorem sLl_snoc (l : List Pt) (p : Pt) : sLl (l ++ [p]) = sLl l ++ (kx p.keep ++ p.drop.data.toList) := by simp [sLl]
theorem tLl_snoc (l : List Pt) (p : Pt) : tLl (l ++ [p]) = tLl l ++ (kx p.keep ++ p.put.data.toList) := by simp [tLl]
theorem kx_succ (x : List UInt8) (j : Nat) : (x ++ List.replicate j 107) ++ [107] = x ++ List.replicate (j + 1) 107 := by rw [List.append_assoc, ← List.replicate_succ']
theorem own_fresh (w : World) : POwn (w.alloc (.cells #[] 30)) w.heap.size (.slice (some ⟨w.heap.size, 0, none⟩) 0 0) [] :=
  ⟨rfl, .inr ⟨w.heap.size, 0, #[], rfl, Nat.le_refl _, heap_alloc_new w _, Nat.le_refl _, Nat.zero_le _, rfl, rfl⟩⟩
theorem app_list (x y : ByteArray) : (x ++ y).data.toList = x.data.toList ++ y.data.toList := by rw [ByteArray.data_append, Array.toList_append]

set_option maxRecDepth 100000 in
set_option maxHeartbeats 8000000 in
theorem law_composed (C C2 : Value) (w : World) (hco : CodeAt w.heap.size C w) (hco2 : CodeAt w.heap.size C2 w) (hlen : ∀ a len cap, C = .slice a len cap → len ≤ 140737488355328) (hlen2 : ∀ a len cap, C2 = .slice a len cap → len ≤ 140737488355328) (hT : Tab w) :
    Calls Tryd.prog 3 #[C, C2] w fun e w' => e = .returned (.bool true) ∧ Below w.heap.size w w' := by
  obtain ⟨a1, len, cap, rfl⟩ := hco.shape
  obtain ⟨a2, len2, cap2, rfl⟩ := hco2.shape
  have l1 := hlen a1 len cap rfl
  have l2 := hlen2 a2 len2 cap2 rfl
  clear hlen hlen2
  by_cases hl : (len : Int) + len2 ≤ 1048576
  · have H0 := hidI (drawComposeOps_any (.slice a1 len cap) w hco (by show len ≤ 1048576; omega))
    replace hco2 := hidI hco2
    clear hco
    go_enter Tryd.func3, Tryd.ntmps3
    go_wp2_with fail
    refine H0.out.mono ?_
    rintro e w1 ⟨va, vb, A, B, rfl, oa, hA, hsa, ob, hB, hsb, hb⟩
    have T := hidI (hT.below hb)
    have RA := hidI oa
    have RB := hidI ob
    replace hsa := hidI hsa
    replace hsb := hidI hsb
    obtain ⟨aA, cA, rfl⟩ := own_sl oa
    obtain ⟨aB, cB, rfl⟩ := own_sl ob
    clear oa ob H0
    cases hk : (cmpO A B).2 with
    | false =>
      have hno := cmp_not hk
      have CA := hidI (compI_own RA.out RB.out T.out hsa.out hsb.out)
      go_wp2_with fail
      refine CA.out.mono ?_
      rintro e w2 ⟨vx, rfl, ox, hb'⟩
      replace hb := hb.trans (hb'.mono hb.size)
      replace RA := hidI (own_below RA.out hb')
      replace RB := hidI (own_below RB.out hb')
      replace T := hidI (hT.below hb)
      clear CA hb'
      rw [hno] at ox
      have X := hidI ox
      obtain ⟨aX, cX, rfl⟩ := own_sl ox
      clear ox
      have CA := hidI (compS_own RA.out RB.out T.out hsa.out hsb.out)
      go_wp2_with fail
      refine CA.out.mono ?_
      rintro e w3 ⟨vy, rfl, oy, hb'⟩
      replace hb := hb.trans (hb'.mono hb.size)
      replace RA := hidI (own_below RA.out hb')
      replace RB := hidI (own_below RB.out hb')
      replace X := hidI (own_below X.out hb')
      replace T := hidI (hT.below hb)
      clear CA hb'
      rw [hno] at oy
      have Y := hidI oy
      obtain ⟨aY, cY, rfl⟩ := own_sl oy
      clear oy
      rw [hk]
      have CA := hidI (sameOps_own X.out Y.out (by simp))
      go_wp2_with fail
      refine CA.out.mono ?_
      rintro e w4 ⟨rfl, hb'⟩
      replace hb := hb.trans (hb'.mono hb.size)
      replace RA := hidI (own_below RA.out hb')
      replace RB := hidI (own_below RB.out hb')
      replace X := hidI (own_below X.out hb')
      replace Y := hidI (own_below Y.out hb')
      replace T := hidI (hT.below hb)
      clear CA hb'
      go_wp2
      go_ret
      exact ⟨rfl, hb⟩
    | true =>
      obtain ⟨gA, gB, -, gX, -⟩ := cmp_yes hk
      have hX60 := (goodO_le gX).1
      have HAP := hidI (fun (s t : ByteArray) (hs : s.data.toList = sLl A) (ht : t.data.toList = tLl A) => cmp_apply hk hs ht)
      have H3 := hidI (fun (D : List Pt) (h2 : (cmpO B D).2 = true) (h3 : (cmpO (cmpO A B).1 D).2 = true) (h4 : (cmpO A (cmpO B D).1).2 = true) => cmp_thrice (C := D) hk h2 h3 h4)
      have CI := hidI (fun (w1 : World) (u v : Value) (P Q : Nat) (ha : POwn w1 P u A) (hb : POwn w1 Q v B) (hT : Tab w1) => compI_own ha hb hT hsa.out hsb.out)
      have CS := hidI (fun (w1 : World) (u v : Value) (P Q : Nat) (ha : POwn w1 P u A) (hb : POwn w1 Q v B) (hT : Tab w1) => compS_own ha hb hT hsa.out hsb.out)
      unfold CoPost at CI CS
      rw [hk] at CI CS
      generalize hXe : (cmpO A B).1 = AB at *
      clear hXe hk
      have hsx := hidI (gq_smP gX)
      have hA60 := (goodO_le gA).1
      have hpA := hidI (goodO_pk gA)
      obtain ⟨mk, hmk⟩ : ∃ mk : Nat, mkL B = mk := ⟨(mkL B).toNat, by have := (all_bd B (goodO_pk gB)).2.1; omega⟩
      have hmk3 : mk ≤ 300 := by have := (goodO_le gB).2.2; omega
      have hsM : szM B = mk := by unfold szM; rw [gB]; exact hmk
      clear hmk gX gA
      have CA := hidI (CI.out _ _ _ _ _ RA.out RB.out T.out)
      go_wp2_with fail
      refine CA.out.mono ?_
      rintro e w2 ⟨vx, rfl, ox, hb'⟩
      replace hb := hb.trans (hb'.mono hb.size)
      replace RA := hidI (own_below RA.out hb')
      replace RB := hidI (own_below RB.out hb')
      replace T := hidI (hT.below hb)
      clear CA hb'
      have X := hidI ox
      obtain ⟨aX, cX, rfl⟩ := own_sl ox
      clear ox
      have CA := hidI (CS.out _ _ _ _ _ RA.out RB.out T.out)
      go_wp2_with fail
      refine CA.out.mono ?_
      rintro e w3 ⟨vy, rfl, oy, hb'⟩
      replace hb := hb.trans (hb'.mono hb.size)
      replace RA := hidI (own_below RA.out hb')
      replace RB := hidI (own_below RB.out hb')
      replace X := hidI (own_below X.out hb')
      replace T := hidI (hT.below hb)
      clear CA hb'
      have Y := hidI oy
      obtain ⟨aY, cY, rfl⟩ := own_sl oy
      clear oy
      have CA := hidI (sameOps_own X.out Y.out (by omega))
      go_wp2_with fail
      refine CA.out.mono ?_
      rintro e w4 ⟨rfl, hb'⟩
      replace hb := hb.trans (hb'.mono hb.size)
      replace RA := hidI (own_below RA.out hb')
      replace RB := hidI (own_below RB.out hb')
      replace X := hidI (own_below X.out hb')
      replace Y := hidI (own_below Y.out hb')
      replace T := hidI (hT.below hb)
      clear CA hb'
      clear Y CI CS
      obtain ⟨aw, g, cp, ev, hcp, hcl, hgl, hadr⟩ := own_row RA.out T.out
      cases ev
      have HC := hidI hcl
      have HA := hidI hadr
      clear hcl hadr
      go_wp2
      go_loopw [11, 12, 71] (fun s t i wr => ∃ (k : Nat) (x y : ByteArray), k ≤ A.length ∧ i = .int .i64 k ∧ s = .string x ∧ t = .string y ∧ Hid (x.data.toList = sLl (A.take k)) ∧ Hid (y.data.toList = tLl (A.take k)) ∧ x.size ≤ 601 * k ∧ y.size ≤ 601 * k ∧ Below w4.heap.size w4 wr) (fun _ _ i _ => A.length - (intOf i).toNat)
      case atStart => exact ⟨0, ⟨#[]⟩, ⟨#[]⟩, Nat.zero_le _, rfl, rfl, rfl, hide rfl, hide rfl, Nat.zero_le _, Nat.zero_le _, Below.refl _ _⟩
      case round =>
        obtain ⟨k, x, y, hk, rfl, rfl, rfl, hx, hy, hxs, hys, hbel⟩ := hrel
        by_cases hlt : k < A.length
        · obtain rfl := HA.out k hlt
          obtain ⟨c0, c1, c2⟩ := (HC.out.later hbel hgl).ptat k hlt
          obtain ⟨⟨b2, b3⟩, b4, b5, -⟩ := pk_sizes (hpA.out _ (List.getElem_mem hlt))
          have ht : A.take (k + 1) = A.take k ++ [A[k]] := List.take_succ_eq_append_getElem hlt
          have hS := hidI (sLl_snoc (A.take k) A[k])
          have hU := hidI (tLl_snoc (A.take k) A[k])
          rw [← ht] at hS hU
          clear ht
          generalize sLl (A.take k) = X0 at *
          generalize tLl (A.take k) = Y0 at *
          generalize A[k] = P at *
          obtain ⟨d0, d1, d2⟩ := cells3_new wr (.int .i64 P.keep) (.string P.put) (.string P.drop) 30
          obtain ⟨wa, hwa⟩ : ∃ wa, wa = wr.alloc (.cells #[.int .i64 P.keep, .string P.put, .string P.drop] 30) := ⟨_, rfl⟩
          have hba := hbel.alloc hbel.size (.cells #[.int .i64 P.keep, .string P.put, .string P.drop] 30)
          rw [← hwa] at d0 d1 d2 hba
          have HWA := hidI hwa
          clear hwa
          go_wp2
          rw [← HWA.out]
          go_loopw [11, 12, 15] (fun s t i wq => ∃ (j : Nat) (x y : ByteArray), (j : Int) ≤ P.keep ∧ i = .int .i64 j ∧ s = .string x ∧ t = .string y ∧ Hid (x.data.toList = X0 ++ List.replicate j 107) ∧ Hid (y.data.toList = Y0 ++ List.replicate j 107) ∧ x.size ≤ 601 * k + j ∧ y.size ≤ 601 * k + j ∧ wq = wa) (fun _ _ i _ => P.keep.toNat - (intOf i).toNat)
          case atStart => exact ⟨0, x, y, b2, rfl, rfl, rfl, hide (by rw [hx.out]; simp), hide (by rw [hy.out]; simp), by omega, by omega, rfl⟩
          case round =>
            obtain ⟨j, x, y, hj, rfl, rfl, rfl, hx, hy, hxs, hys, hw⟩ := hrel
            subst hw
            by_cases hjk : (j : Int) < P.keep
            · go_wp2
              go_roundw
              case rel => exact ⟨j + 1, _, _, by omega, by go_num, rfl, rfl, hide (by rw [app_list, hx.out]; exact kx_succ _ _), hide (by rw [app_list, hy.out]; exact kx_succ _ _), by rw [ByteArray.size_append]; show _ + 1 ≤ _; omega, by rw [ByteArray.size_append]; show _ + 1 ≤ _; omega, by first | rfl | trivial⟩
              case measure => simp [intOf]; omega
            · have hje : P.keep.toNat = j := by omega
              go_wp2
              refine ⟨⟨k + 1, _, _, by omega, by go_num, rfl, rfl, hide (by rw [app_list, hx.out, hS.out]; unfold kx; rw [hje, List.append_assoc]), hide (by rw [app_list, hy.out, hU.out]; unfold kx; rw [hje, List.append_assoc]), by rw [ByteArray.size_append]; omega, by rw [ByteArray.size_append]; omega, hba⟩, by simp [intOf]; omega⟩
        · have hke : k = A.length := by omega
          rw [hke, List.take_length] at hx hy
          clear HC HA hgl hcp
          replace hb := hb.trans (hbel.mono hb.size)
          replace RA := hidI (own_below RA.out hbel)
          replace RB := hidI (own_below RB.out hbel)
          replace X := hidI (own_below X.out hbel)
          replace T := hidI (hT.below hb)
          clear hbel
          have hap := HAP.out x y hx.out hy.out
          clear HAP hx hy
          have CX := hidI (fun (w1 : World) (u : Value) (P : Nat) (h : POwn w1 P u AB) (hT : Tab w1) => applyI_own x h hT hsx.out (by omega))
          rw [← hap] at CX
          have CB := hidI (fun (w1 : World) (u : Value) (P : Nat) (h : POwn w1 P u B) (hT : Tab w1) => applyI_own y h hT hsb.out (by omega))
          generalize hz : aplO B y = z at CX CB
          obtain ⟨z1, z2⟩ := z
          clear hap hz
          cases z2 with
          | false =>
            have CA := hidI (CB.out _ _ _ RB.out T.out)
            go_wp2_with fail
            refine CA.out.mono ?_
            rintro e w5 ⟨rfl, hb'⟩
            replace hb := hb.trans (hb'.mono hb.size)
            replace RA := hidI (own_below RA.out hb')
            replace RB := hidI (own_below RB.out hb')
            replace X := hidI (own_below X.out hb')
            replace T := hidI (hT.below hb)
            clear CA hb'
            have CA := hidI (CX.out _ _ _ X.out T.out)
            go_wp2_with fail
            refine CA.out.mono ?_
            rintro e w6 ⟨rfl, hb'⟩
            replace hb := hb.trans (hb'.mono hb.size)
            replace RA := hidI (own_below RA.out hb')
            replace RB := hidI (own_below RB.out hb')
            replace X := hidI (own_below X.out hb')
            replace T := hidI (hT.below hb)
            clear CA hb'
            have CA := hidI (sizesS_own RB.out T.out hsb.out)
            rw [hsM] at CA
            go_wp2_with fail
            refine CA.out.mono ?_
            rintro e w7 ⟨rfl, hb'⟩
            replace hb := hb.trans (hb'.mono hb.size)
            replace RA := hidI (own_below RA.out hb')
            replace RB := hidI (own_below RB.out hb')
            replace X := hidI (own_below X.out hb')
            replace T := hidI (hT.below hb)
            clear CA hb'
            clear CB CX
            obtain ⟨i0, hi0, hz0, hz1, hz2⟩ := info_parts Tryd.infoPart
            have RC := own_fresh w7
            have hbc : Below w7.heap.size w7 (w7.alloc (.cells #[] 30)) := (Below.refl _ _).alloc (Nat.le_refl _) _
            obtain ⟨wn, hwn⟩ : ∃ wn, w7.alloc (.cells #[] 30) = wn := ⟨_, rfl⟩
            rw [hwn] at RC hbc
            replace RC := hidI RC
            have CN := hidI (numberOf_any (code_on hco2.out (hb.trans (hbc.mono hb.size))) (by show len2 ≤ 1048576; omega))
            go_wp2_with fail
            clear hwn
            refine CN.out.mono ?_
            rintro e w8 ⟨xq, rfl, -, hb'⟩
            replace RC := hidI (own_below RC.out hb')
            replace hbc := hbc.trans (hb'.mono hbc.size)
            clear CN hb'
            obtain ⟨q, hq⟩ : ∃ q : Nat, q = xq % (mk + 1) := ⟨_, rfl⟩
            have hqk : q ≤ mk := by have := Nat.mod_lt xq (show 0 < mk + 1 by omega); omega
            have hqi : (xq : Int) % ((mk : Int) + 1) = (q : Int) := by rw [hq, Int.natCast_emod, Int.natCast_add]; rfl
            clear hq
            by_cases hq0 : 0 < q
            · go_wp2_with (at_builtin; refine wpList_append_loc _ rfl _ _ 23 rfl w7.heap.size 30 i0 (.agg #[.int .i64 0, .string ⟨#[]⟩, .string ⟨#[]⟩]) 3 40 Tryd.underlying23 hi0 hz0 hz1 hz2 rfl (by decide) _ _ _ rfl (World.ownsRow.alloc RC.out _) ⟨w8.heap.size, 0, none⟩ 1 1 [.int .i64 (q : Int), .string ⟨#[]⟩, .string ⟨#[]⟩] rfl rfl ?_ ?_ ?_ ?_ ?_ ?_)
              · exact cell3_at _ _ (by simp) _ _ _ _
              · intro u hu; simp at hu; rcases hu with rfl | rfl | rfl <;> rfl
              · unfold maxLen; simp
              · simp
              · have := hbc.size; simp; omega
              rintro vc w9 hown' hgrow -
              have hbd := below_append hbc RC.out hbc.size hgrow
              replace RC := hidI (POwn.app (l := []) (p := ⟨(q : Int), ⟨#[]⟩, ⟨#[]⟩⟩) hown')
              clear hown' hgrow hbc
              have hbc := hbd
              clear hbd
              go_wp2_with (at_builtin; refine wpList_append_loc _ rfl _ _ 23 rfl w7.heap.size 30 i0 (.agg #[.int .i64 0, .string ⟨#[]⟩, .string ⟨#[]⟩]) 3 40 Tryd.underlying23 hi0 hz0 hz1 hz2 rfl (by decide) _ _ _ rfl (World.ownsRow.alloc RC.out _) ⟨w9.heap.size, 0, none⟩ 1 1 [.int .i64 0, .string ⟨#[110, 101, 119]⟩, .string ⟨#[]⟩] rfl rfl ?_ ?_ ?_ ?_ ?_ ?_)
              · exact cell3_at _ _ (by simp) _ _ _ _
              · intro u hu; simp at hu; rcases hu with rfl | rfl | rfl <;> rfl
              · unfold maxLen; simp
              · simp
              · have := hbc.size; simp; omega
              rintro vc w10 hown' hgrow -
              have hbd := below_append hbc RC.out hbc.size hgrow
              replace RC := hidI (POwn.app (l := ([] ++ [⟨(q : Int), ⟨#[]⟩, ⟨#[]⟩⟩])) (p := ⟨0, ⟨#[110, 101, 119]⟩, ⟨#[]⟩⟩) hown')
              clear hown' hgrow hbc
              have hbc := hbd
              clear hbd
              have CN := hidI (numberOf_any (code_on hco2.out (hb.trans (hbc.mono hb.size))) (by show len2 ≤ 1048576; omega))
              go_wp2_with fail
              refine CN.out.mono ?_
              rintro e w11 ⟨xr, rfl, -, hb'⟩
              replace RC := hidI (own_below RC.out hb')
              replace hbc := hbc.trans (hb'.mono hbc.size)
              clear CN hb'
              obtain ⟨r, hr⟩ : ∃ r : Nat, r = xr % (mk + 1) := ⟨_, rfl⟩
              have hrk : r ≤ mk := by have := Nat.mod_lt xr (show 0 < mk + 1 by omega); omega
              have hri : (xr : Int) % ((mk : Int) + 1) = (r : Int) := by rw [hr, Int.natCast_emod, Int.natCast_add]; rfl
              clear hr
              obtain ⟨m, hm⟩ : ∃ m : Nat, (mk : Int) - (r : Int) = (m : Int) := ⟨mk - r, by omega⟩
              by_cases hm0 : 0 < m
              · go_wp2_with (at_builtin; refine wpList_append_loc _ rfl _ _ 23 rfl w7.heap.size 30 i0 (.agg #[.int .i64 0, .string ⟨#[]⟩, .string ⟨#[]⟩]) 3 40 Tryd.underlying23 hi0 hz0 hz1 hz2 rfl (by decide) _ _ _ rfl (World.ownsRow.alloc RC.out _) ⟨w11.heap.size, 0, none⟩ 1 1 [.int .i64 (m : Int), .string ⟨#[]⟩, .string ⟨#[]⟩] rfl rfl ?_ ?_ ?_ ?_ ?_ ?_)
                · exact cell3_at _ _ (by simp) _ _ _ _
                · intro u hu; simp at hu; rcases hu with rfl | rfl | rfl <;> rfl
                · unfold maxLen; simp
                · simp
                · have := hbc.size; simp; omega
                rintro vc w12 hown' hgrow -
                have hbd := below_append hbc RC.out hbc.size hgrow
                replace RC := hidI (POwn.app (l := (([] ++ [⟨(q : Int), ⟨#[]⟩, ⟨#[]⟩⟩]) ++ [⟨0, ⟨#[110, 101, 119]⟩, ⟨#[]⟩⟩])) (p := ⟨(m : Int), ⟨#[]⟩, ⟨#[]⟩⟩) hown')
                clear hown' hgrow hbc
                have hbc := hbd
                clear hbd
                have hsc : ∀ p ∈ (((([] ++ [⟨(q : Int), ⟨#[]⟩, ⟨#[]⟩⟩]) ++ [⟨0, ⟨#[110, 101, 119]⟩, ⟨#[]⟩⟩]) ++ [⟨(m : Int), ⟨#[]⟩, ⟨#[]⟩⟩]) : List Pt), smP p := by
                  intro p hp
                  simp only [List.nil_append, List.cons_append, List.mem_cons, List.not_mem_nil, or_false] at hp
                  rcases hp with rfl | rfl | rfl <;> exact ⟨⟨by show (-1 : Int) ≤ _; simp only; omega, by simp only; omega⟩, Nat.le_trans (show _ ≤ 3 from by simp only; decide) (by decide), Nat.zero_le _⟩
                replace hsc := hidI hsc
                generalize (((([] ++ [⟨(q : Int), ⟨#[]⟩, ⟨#[]⟩⟩]) ++ [⟨0, ⟨#[110, 101, 119]⟩, ⟨#[]⟩⟩]) ++ [⟨(m : Int), ⟨#[]⟩, ⟨#[]⟩⟩]) : List Pt) = D at RC hsc
                replace RA := hidI (own_below RA.out hbc)
                replace RB := hidI (own_below RB.out hbc)
                replace X := hidI (own_below X.out hbc)
                replace hb := hb.trans (hbc.mono hb.size)
                clear hbc
                replace T := hidI (hT.below hb)
                have hD := H3.out D
                have C2 := hidI (fun (w1 : World) (u v : Value) (P Q : Nat) (ha : POwn w1 P u B) (hb : POwn w1 Q v D) (hT : Tab w1) => compI_own ha hb hT hsb.out hsc.out)
                have C3 := hidI (fun (w1 : World) (u v : Value) (P Q : Nat) (ha : POwn w1 P u AB) (hb : POwn w1 Q v D) (hT : Tab w1) => compI_own ha hb hT hsx.out hsc.out)
                unfold CoPost at C2 C3
                clear H3
                cases h2 : (cmpO B D).2 with
                | false =>
                  cases h3 : (cmpO AB D).2 with
                  | false =>
                    have CA := hidI (C2.out _ _ _ _ _ RB.out RC.out T.out)
                    rw [h2] at CA
                    go_wp2_with fail
                    refine CA.out.mono ?_
                    rintro e w13 ⟨vr, rfl, orr, hb'⟩
                    replace hb := hb.trans (hb'.mono hb.size)
                    replace RA := hidI (own_below RA.out hb')
                    replace RB := hidI (own_below RB.out hb')
                    replace X := hidI (own_below X.out hb')
                    replace RC := hidI (own_below RC.out hb')
                    replace T := hidI (hT.below hb)
                    clear CA hb'
                    have R := hidI orr
                    obtain ⟨aR, cR, rfl⟩ := own_sl orr
                    clear orr
                    have CA := hidI (C3.out _ _ _ _ _ X.out RC.out T.out)
                    rw [h3] at CA
                    go_wp2_with fail
                    refine CA.out.mono ?_
                    rintro e w14 ⟨vl, rfl, ol, hb'⟩
                    replace hb := hb.trans (hb'.mono hb.size)
                    replace RA := hidI (own_below RA.out hb')
                    replace RB := hidI (own_below RB.out hb')
                    replace X := hidI (own_below X.out hb')
                    replace RC := hidI (own_below RC.out hb')
                    replace R := hidI (own_below R.out hb')
                    replace T := hidI (hT.below hb)
                    clear CA hb'
                    have Lf := hidI ol
                    obtain ⟨aLf, cLf, rfl⟩ := own_sl ol
                    clear ol
                    go_wp2
                    go_ret
                    exact ⟨rfl, hb⟩
                  | true =>
                    have CA := hidI (C2.out _ _ _ _ _ RB.out RC.out T.out)
                    rw [h2] at CA
                    go_wp2_with fail
                    refine CA.out.mono ?_
                    rintro e w13 ⟨vr, rfl, orr, hb'⟩
                    replace hb := hb.trans (hb'.mono hb.size)
                    replace RA := hidI (own_below RA.out hb')
                    replace RB := hidI (own_below RB.out hb')
                    replace X := hidI (own_below X.out hb')
                    replace RC := hidI (own_below RC.out hb')
                    replace T := hidI (hT.below hb)
                    clear CA hb'
                    have R := hidI orr
                    obtain ⟨aR, cR, rfl⟩ := own_sl orr
                    clear orr
                    have CA := hidI (C3.out _ _ _ _ _ X.out RC.out T.out)
                    rw [h3] at CA
                    go_wp2_with fail
                    refine CA.out.mono ?_
                    rintro e w14 ⟨vl, rfl, ol, hb'⟩
                    replace hb := hb.trans (hb'.mono hb.size)
                    replace RA := hidI (own_below RA.out hb')
                    replace RB := hidI (own_below RB.out hb')
                    replace X := hidI (own_below X.out hb')
                    replace RC := hidI (own_below RC.out hb')
                    replace R := hidI (own_below R.out hb')
                    replace T := hidI (hT.below hb)
                    clear CA hb'
                    have Lf := hidI ol
                    obtain ⟨aLf, cLf, rfl⟩ := own_sl ol
                    clear ol
                    go_wp2
                    go_ret
                    exact ⟨rfl, hb⟩
                | true =>
                  cases h3 : (cmpO AB D).2 with
                  | false =>
                    have CA := hidI (C2.out _ _ _ _ _ RB.out RC.out T.out)
                    rw [h2] at CA
                    go_wp2_with fail
                    refine CA.out.mono ?_
                    rintro e w13 ⟨vr, rfl, orr, hb'⟩
                    replace hb := hb.trans (hb'.mono hb.size)
                    replace RA := hidI (own_below RA.out hb')
                    replace RB := hidI (own_below RB.out hb')
                    replace X := hidI (own_below X.out hb')
                    replace RC := hidI (own_below RC.out hb')
                    replace T := hidI (hT.below hb)
                    clear CA hb'
                    have R := hidI orr
                    obtain ⟨aR, cR, rfl⟩ := own_sl orr
                    clear orr
                    have CA := hidI (C3.out _ _ _ _ _ X.out RC.out T.out)
                    rw [h3] at CA
                    go_wp2_with fail
                    refine CA.out.mono ?_
                    rintro e w14 ⟨vl, rfl, ol, hb'⟩
                    replace hb := hb.trans (hb'.mono hb.size)
                    replace RA := hidI (own_below RA.out hb')
                    replace RB := hidI (own_below RB.out hb')
                    replace X := hidI (own_below X.out hb')
                    replace RC := hidI (own_below RC.out hb')
                    replace R := hidI (own_below R.out hb')
                    replace T := hidI (hT.below hb)
                    clear CA hb'
                    have Lf := hidI ol
                    obtain ⟨aLf, cLf, rfl⟩ := own_sl ol
                    clear ol
                    go_wp2
                    go_ret
                    exact ⟨rfl, hb⟩
                  | true =>
                    have g2 := (cmp_yes h2).2.2.2.1
                    have g3 := (goodO_le (cmp_yes h3).2.2.2.1).1
                    have hE := hidI (hD h2 h3)
                    have hsr := hidI (gq_smP g2)
                    clear hD g2
                    replace g3 := hidI g3
                    have CA := hidI (C2.out _ _ _ _ _ RB.out RC.out T.out)
                    rw [h2] at CA
                    go_wp2_with fail
                    refine CA.out.mono ?_
                    rintro e w13 ⟨vr, rfl, orr, hb'⟩
                    replace hb := hb.trans (hb'.mono hb.size)
                    replace RA := hidI (own_below RA.out hb')
                    replace RB := hidI (own_below RB.out hb')
                    replace X := hidI (own_below X.out hb')
                    replace RC := hidI (own_below RC.out hb')
                    replace T := hidI (hT.below hb)
                    clear CA hb'
                    have R := hidI orr
                    obtain ⟨aR, cR, rfl⟩ := own_sl orr
                    clear orr
                    have CA := hidI (C3.out _ _ _ _ _ X.out RC.out T.out)
                    rw [h3] at CA
                    go_wp2_with fail
                    refine CA.out.mono ?_
                    rintro e w14 ⟨vl, rfl, ol, hb'⟩
                    replace hb := hb.trans (hb'.mono hb.size)
                    replace RA := hidI (own_below RA.out hb')
                    replace RB := hidI (own_below RB.out hb')
                    replace X := hidI (own_below X.out hb')
                    replace RC := hidI (own_below RC.out hb')
                    replace R := hidI (own_below R.out hb')
                    replace T := hidI (hT.below hb)
                    clear CA hb'
                    have Lf := hidI ol
                    obtain ⟨aLf, cLf, rfl⟩ := own_sl ol
                    clear ol
                    cases h4 : (cmpO A (cmpO B D).1).2 with
                    | false =>
                      have C4 := hidI (fun (w1 : World) (u v : Value) (P Q : Nat) (ha : POwn w1 P u A) (hb : POwn w1 Q v (cmpO B D).1) (hT : Tab w1) => compI_own ha hb hT hsa.out hsr.out)
                      unfold CoPost at C4
                      rw [h4] at C4
                      clear h4 hE h2 h3 C2 C3
                      have CA := hidI (C4.out _ _ _ _ _ RA.out R.out T.out)
                      go_wp2_with fail
                      refine CA.out.mono ?_
                      rintro e w15 ⟨vw, rfl, ow, hb'⟩
                      replace hb := hb.trans (hb'.mono hb.size)
                      replace RA := hidI (own_below RA.out hb')
                      replace RB := hidI (own_below RB.out hb')
                      replace X := hidI (own_below X.out hb')
                      replace RC := hidI (own_below RC.out hb')
                      replace R := hidI (own_below R.out hb')
                      replace Lf := hidI (own_below Lf.out hb')
                      replace T := hidI (hT.below hb)
                      clear CA hb'
                      have Wh := hidI ow
                      obtain ⟨aWh, cWh, rfl⟩ := own_sl ow
                      clear ow
                      go_wp2
                      go_ret
                      exact ⟨rfl, hb⟩
                    | true =>
                      have C4 := hidI (fun (w1 : World) (u v : Value) (P Q : Nat) (ha : POwn w1 P u A) (hb : POwn w1 Q v (cmpO B D).1) (hT : Tab w1) => compI_own ha hb hT hsa.out hsr.out)
                      unfold CoPost at C4
                      rw [h4] at C4
                      rw [← hE.out h4] at C4
                      clear h4 hE h2 h3 C2 C3
                      have CA := hidI (C4.out _ _ _ _ _ RA.out R.out T.out)
                      go_wp2_with fail
                      refine CA.out.mono ?_
                      rintro e w15 ⟨vw, rfl, ow, hb'⟩
                      replace hb := hb.trans (hb'.mono hb.size)
                      replace RA := hidI (own_below RA.out hb')
                      replace RB := hidI (own_below RB.out hb')
                      replace X := hidI (own_below X.out hb')
                      replace RC := hidI (own_below RC.out hb')
                      replace R := hidI (own_below R.out hb')
                      replace Lf := hidI (own_below Lf.out hb')
                      replace T := hidI (hT.below hb)
                      clear CA hb'
                      have Wh := hidI ow
                      obtain ⟨aWh, cWh, rfl⟩ := own_sl ow
                      clear ow
                      have CA := hidI (sameOps_own Lf.out Wh.out (by have := g3.out; omega))
                      go_wp2_with fail
                      refine CA.out.mono ?_
                      rintro e w16 ⟨rfl, hb'⟩
                      replace hb := hb.trans (hb'.mono hb.size)
                      replace RA := hidI (own_below RA.out hb')
                      replace RB := hidI (own_below RB.out hb')
                      replace X := hidI (own_below X.out hb')
                      replace RC := hidI (own_below RC.out hb')
                      replace R := hidI (own_below R.out hb')
                      replace Lf := hidI (own_below Lf.out hb')
                      replace Wh := hidI (own_below Wh.out hb')
                      replace T := hidI (hT.below hb)
                      clear CA hb'
                      go_wp2
                      go_ret
                      exact ⟨rfl, hb⟩
              · have hsc : ∀ p ∈ ((([] ++ [⟨(q : Int), ⟨#[]⟩, ⟨#[]⟩⟩]) ++ [⟨0, ⟨#[110, 101, 119]⟩, ⟨#[]⟩⟩]) : List Pt), smP p := by
                  intro p hp
                  simp only [List.nil_append, List.cons_append, List.mem_cons, List.not_mem_nil, or_false] at hp
                  rcases hp with rfl | rfl <;> exact ⟨⟨by show (-1 : Int) ≤ _; simp only; omega, by simp only; omega⟩, Nat.le_trans (show _ ≤ 3 from by simp only; decide) (by decide), Nat.zero_le _⟩
                replace hsc := hidI hsc
                generalize ((([] ++ [⟨(q : Int), ⟨#[]⟩, ⟨#[]⟩⟩]) ++ [⟨0, ⟨#[110, 101, 119]⟩, ⟨#[]⟩⟩]) : List Pt) = D at RC hsc
                replace RA := hidI (own_below RA.out hbc)
                replace RB := hidI (own_below RB.out hbc)
                replace X := hidI (own_below X.out hbc)
                replace hb := hb.trans (hbc.mono hb.size)
                clear hbc
                replace T := hidI (hT.below hb)
                have hD := H3.out D
                have C2 := hidI (fun (w1 : World) (u v : Value) (P Q : Nat) (ha : POwn w1 P u B) (hb : POwn w1 Q v D) (hT : Tab w1) => compI_own ha hb hT hsb.out hsc.out)
                have C3 := hidI (fun (w1 : World) (u v : Value) (P Q : Nat) (ha : POwn w1 P u AB) (hb : POwn w1 Q v D) (hT : Tab w1) => compI_own ha hb hT hsx.out hsc.out)
                unfold CoPost at C2 C3
                clear H3
                cases h2 : (cmpO B D).2 with
                | false =>
                  cases h3 : (cmpO AB D).2 with
                  | false =>
                    have CA := hidI (C2.out _ _ _ _ _ RB.out RC.out T.out)
                    rw [h2] at CA
                    go_wp2_with fail
                    refine CA.out.mono ?_
                    rintro e w12 ⟨vr, rfl, orr, hb'⟩
                    replace hb := hb.trans (hb'.mono hb.size)
                    replace RA := hidI (own_below RA.out hb')
                    replace RB := hidI (own_below RB.out hb')
                    replace X := hidI (own_below X.out hb')
                    replace RC := hidI (own_below RC.out hb')
                    replace T := hidI (hT.below hb)
                    clear CA hb'
                    have R := hidI orr
                    obtain ⟨aR, cR, rfl⟩ := own_sl orr
                    clear orr
                    have CA := hidI (C3.out _ _ _ _ _ X.out RC.out T.out)
                    rw [h3] at CA
                    go_wp2_with fail
                    refine CA.out.mono ?_
                    rintro e w13 ⟨vl, rfl, ol, hb'⟩
                    replace hb := hb.trans (hb'.mono hb.size)
                    replace RA := hidI (own_below RA.out hb')
                    replace RB := hidI (own_below RB.out hb')
                    replace X := hidI (own_below X.out hb')
                    replace RC := hidI (own_below RC.out hb')
                    replace R := hidI (own_below R.out hb')
                    replace T := hidI (hT.below hb)
                    clear CA hb'
                    have Lf := hidI ol
                    obtain ⟨aLf, cLf, rfl⟩ := own_sl ol
                    clear ol
                    go_wp2
                    go_ret
                    exact ⟨rfl, hb⟩
                  | true =>
                    have CA := hidI (C2.out _ _ _ _ _ RB.out RC.out T.out)
                    rw [h2] at CA
                    go_wp2_with fail
                    refine CA.out.mono ?_
                    rintro e w12 ⟨vr, rfl, orr, hb'⟩
                    replace hb := hb.trans (hb'.mono hb.size)
                    replace RA := hidI (own_below RA.out hb')
                    replace RB := hidI (own_below RB.out hb')
                    replace X := hidI (own_below X.out hb')
                    replace RC := hidI (own_below RC.out hb')
                    replace T := hidI (hT.below hb)
                    clear CA hb'
                    have R := hidI orr
                    obtain ⟨aR, cR, rfl⟩ := own_sl orr
                    clear orr
                    have CA := hidI (C3.out _ _ _ _ _ X.out RC.out T.out)
                    rw [h3] at CA
                    go_wp2_with fail
                    refine CA.out.mono ?_
                    rintro e w13 ⟨vl, rfl, ol, hb'⟩
                    replace hb := hb.trans (hb'.mono hb.size)
                    replace RA := hidI (own_below RA.out hb')
                    replace RB := hidI (own_below RB.out hb')
                    replace X := hidI (own_below X.out hb')
                    replace RC := hidI (own_below RC.out hb')
                    replace R := hidI (own_below R.out hb')
                    replace T := hidI (hT.below hb)
                    clear CA hb'
                    have Lf := hidI ol
                    obtain ⟨aLf, cLf, rfl⟩ := own_sl ol
                    clear ol
                    go_wp2
                    go_ret
                    exact ⟨rfl, hb⟩
                | true =>
                  cases h3 : (cmpO AB D).2 with
                  | false =>
                    have CA := hidI (C2.out _ _ _ _ _ RB.out RC.out T.out)
                    rw [h2] at CA
                    go_wp2_with fail
                    refine CA.out.mono ?_
                    rintro e w12 ⟨vr, rfl, orr, hb'⟩
                    replace hb := hb.trans (hb'.mono hb.size)
                    replace RA := hidI (own_below RA.out hb')
                    replace RB := hidI (own_below RB.out hb')
                    replace X := hidI (own_below X.out hb')
                    replace RC := hidI (own_below RC.out hb')
                    replace T := hidI (hT.below hb)
                    clear CA hb'
                    have R := hidI orr
                    obtain ⟨aR, cR, rfl⟩ := own_sl orr
                    clear orr
                    have CA := hidI (C3.out _ _ _ _ _ X.out RC.out T.out)
                    rw [h3] at CA
                    go_wp2_with fail
                    refine CA.out.mono ?_
                    rintro e w13 ⟨vl, rfl, ol, hb'⟩
                    replace hb := hb.trans (hb'.mono hb.size)
                    replace RA := hidI (own_below RA.out hb')
                    replace RB := hidI (own_below RB.out hb')
                    replace X := hidI (own_below X.out hb')
                    replace RC := hidI (own_below RC.out hb')
                    replace R := hidI (own_below R.out hb')
                    replace T := hidI (hT.below hb)
                    clear CA hb'
                    have Lf := hidI ol
                    obtain ⟨aLf, cLf, rfl⟩ := own_sl ol
                    clear ol
                    go_wp2
                    go_ret
                    exact ⟨rfl, hb⟩
                  | true =>
                    have g2 := (cmp_yes h2).2.2.2.1
                    have g3 := (goodO_le (cmp_yes h3).2.2.2.1).1
                    have hE := hidI (hD h2 h3)
                    have hsr := hidI (gq_smP g2)
                    clear hD g2
                    replace g3 := hidI g3
                    have CA := hidI (C2.out _ _ _ _ _ RB.out RC.out T.out)
                    rw [h2] at CA
                    go_wp2_with fail
                    refine CA.out.mono ?_
                    rintro e w12 ⟨vr, rfl, orr, hb'⟩
                    replace hb := hb.trans (hb'.mono hb.size)
                    replace RA := hidI (own_below RA.out hb')
                    replace RB := hidI (own_below RB.out hb')
                    replace X := hidI (own_below X.out hb')
                    replace RC := hidI (own_below RC.out hb')
                    replace T := hidI (hT.below hb)
                    clear CA hb'
                    have R := hidI orr
                    obtain ⟨aR, cR, rfl⟩ := own_sl orr
                    clear orr
                    have CA := hidI (C3.out _ _ _ _ _ X.out RC.out T.out)
                    rw [h3] at CA
                    go_wp2_with fail
                    refine CA.out.mono ?_
                    rintro e w13 ⟨vl, rfl, ol, hb'⟩
                    replace hb := hb.trans (hb'.mono hb.size)
                    replace RA := hidI (own_below RA.out hb')
                    replace RB := hidI (own_below RB.out hb')
                    replace X := hidI (own_below X.out hb')
                    replace RC := hidI (own_below RC.out hb')
                    replace R := hidI (own_below R.out hb')
                    replace T := hidI (hT.below hb)
                    clear CA hb'
                    have Lf := hidI ol
                    obtain ⟨aLf, cLf, rfl⟩ := own_sl ol
                    clear ol
                    cases h4 : (cmpO A (cmpO B D).1).2 with
                    | false =>
                      have C4 := hidI (fun (w1 : World) (u v : Value) (P Q : Nat) (ha : POwn w1 P u A) (hb : POwn w1 Q v (cmpO B D).1) (hT : Tab w1) => compI_own ha hb hT hsa.out hsr.out)
                      unfold CoPost at C4
                      rw [h4] at C4
                      clear h4 hE h2 h3 C2 C3
                      have CA := hidI (C4.out _ _ _ _ _ RA.out R.out T.out)
                      go_wp2_with fail
                      refine CA.out.mono ?_
                      rintro e w14 ⟨vw, rfl, ow, hb'⟩
                      replace hb := hb.trans (hb'.mono hb.size)
                      replace RA := hidI (own_below RA.out hb')
                      replace RB := hidI (own_below RB.out hb')
                      replace X := hidI (own_below X.out hb')
                      replace RC := hidI (own_below RC.out hb')
                      replace R := hidI (own_below R.out hb')
                      replace Lf := hidI (own_below Lf.out hb')
                      replace T := hidI (hT.below hb)
                      clear CA hb'
                      have Wh := hidI ow
                      obtain ⟨aWh, cWh, rfl⟩ := own_sl ow
                      clear ow
                      go_wp2
                      go_ret
                      exact ⟨rfl, hb⟩
                    | true =>
                      have C4 := hidI (fun (w1 : World) (u v : Value) (P Q : Nat) (ha : POwn w1 P u A) (hb : POwn w1 Q v (cmpO B D).1) (hT : Tab w1) => compI_own ha hb hT hsa.out hsr.out)
                      unfold CoPost at C4
                      rw [h4] at C4
                      rw [← hE.out h4] at C4
                      clear h4 hE h2 h3 C2 C3
                      have CA := hidI (C4.out _ _ _ _ _ RA.out R.out T.out)
                      go_wp2_with fail
                      refine CA.out.mono ?_
                      rintro e w14 ⟨vw, rfl, ow, hb'⟩
                      replace hb := hb.trans (hb'.mono hb.size)
                      replace RA := hidI (own_below RA.out hb')
                      replace RB := hidI (own_below RB.out hb')
                      replace X := hidI (own_below X.out hb')
                      replace RC := hidI (own_below RC.out hb')
                      replace R := hidI (own_below R.out hb')
                      replace Lf := hidI (own_below Lf.out hb')
                      replace T := hidI (hT.below hb)
                      clear CA hb'
                      have Wh := hidI ow
                      obtain ⟨aWh, cWh, rfl⟩ := own_sl ow
                      clear ow
                      have CA := hidI (sameOps_own Lf.out Wh.out (by have := g3.out; omega))
                      go_wp2_with fail
                      refine CA.out.mono ?_
                      rintro e w15 ⟨rfl, hb'⟩
                      replace hb := hb.trans (hb'.mono hb.size)
                      replace RA := hidI (own_below RA.out hb')
                      replace RB := hidI (own_below RB.out hb')
                      replace X := hidI (own_below X.out hb')
                      replace RC := hidI (own_below RC.out hb')
                      replace R := hidI (own_below R.out hb')
                      replace Lf := hidI (own_below Lf.out hb')
                      replace Wh := hidI (own_below Wh.out hb')
                      replace T := hidI (hT.below hb)
                      clear CA hb'
                      go_wp2
                      go_ret
                      exact ⟨rfl, hb⟩
            · go_wp2_with (at_builtin; refine wpList_append_loc _ rfl _ _ 23 rfl w7.heap.size 30 i0 (.agg #[.int .i64 0, .string ⟨#[]⟩, .string ⟨#[]⟩]) 3 40 Tryd.underlying23 hi0 hz0 hz1 hz2 rfl (by decide) _ _ _ rfl (World.ownsRow.alloc RC.out _) ⟨w8.heap.size, 0, none⟩ 1 1 [.int .i64 0, .string ⟨#[110, 101, 119]⟩, .string ⟨#[]⟩] rfl rfl ?_ ?_ ?_ ?_ ?_ ?_)
              · exact cell3_at _ _ (by simp) _ _ _ _
              · intro u hu; simp at hu; rcases hu with rfl | rfl | rfl <;> rfl
              · unfold maxLen; simp
              · simp
              · have := hbc.size; simp; omega
              rintro vc w9 hown' hgrow -
              have hbd := below_append hbc RC.out hbc.size hgrow
              replace RC := hidI (POwn.app (l := []) (p := ⟨0, ⟨#[110, 101, 119]⟩, ⟨#[]⟩⟩) hown')
              clear hown' hgrow hbc
              have hbc := hbd
              clear hbd
              have CN := hidI (numberOf_any (code_on hco2.out (hb.trans (hbc.mono hb.size))) (by show len2 ≤ 1048576; omega))
              go_wp2_with fail
              refine CN.out.mono ?_
              rintro e w10 ⟨xr, rfl, -, hb'⟩
              replace RC := hidI (own_below RC.out hb')
              replace hbc := hbc.trans (hb'.mono hbc.size)
              clear CN hb'
              obtain ⟨r, hr⟩ : ∃ r : Nat, r = xr % (mk + 1) := ⟨_, rfl⟩
              have hrk : r ≤ mk := by have := Nat.mod_lt xr (show 0 < mk + 1 by omega); omega
              have hri : (xr : Int) % ((mk : Int) + 1) = (r : Int) := by rw [hr, Int.natCast_emod, Int.natCast_add]; rfl
              clear hr
              obtain ⟨m, hm⟩ : ∃ m : Nat, (mk : Int) - (r : Int) = (m : Int) := ⟨mk - r, by omega⟩
              by_cases hm0 : 0 < m
              · go_wp2_with (at_builtin; refine wpList_append_loc _ rfl _ _ 23 rfl w7.heap.size 30 i0 (.agg #[.int .i64 0, .string ⟨#[]⟩, .string ⟨#[]⟩]) 3 40 Tryd.underlying23 hi0 hz0 hz1 hz2 rfl (by decide) _ _ _ rfl (World.ownsRow.alloc RC.out _) ⟨w10.heap.size, 0, none⟩ 1 1 [.int .i64 (m : Int), .string ⟨#[]⟩, .string ⟨#[]⟩] rfl rfl ?_ ?_ ?_ ?_ ?_ ?_)
                · exact cell3_at _ _ (by simp) _ _ _ _
                · intro u hu; simp at hu; rcases hu with rfl | rfl | rfl <;> rfl
                · unfold maxLen; simp
                · simp
                · have := hbc.size; simp; omega
                rintro vc w11 hown' hgrow -
                have hbd := below_append hbc RC.out hbc.size hgrow
                replace RC := hidI (POwn.app (l := ([] ++ [⟨0, ⟨#[110, 101, 119]⟩, ⟨#[]⟩⟩])) (p := ⟨(m : Int), ⟨#[]⟩, ⟨#[]⟩⟩) hown')
                clear hown' hgrow hbc
                have hbc := hbd
                clear hbd
                have hsc : ∀ p ∈ ((([] ++ [⟨0, ⟨#[110, 101, 119]⟩, ⟨#[]⟩⟩]) ++ [⟨(m : Int), ⟨#[]⟩, ⟨#[]⟩⟩]) : List Pt), smP p := by
                  intro p hp
                  simp only [List.nil_append, List.cons_append, List.mem_cons, List.not_mem_nil, or_false] at hp
                  rcases hp with rfl | rfl <;> exact ⟨⟨by show (-1 : Int) ≤ _; simp only; omega, by simp only; omega⟩, Nat.le_trans (show _ ≤ 3 from by simp only; decide) (by decide), Nat.zero_le _⟩
                replace hsc := hidI hsc
                generalize ((([] ++ [⟨0, ⟨#[110, 101, 119]⟩, ⟨#[]⟩⟩]) ++ [⟨(m : Int), ⟨#[]⟩, ⟨#[]⟩⟩]) : List Pt) = D at RC hsc
                replace RA := hidI (own_below RA.out hbc)
                replace RB := hidI (own_below RB.out hbc)
                replace X := hidI (own_below X.out hbc)
                replace hb := hb.trans (hbc.mono hb.size)
                clear hbc
                replace T := hidI (hT.below hb)
                have hD := H3.out D
                have C2 := hidI (fun (w1 : World) (u v : Value) (P Q : Nat) (ha : POwn w1 P u B) (hb : POwn w1 Q v D) (hT : Tab w1) => compI_own ha hb hT hsb.out hsc.out)
                have C3 := hidI (fun (w1 : World) (u v : Value) (P Q : Nat) (ha : POwn w1 P u AB) (hb : POwn w1 Q v D) (hT : Tab w1) => compI_own ha hb hT hsx.out hsc.out)
                unfold CoPost at C2 C3
                clear H3
                cases h2 : (cmpO B D).2 with
                | false =>
                  cases h3 : (cmpO AB D).2 with
                  | false =>
                    have CA := hidI (C2.out _ _ _ _ _ RB.out RC.out T.out)
                    rw [h2] at CA
                    go_wp2_with fail
                    refine CA.out.mono ?_
                    rintro e w12 ⟨vr, rfl, orr, hb'⟩
                    replace hb := hb.trans (hb'.mono hb.size)
                    replace RA := hidI (own_below RA.out hb')
                    replace RB := hidI (own_below RB.out hb')
                    replace X := hidI (own_below X.out hb')
                    replace RC := hidI (own_below RC.out hb')
                    replace T := hidI (hT.below hb)
                    clear CA hb'
                    have R := hidI orr
                    obtain ⟨aR, cR, rfl⟩ := own_sl orr
                    clear orr
                    have CA := hidI (C3.out _ _ _ _ _ X.out RC.out T.out)
                    rw [h3] at CA
                    go_wp2_with fail
                    refine CA.out.mono ?_
                    rintro e w13 ⟨vl, rfl, ol, hb'⟩
                    replace hb := hb.trans (hb'.mono hb.size)
                    replace RA := hidI (own_below RA.out hb')
                    replace RB := hidI (own_below RB.out hb')
                    replace X := hidI (own_below X.out hb')
                    replace RC := hidI (own_below RC.out hb')
                    replace R := hidI (own_below R.out hb')
                    replace T := hidI (hT.below hb)
                    clear CA hb'
                    have Lf := hidI ol
                    obtain ⟨aLf, cLf, rfl⟩ := own_sl ol
                    clear ol
                    go_wp2
                    go_ret
                    exact ⟨rfl, hb⟩
                  | true =>
                    have CA := hidI (C2.out _ _ _ _ _ RB.out RC.out T.out)
                    rw [h2] at CA
                    go_wp2_with fail
                    refine CA.out.mono ?_
                    rintro e w12 ⟨vr, rfl, orr, hb'⟩
                    replace hb := hb.trans (hb'.mono hb.size)
                    replace RA := hidI (own_below RA.out hb')
                    replace RB := hidI (own_below RB.out hb')
                    replace X := hidI (own_below X.out hb')
                    replace RC := hidI (own_below RC.out hb')
                    replace T := hidI (hT.below hb)
                    clear CA hb'
                    have R := hidI orr
                    obtain ⟨aR, cR, rfl⟩ := own_sl orr
                    clear orr
                    have CA := hidI (C3.out _ _ _ _ _ X.out RC.out T.out)
                    rw [h3] at CA
                    go_wp2_with fail
                    refine CA.out.mono ?_
                    rintro e w13 ⟨vl, rfl, ol, hb'⟩
                    replace hb := hb.trans (hb'.mono hb.size)
                    replace RA := hidI (own_below RA.out hb')
                    replace RB := hidI (own_below RB.out hb')
                    replace X := hidI (own_below X.out hb')
                    replace RC := hidI (own_below RC.out hb')
                    replace R := hidI (own_below R.out hb')
                    replace T := hidI (hT.below hb)
                    clear CA hb'
                    have Lf := hidI ol
                    obtain ⟨aLf, cLf, rfl⟩ := own_sl ol
                    clear ol
                    go_wp2
                    go_ret
                    exact ⟨rfl, hb⟩
                | true =>
                  cases h3 : (cmpO AB D).2 with
                  | false =>
                    have CA := hidI (C2.out _ _ _ _ _ RB.out RC.out T.out)
                    rw [h2] at CA
                    go_wp2_with fail
                    refine CA.out.mono ?_
                    rintro e w12 ⟨vr, rfl, orr, hb'⟩
                    replace hb := hb.trans (hb'.mono hb.size)
                    replace RA := hidI (own_below RA.out hb')
                    replace RB := hidI (own_below RB.out hb')
                    replace X := hidI (own_below X.out hb')
                    replace RC := hidI (own_below RC.out hb')
                    replace T := hidI (hT.below hb)
                    clear CA hb'
                    have R := hidI orr
                    obtain ⟨aR, cR, rfl⟩ := own_sl orr
                    clear orr
                    have CA := hidI (C3.out _ _ _ _ _ X.out RC.out T.out)
                    rw [h3] at CA
                    go_wp2_with fail
                    refine CA.out.mono ?_
                    rintro e w13 ⟨vl, rfl, ol, hb'⟩
                    replace hb := hb.trans (hb'.mono hb.size)
                    replace RA := hidI (own_below RA.out hb')
                    replace RB := hidI (own_below RB.out hb')
                    replace X := hidI (own_below X.out hb')
                    replace RC := hidI (own_below RC.out hb')
                    replace R := hidI (own_below R.out hb')
                    replace T := hidI (hT.below hb)
                    clear CA hb'
                    have Lf := hidI ol
                    obtain ⟨aLf, cLf, rfl⟩ := own_sl ol
                    clear ol
                    go_wp2
                    go_ret
                    exact ⟨rfl, hb⟩
                  | true =>
                    have g2 := (cmp_yes h2).2.2.2.1
                    have g3 := (goodO_le (cmp_yes h3).2.2.2.1).1
                    have hE := hidI (hD h2 h3)
                    have hsr := hidI (gq_smP g2)
                    clear hD g2
                    replace g3 := hidI g3
                    have CA := hidI (C2.out _ _ _ _ _ RB.out RC.out T.out)
                    rw [h2] at CA
                    go_wp2_with fail
                    refine CA.out.mono ?_
                    rintro e w12 ⟨vr, rfl, orr, hb'⟩
                    replace hb := hb.trans (hb'.mono hb.size)
                    replace RA := hidI (own_below RA.out hb')
                    replace RB := hidI (own_below RB.out hb')
                    replace X := hidI (own_below X.out hb')
                    replace RC := hidI (own_below RC.out hb')
                    replace T := hidI (hT.below hb)
                    clear CA hb'
                    have R := hidI orr
                    obtain ⟨aR, cR, rfl⟩ := own_sl orr
                    clear orr
                    have CA := hidI (C3.out _ _ _ _ _ X.out RC.out T.out)
                    rw [h3] at CA
                    go_wp2_with fail
                    refine CA.out.mono ?_
                    rintro e w13 ⟨vl, rfl, ol, hb'⟩
                    replace hb := hb.trans (hb'.mono hb.size)
                    replace RA := hidI (own_below RA.out hb')
                    replace RB := hidI (own_below RB.out hb')
                    replace X := hidI (own_below X.out hb')
                    replace RC := hidI (own_below RC.out hb')
                    replace R := hidI (own_below R.out hb')
                    replace T := hidI (hT.below hb)
                    clear CA hb'
                    have Lf := hidI ol
                    obtain ⟨aLf, cLf, rfl⟩ := own_sl ol
                    clear ol
                    cases h4 : (cmpO A (cmpO B D).1).2 with
                    | false =>
                      have C4 := hidI (fun (w1 : World) (u v : Value) (P Q : Nat) (ha : POwn w1 P u A) (hb : POwn w1 Q v (cmpO B D).1) (hT : Tab w1) => compI_own ha hb hT hsa.out hsr.out)
                      unfold CoPost at C4
                      rw [h4] at C4
                      clear h4 hE h2 h3 C2 C3
                      have CA := hidI (C4.out _ _ _ _ _ RA.out R.out T.out)
                      go_wp2_with fail
                      refine CA.out.mono ?_
                      rintro e w14 ⟨vw, rfl, ow, hb'⟩
                      replace hb := hb.trans (hb'.mono hb.size)
                      replace RA := hidI (own_below RA.out hb')
                      replace RB := hidI (own_below RB.out hb')
                      replace X := hidI (own_below X.out hb')
                      replace RC := hidI (own_below RC.out hb')
                      replace R := hidI (own_below R.out hb')
                      replace Lf := hidI (own_below Lf.out hb')
                      replace T := hidI (hT.below hb)
                      clear CA hb'
                      have Wh := hidI ow
                      obtain ⟨aWh, cWh, rfl⟩ := own_sl ow
                      clear ow
                      go_wp2
                      go_ret
                      exact ⟨rfl, hb⟩
                    | true =>
                      have C4 := hidI (fun (w1 : World) (u v : Value) (P Q : Nat) (ha : POwn w1 P u A) (hb : POwn w1 Q v (cmpO B D).1) (hT : Tab w1) => compI_own ha hb hT hsa.out hsr.out)
                      unfold CoPost at C4
                      rw [h4] at C4
                      rw [← hE.out h4] at C4
                      clear h4 hE h2 h3 C2 C3
                      have CA := hidI (C4.out _ _ _ _ _ RA.out R.out T.out)
                      go_wp2_with fail
                      refine CA.out.mono ?_
                      rintro e w14 ⟨vw, rfl, ow, hb'⟩
                      replace hb := hb.trans (hb'.mono hb.size)
                      replace RA := hidI (own_below RA.out hb')
                      replace RB := hidI (own_below RB.out hb')
                      replace X := hidI (own_below X.out hb')
                      replace RC := hidI (own_below RC.out hb')
                      replace R := hidI (own_below R.out hb')
                      replace Lf := hidI (own_below Lf.out hb')
                      replace T := hidI (hT.below hb)
                      clear CA hb'
                      have Wh := hidI ow
                      obtain ⟨aWh, cWh, rfl⟩ := own_sl ow
                      clear ow
                      have CA := hidI (sameOps_own Lf.out Wh.out (by have := g3.out; omega))
                      go_wp2_with fail
                      refine CA.out.mono ?_
                      rintro e w15 ⟨rfl, hb'⟩
                      replace hb := hb.trans (hb'.mono hb.size)
                      replace RA := hidI (own_below RA.out hb')
                      replace RB := hidI (own_below RB.out hb')
                      replace X := hidI (own_below X.out hb')
                      replace RC := hidI (own_below RC.out hb')
                      replace R := hidI (own_below R.out hb')
                      replace Lf := hidI (own_below Lf.out hb')
                      replace Wh := hidI (own_below Wh.out hb')
                      replace T := hidI (hT.below hb)
                      clear CA hb'
                      go_wp2
                      go_ret
                      exact ⟨rfl, hb⟩
              · have hsc : ∀ p ∈ (([] ++ [⟨0, ⟨#[110, 101, 119]⟩, ⟨#[]⟩⟩]) : List Pt), smP p := by
                  intro p hp
                  simp only [List.nil_append, List.mem_cons, List.not_mem_nil, or_false] at hp
                  subst hp; exact ⟨⟨by show (-1 : Int) ≤ _; simp only; omega, by simp only; omega⟩, Nat.le_trans (show _ ≤ 3 from by simp only; decide) (by decide), Nat.zero_le _⟩
                replace hsc := hidI hsc
                generalize (([] ++ [⟨0, ⟨#[110, 101, 119]⟩, ⟨#[]⟩⟩]) : List Pt) = D at RC hsc
                replace RA := hidI (own_below RA.out hbc)
                replace RB := hidI (own_below RB.out hbc)
                replace X := hidI (own_below X.out hbc)
                replace hb := hb.trans (hbc.mono hb.size)
                clear hbc
                replace T := hidI (hT.below hb)
                have hD := H3.out D
                have C2 := hidI (fun (w1 : World) (u v : Value) (P Q : Nat) (ha : POwn w1 P u B) (hb : POwn w1 Q v D) (hT : Tab w1) => compI_own ha hb hT hsb.out hsc.out)
                have C3 := hidI (fun (w1 : World) (u v : Value) (P Q : Nat) (ha : POwn w1 P u AB) (hb : POwn w1 Q v D) (hT : Tab w1) => compI_own ha hb hT hsx.out hsc.out)
                unfold CoPost at C2 C3
                clear H3
                cases h2 : (cmpO B D).2 with
                | false =>
                  cases h3 : (cmpO AB D).2 with
                  | false =>
                    have CA := hidI (C2.out _ _ _ _ _ RB.out RC.out T.out)
                    rw [h2] at CA
                    go_wp2_with fail
                    refine CA.out.mono ?_
                    rintro e w11 ⟨vr, rfl, orr, hb'⟩
                    replace hb := hb.trans (hb'.mono hb.size)
                    replace RA := hidI (own_below RA.out hb')
                    replace RB := hidI (own_below RB.out hb')
                    replace X := hidI (own_below X.out hb')
                    replace RC := hidI (own_below RC.out hb')
                    replace T := hidI (hT.below hb)
                    clear CA hb'
                    have R := hidI orr
                    obtain ⟨aR, cR, rfl⟩ := own_sl orr
                    clear orr
                    have CA := hidI (C3.out _ _ _ _ _ X.out RC.out T.out)
                    rw [h3] at CA
                    go_wp2_with fail
                    refine CA.out.mono ?_
                    rintro e w12 ⟨vl, rfl, ol, hb'⟩
                    replace hb := hb.trans (hb'.mono hb.size)
                    replace RA := hidI (own_below RA.out hb')
                    replace RB := hidI (own_below RB.out hb')
                    replace X := hidI (own_below X.out hb')
                    replace RC := hidI (own_below RC.out hb')
                    replace R := hidI (own_below R.out hb')
                    replace T := hidI (hT.below hb)
                    clear CA hb'
                    have Lf := hidI ol
                    obtain ⟨aLf, cLf, rfl⟩ := own_sl ol
                    clear ol
                    go_wp2
                    go_ret
                    exact ⟨rfl, hb⟩
                  | true =>
                    have CA := hidI (C2.out _ _ _ _ _ RB.out RC.out T.out)
                    rw [h2] at CA
                    go_wp2_with fail
                    refine CA.out.mono ?_
                    rintro e w11 ⟨vr, rfl, orr, hb'⟩
                    replace hb := hb.trans (hb'.mono hb.size)
                    replace RA := hidI (own_below RA.out hb')
                    replace RB := hidI (own_below RB.out hb')
                    replace X := hidI (own_below X.out hb')
                    replace RC := hidI (own_below RC.out hb')
                    replace T := hidI (hT.below hb)
                    clear CA hb'
                    have R := hidI orr
                    obtain ⟨aR, cR, rfl⟩ := own_sl orr
                    clear orr
                    have CA := hidI (C3.out _ _ _ _ _ X.out RC.out T.out)
                    rw [h3] at CA
                    go_wp2_with fail
                    refine CA.out.mono ?_
                    rintro e w12 ⟨vl, rfl, ol, hb'⟩
                    replace hb := hb.trans (hb'.mono hb.size)
                    replace RA := hidI (own_below RA.out hb')
                    replace RB := hidI (own_below RB.out hb')
                    replace X := hidI (own_below X.out hb')
                    replace RC := hidI (own_below RC.out hb')
                    replace R := hidI (own_below R.out hb')
                    replace T := hidI (hT.below hb)
                    clear CA hb'
                    have Lf := hidI ol
                    obtain ⟨aLf, cLf, rfl⟩ := own_sl ol
                    clear ol
                    go_wp2
                    go_ret
                    exact ⟨rfl, hb⟩
                | true =>
                  cases h3 : (cmpO AB D).2 with
                  | false =>
                    have CA := hidI (C2.out _ _ _ _ _ RB.out RC.out T.out)
                    rw [h2] at CA
                    go_wp2_with fail
                    refine CA.out.mono ?_
                    rintro e w11 ⟨vr, rfl, orr, hb'⟩
                    replace hb := hb.trans (hb'.mono hb.size)
                    replace RA := hidI (own_below RA.out hb')
                    replace RB := hidI (own_below RB.out hb')
                    replace X := hidI (own_below X.out hb')
                    replace RC := hidI (own_below RC.out hb')
                    replace T := hidI (hT.below hb)
                    clear CA hb'
                    have R := hidI orr
                    obtain ⟨aR, cR, rfl⟩ := own_sl orr
                    clear orr
                    have CA := hidI (C3.out _ _ _ _ _ X.out RC.out T.out)
                    rw [h3] at CA
                    go_wp2_with fail
                    refine CA.out.mono ?_
                    rintro e w12 ⟨vl, rfl, ol, hb'⟩
                    replace hb := hb.trans (hb'.mono hb.size)
                    replace RA := hidI (own_below RA.out hb')
                    replace RB := hidI (own_below RB.out hb')
                    replace X := hidI (own_below X.out hb')
                    replace RC := hidI (own_below RC.out hb')
                    replace R := hidI (own_below R.out hb')
                    replace T := hidI (hT.below hb)
                    clear CA hb'
                    have Lf := hidI ol
                    obtain ⟨aLf, cLf, rfl⟩ := own_sl ol
                    clear ol
                    go_wp2
                    go_ret
                    exact ⟨rfl, hb⟩
                  | true =>
                    have g2 := (cmp_yes h2).2.2.2.1
                    have g3 := (goodO_le (cmp_yes h3).2.2.2.1).1
                    have hE := hidI (hD h2 h3)
                    have hsr := hidI (gq_smP g2)
                    clear hD g2
                    replace g3 := hidI g3
                    have CA := hidI (C2.out _ _ _ _ _ RB.out RC.out T.out)
                    rw [h2] at CA
                    go_wp2_with fail
                    refine CA.out.mono ?_
                    rintro e w11 ⟨vr, rfl, orr, hb'⟩
                    replace hb := hb.trans (hb'.mono hb.size)
                    replace RA := hidI (own_below RA.out hb')
                    replace RB := hidI (own_below RB.out hb')
                    replace X := hidI (own_below X.out hb')
                    replace RC := hidI (own_below RC.out hb')
                    replace T := hidI (hT.below hb)
                    clear CA hb'
                    have R := hidI orr
                    obtain ⟨aR, cR, rfl⟩ := own_sl orr
                    clear orr
                    have CA := hidI (C3.out _ _ _ _ _ X.out RC.out T.out)
                    rw [h3] at CA
                    go_wp2_with fail
                    refine CA.out.mono ?_
                    rintro e w12 ⟨vl, rfl, ol, hb'⟩
                    replace hb := hb.trans (hb'.mono hb.size)
                    replace RA := hidI (own_below RA.out hb')
                    replace RB := hidI (own_below RB.out hb')
                    replace X := hidI (own_below X.out hb')
                    replace RC := hidI (own_below RC.out hb')
                    replace R := hidI (own_below R.out hb')
                    replace T := hidI (hT.below hb)
                    clear CA hb'
                    have Lf := hidI ol
                    obtain ⟨aLf, cLf, rfl⟩ := own_sl ol
                    clear ol
                    cases h4 : (cmpO A (cmpO B D).1).2 with
                    | false =>
                      have C4 := hidI (fun (w1 : World) (u v : Value) (P Q : Nat) (ha : POwn w1 P u A) (hb : POwn w1 Q v (cmpO B D).1) (hT : Tab w1) => compI_own ha hb hT hsa.out hsr.out)
                      unfold CoPost at C4
                      rw [h4] at C4
                      clear h4 hE h2 h3 C2 C3
                      have CA := hidI (C4.out _ _ _ _ _ RA.out R.out T.out)
                      go_wp2_with fail
                      refine CA.out.mono ?_
                      rintro e w13 ⟨vw, rfl, ow, hb'⟩
                      replace hb := hb.trans (hb'.mono hb.size)
                      replace RA := hidI (own_below RA.out hb')
                      replace RB := hidI (own_below RB.out hb')
                      replace X := hidI (own_below X.out hb')
                      replace RC := hidI (own_below RC.out hb')
                      replace R := hidI (own_below R.out hb')
                      replace Lf := hidI (own_below Lf.out hb')
                      replace T := hidI (hT.below hb)
                      clear CA hb'
                      have Wh := hidI ow
                      obtain ⟨aWh, cWh, rfl⟩ := own_sl ow
                      clear ow
                      go_wp2
                      go_ret
                      exact ⟨rfl, hb⟩
                    | true =>
                      have C4 := hidI (fun (w1 : World) (u v : Value) (P Q : Nat) (ha : POwn w1 P u A) (hb : POwn w1 Q v (cmpO B D).1) (hT : Tab w1) => compI_own ha hb hT hsa.out hsr.out)
                      unfold CoPost at C4
                      rw [h4] at C4
                      rw [← hE.out h4] at C4
                      clear h4 hE h2 h3 C2 C3
                      have CA := hidI (C4.out _ _ _ _ _ RA.out R.out T.out)
                      go_wp2_with fail
                      refine CA.out.mono ?_
                      rintro e w13 ⟨vw, rfl, ow, hb'⟩
                      replace hb := hb.trans (hb'.mono hb.size)
                      replace RA := hidI (own_below RA.out hb')
                      replace RB := hidI (own_below RB.out hb')
                      replace X := hidI (own_below X.out hb')
                      replace RC := hidI (own_below RC.out hb')
                      replace R := hidI (own_below R.out hb')
                      replace Lf := hidI (own_below Lf.out hb')
                      replace T := hidI (hT.below hb)
                      clear CA hb'
                      have Wh := hidI ow
                      obtain ⟨aWh, cWh, rfl⟩ := own_sl ow
                      clear ow
                      have CA := hidI (sameOps_own Lf.out Wh.out (by have := g3.out; omega))
                      go_wp2_with fail
                      refine CA.out.mono ?_
                      rintro e w14 ⟨rfl, hb'⟩
                      replace hb := hb.trans (hb'.mono hb.size)
                      replace RA := hidI (own_below RA.out hb')
                      replace RB := hidI (own_below RB.out hb')
                      replace X := hidI (own_below X.out hb')
                      replace RC := hidI (own_below RC.out hb')
                      replace R := hidI (own_below R.out hb')
                      replace Lf := hidI (own_below Lf.out hb')
                      replace Wh := hidI (own_below Wh.out hb')
                      replace T := hidI (hT.below hb)
                      clear CA hb'
                      go_wp2
                      go_ret
                      exact ⟨rfl, hb⟩
          | true =>
            have CA := hidI (CB.out _ _ _ RB.out T.out)
            go_wp2_with fail
            refine CA.out.mono ?_
            rintro e w5 ⟨rfl, hb'⟩
            replace hb := hb.trans (hb'.mono hb.size)
            replace RA := hidI (own_below RA.out hb')
            replace RB := hidI (own_below RB.out hb')
            replace X := hidI (own_below X.out hb')
            replace T := hidI (hT.below hb)
            clear CA hb'
            have CA := hidI (CX.out _ _ _ X.out T.out)
            go_wp2_with fail
            refine CA.out.mono ?_
            rintro e w6 ⟨rfl, hb'⟩
            replace hb := hb.trans (hb'.mono hb.size)
            replace RA := hidI (own_below RA.out hb')
            replace RB := hidI (own_below RB.out hb')
            replace X := hidI (own_below X.out hb')
            replace T := hidI (hT.below hb)
            clear CA hb'
            have CA := hidI (sizesS_own RB.out T.out hsb.out)
            rw [hsM] at CA
            go_wp2_with fail
            refine CA.out.mono ?_
            rintro e w7 ⟨rfl, hb'⟩
            replace hb := hb.trans (hb'.mono hb.size)
            replace RA := hidI (own_below RA.out hb')
            replace RB := hidI (own_below RB.out hb')
            replace X := hidI (own_below X.out hb')
            replace T := hidI (hT.below hb)
            clear CA hb'
            clear CB CX
            obtain ⟨i0, hi0, hz0, hz1, hz2⟩ := info_parts Tryd.infoPart
            have RC := own_fresh w7
            have hbc : Below w7.heap.size w7 (w7.alloc (.cells #[] 30)) := (Below.refl _ _).alloc (Nat.le_refl _) _
            obtain ⟨wn, hwn⟩ : ∃ wn, w7.alloc (.cells #[] 30) = wn := ⟨_, rfl⟩
            rw [hwn] at RC hbc
            replace RC := hidI RC
            have CN := hidI (numberOf_any (code_on hco2.out (hb.trans (hbc.mono hb.size))) (by show len2 ≤ 1048576; omega))
            go_wp2_with fail
            clear hwn
            refine CN.out.mono ?_
            rintro e w8 ⟨xq, rfl, -, hb'⟩
            replace RC := hidI (own_below RC.out hb')
            replace hbc := hbc.trans (hb'.mono hbc.size)
            clear CN hb'
            obtain ⟨q, hq⟩ : ∃ q : Nat, q = xq % (mk + 1) := ⟨_, rfl⟩
            have hqk : q ≤ mk := by have := Nat.mod_lt xq (show 0 < mk + 1 by omega); omega
            have hqi : (xq : Int) % ((mk : Int) + 1) = (q : Int) := by rw [hq, Int.natCast_emod, Int.natCast_add]; rfl
            clear hq
            by_cases hq0 : 0 < q
            · go_wp2_with (at_builtin; refine wpList_append_loc _ rfl _ _ 23 rfl w7.heap.size 30 i0 (.agg #[.int .i64 0, .string ⟨#[]⟩, .string ⟨#[]⟩]) 3 40 Tryd.underlying23 hi0 hz0 hz1 hz2 rfl (by decide) _ _ _ rfl (World.ownsRow.alloc RC.out _) ⟨w8.heap.size, 0, none⟩ 1 1 [.int .i64 (q : Int), .string ⟨#[]⟩, .string ⟨#[]⟩] rfl rfl ?_ ?_ ?_ ?_ ?_ ?_)
              · exact cell3_at _ _ (by simp) _ _ _ _
              · intro u hu; simp at hu; rcases hu with rfl | rfl | rfl <;> rfl
              · unfold maxLen; simp
              · simp
              · have := hbc.size; simp; omega
              rintro vc w9 hown' hgrow -
              have hbd := below_append hbc RC.out hbc.size hgrow
              replace RC := hidI (POwn.app (l := []) (p := ⟨(q : Int), ⟨#[]⟩, ⟨#[]⟩⟩) hown')
              clear hown' hgrow hbc
              have hbc := hbd
              clear hbd
              go_wp2_with (at_builtin; refine wpList_append_loc _ rfl _ _ 23 rfl w7.heap.size 30 i0 (.agg #[.int .i64 0, .string ⟨#[]⟩, .string ⟨#[]⟩]) 3 40 Tryd.underlying23 hi0 hz0 hz1 hz2 rfl (by decide) _ _ _ rfl (World.ownsRow.alloc RC.out _) ⟨w9.heap.size, 0, none⟩ 1 1 [.int .i64 0, .string ⟨#[110, 101, 119]⟩, .string ⟨#[]⟩] rfl rfl ?_ ?_ ?_ ?_ ?_ ?_)
              · exact cell3_at _ _ (by simp) _ _ _ _
              · intro u hu; simp at hu; rcases hu with rfl | rfl | rfl <;> rfl
              · unfold maxLen; simp
              · simp
              · have := hbc.size; simp; omega
              rintro vc w10 hown' hgrow -
              have hbd := below_append hbc RC.out hbc.size hgrow
              replace RC := hidI (POwn.app (l := ([] ++ [⟨(q : Int), ⟨#[]⟩, ⟨#[]⟩⟩])) (p := ⟨0, ⟨#[110, 101, 119]⟩, ⟨#[]⟩⟩) hown')
              clear hown' hgrow hbc
              have hbc := hbd
              clear hbd
              have CN := hidI (numberOf_any (code_on hco2.out (hb.trans (hbc.mono hb.size))) (by show len2 ≤ 1048576; omega))
              go_wp2_with fail
              refine CN.out.mono ?_
              rintro e w11 ⟨xr, rfl, -, hb'⟩
              replace RC := hidI (own_below RC.out hb')
              replace hbc := hbc.trans (hb'.mono hbc.size)
              clear CN hb'
              obtain ⟨r, hr⟩ : ∃ r : Nat, r = xr % (mk + 1) := ⟨_, rfl⟩
              have hrk : r ≤ mk := by have := Nat.mod_lt xr (show 0 < mk + 1 by omega); omega
              have hri : (xr : Int) % ((mk : Int) + 1) = (r : Int) := by rw [hr, Int.natCast_emod, Int.natCast_add]; rfl
              clear hr
              obtain ⟨m, hm⟩ : ∃ m : Nat, (mk : Int) - (r : Int) = (m : Int) := ⟨mk - r, by omega⟩
              by_cases hm0 : 0 < m
              · go_wp2_with (at_builtin; refine wpList_append_loc _ rfl _ _ 23 rfl w7.heap.size 30 i0 (.agg #[.int .i64 0, .string ⟨#[]⟩, .string ⟨#[]⟩]) 3 40 Tryd.underlying23 hi0 hz0 hz1 hz2 rfl (by decide) _ _ _ rfl (World.ownsRow.alloc RC.out _) ⟨w11.heap.size, 0, none⟩ 1 1 [.int .i64 (m : Int), .string ⟨#[]⟩, .string ⟨#[]⟩] rfl rfl ?_ ?_ ?_ ?_ ?_ ?_)
                · exact cell3_at _ _ (by simp) _ _ _ _
                · intro u hu; simp at hu; rcases hu with rfl | rfl | rfl <;> rfl
                · unfold maxLen; simp
                · simp
                · have := hbc.size; simp; omega
                rintro vc w12 hown' hgrow -
                have hbd := below_append hbc RC.out hbc.size hgrow
                replace RC := hidI (POwn.app (l := (([] ++ [⟨(q : Int), ⟨#[]⟩, ⟨#[]⟩⟩]) ++ [⟨0, ⟨#[110, 101, 119]⟩, ⟨#[]⟩⟩])) (p := ⟨(m : Int), ⟨#[]⟩, ⟨#[]⟩⟩) hown')
                clear hown' hgrow hbc
                have hbc := hbd
                clear hbd
                have hsc : ∀ p ∈ (((([] ++ [⟨(q : Int), ⟨#[]⟩, ⟨#[]⟩⟩]) ++ [⟨0, ⟨#[110, 101, 119]⟩, ⟨#[]⟩⟩]) ++ [⟨(m : Int), ⟨#[]⟩, ⟨#[]⟩⟩]) : List Pt), smP p := by
                  intro p hp
                  simp only [List.nil_append, List.cons_append, List.mem_cons, List.not_mem_nil, or_false] at hp
                  rcases hp with rfl | rfl | rfl <;> exact ⟨⟨by show (-1 : Int) ≤ _; simp only; omega, by simp only; omega⟩, Nat.le_trans (show _ ≤ 3 from by simp only; decide) (by decide), Nat.zero_le _⟩
                replace hsc := hidI hsc
                generalize (((([] ++ [⟨(q : Int), ⟨#[]⟩, ⟨#[]⟩⟩]) ++ [⟨0, ⟨#[110, 101, 119]⟩, ⟨#[]⟩⟩]) ++ [⟨(m : Int), ⟨#[]⟩, ⟨#[]⟩⟩]) : List Pt) = D at RC hsc
                replace RA := hidI (own_below RA.out hbc)
                replace RB := hidI (own_below RB.out hbc)
                replace X := hidI (own_below X.out hbc)
                replace hb := hb.trans (hbc.mono hb.size)
                clear hbc
                replace T := hidI (hT.below hb)
                have hD := H3.out D
                have C2 := hidI (fun (w1 : World) (u v : Value) (P Q : Nat) (ha : POwn w1 P u B) (hb : POwn w1 Q v D) (hT : Tab w1) => compI_own ha hb hT hsb.out hsc.out)
                have C3 := hidI (fun (w1 : World) (u v : Value) (P Q : Nat) (ha : POwn w1 P u AB) (hb : POwn w1 Q v D) (hT : Tab w1) => compI_own ha hb hT hsx.out hsc.out)
                unfold CoPost at C2 C3
                clear H3
                cases h2 : (cmpO B D).2 with
                | false =>
                  cases h3 : (cmpO AB D).2 with
                  | false =>
                    have CA := hidI (C2.out _ _ _ _ _ RB.out RC.out T.out)
                    rw [h2] at CA
                    go_wp2_with fail
                    refine CA.out.mono ?_
                    rintro e w13 ⟨vr, rfl, orr, hb'⟩
                    replace hb := hb.trans (hb'.mono hb.size)
                    replace RA := hidI (own_below RA.out hb')
                    replace RB := hidI (own_below RB.out hb')
                    replace X := hidI (own_below X.out hb')
                    replace RC := hidI (own_below RC.out hb')
                    replace T := hidI (hT.below hb)
                    clear CA hb'
                    have R := hidI orr
                    obtain ⟨aR, cR, rfl⟩ := own_sl orr
                    clear orr
                    have CA := hidI (C3.out _ _ _ _ _ X.out RC.out T.out)
                    rw [h3] at CA
                    go_wp2_with fail
                    refine CA.out.mono ?_
                    rintro e w14 ⟨vl, rfl, ol, hb'⟩
                    replace hb := hb.trans (hb'.mono hb.size)
                    replace RA := hidI (own_below RA.out hb')
                    replace RB := hidI (own_below RB.out hb')
                    replace X := hidI (own_below X.out hb')
                    replace RC := hidI (own_below RC.out hb')
                    replace R := hidI (own_below R.out hb')
                    replace T := hidI (hT.below hb)
                    clear CA hb'
                    have Lf := hidI ol
                    obtain ⟨aLf, cLf, rfl⟩ := own_sl ol
                    clear ol
                    go_wp2
                    go_ret
                    exact ⟨rfl, hb⟩
                  | true =>
                    have CA := hidI (C2.out _ _ _ _ _ RB.out RC.out T.out)
                    rw [h2] at CA
                    go_wp2_with fail
                    refine CA.out.mono ?_
                    rintro e w13 ⟨vr, rfl, orr, hb'⟩
                    replace hb := hb.trans (hb'.mono hb.size)
                    replace RA := hidI (own_below RA.out hb')
                    replace RB := hidI (own_below RB.out hb')
                    replace X := hidI (own_below X.out hb')
                    replace RC := hidI (own_below RC.out hb')
                    replace T := hidI (hT.below hb)
                    clear CA hb'
                    have R := hidI orr
                    obtain ⟨aR, cR, rfl⟩ := own_sl orr
                    clear orr
                    have CA := hidI (C3.out _ _ _ _ _ X.out RC.out T.out)
                    rw [h3] at CA
                    go_wp2_with fail
                    refine CA.out.mono ?_
                    rintro e w14 ⟨vl, rfl, ol, hb'⟩
                    replace hb := hb.trans (hb'.mono hb.size)
                    replace RA := hidI (own_below RA.out hb')
                    replace RB := hidI (own_below RB.out hb')
                    replace X := hidI (own_below X.out hb')
                    replace RC := hidI (own_below RC.out hb')
                    replace R := hidI (own_below R.out hb')
                    replace T := hidI (hT.below hb)
                    clear CA hb'
                    have Lf := hidI ol
                    obtain ⟨aLf, cLf, rfl⟩ := own_sl ol
                    clear ol
                    go_wp2
                    go_ret
                    exact ⟨rfl, hb⟩
                | true =>
                  cases h3 : (cmpO AB D).2 with
                  | false =>
                    have CA := hidI (C2.out _ _ _ _ _ RB.out RC.out T.out)
                    rw [h2] at CA
                    go_wp2_with fail
                    refine CA.out.mono ?_
                    rintro e w13 ⟨vr, rfl, orr, hb'⟩
                    replace hb := hb.trans (hb'.mono hb.size)
                    replace RA := hidI (own_below RA.out hb')
                    replace RB := hidI (own_below RB.out hb')
                    replace X := hidI (own_below X.out hb')
                    replace RC := hidI (own_below RC.out hb')
                    replace T := hidI (hT.below hb)
                    clear CA hb'
                    have R := hidI orr
                    obtain ⟨aR, cR, rfl⟩ := own_sl orr
                    clear orr
                    have CA := hidI (C3.out _ _ _ _ _ X.out RC.out T.out)
                    rw [h3] at CA
                    go_wp2_with fail
                    refine CA.out.mono ?_
                    rintro e w14 ⟨vl, rfl, ol, hb'⟩
                    replace hb := hb.trans (hb'.mono hb.size)
                    replace RA := hidI (own_below RA.out hb')
                    replace RB := hidI (own_below RB.out hb')
                    replace X := hidI (own_below X.out hb')
                    replace RC := hidI (own_below RC.out hb')
                    replace R := hidI (own_below R.out hb')
                    replace T := hidI (hT.below hb)
                    clear CA hb'
                    have Lf := hidI ol
                    obtain ⟨aLf, cLf, rfl⟩ := own_sl ol
                    clear ol
                    go_wp2
                    go_ret
                    exact ⟨rfl, hb⟩
                  | true =>
                    have g2 := (cmp_yes h2).2.2.2.1
                    have g3 := (goodO_le (cmp_yes h3).2.2.2.1).1
                    have hE := hidI (hD h2 h3)
                    have hsr := hidI (gq_smP g2)
                    clear hD g2
                    replace g3 := hidI g3
                    have CA := hidI (C2.out _ _ _ _ _ RB.out RC.out T.out)
                    rw [h2] at CA
                    go_wp2_with fail
                    refine CA.out.mono ?_
                    rintro e w13 ⟨vr, rfl, orr, hb'⟩
                    replace hb := hb.trans (hb'.mono hb.size)
                    replace RA := hidI (own_below RA.out hb')
                    replace RB := hidI (own_below RB.out hb')
                    replace X := hidI (own_below X.out hb')
                    replace RC := hidI (own_below RC.out hb')
                    replace T := hidI (hT.below hb)
                    clear CA hb'
                    have R := hidI orr
                    obtain ⟨aR, cR, rfl⟩ := own_sl orr
                    clear orr
                    have CA := hidI (C3.out _ _ _ _ _ X.out RC.out T.out)
                    rw [h3] at CA
                    go_wp2_with fail
                    refine CA.out.mono ?_
                    rintro e w14 ⟨vl, rfl, ol, hb'⟩
                    replace hb := hb.trans (hb'.mono hb.size)
                    replace RA := hidI (own_below RA.out hb')
                    replace RB := hidI (own_below RB.out hb')
                    replace X := hidI (own_below X.out hb')
                    replace RC := hidI (own_below RC.out hb')
                    replace R := hidI (own_below R.out hb')
                    replace T := hidI (hT.below hb)
                    clear CA hb'
                    have Lf := hidI ol
                    obtain ⟨aLf, cLf, rfl⟩ := own_sl ol
                    clear ol
                    cases h4 : (cmpO A (cmpO B D).1).2 with
                    | false =>
                      have C4 := hidI (fun (w1 : World) (u v : Value) (P Q : Nat) (ha : POwn w1 P u A) (hb : POwn w1 Q v (cmpO B D).1) (hT : Tab w1) => compI_own ha hb hT hsa.out hsr.out)
                      unfold CoPost at C4
                      rw [h4] at C4
                      clear h4 hE h2 h3 C2 C3
                      have CA := hidI (C4.out _ _ _ _ _ RA.out R.out T.out)
                      go_wp2_with fail
                      refine CA.out.mono ?_
                      rintro e w15 ⟨vw, rfl, ow, hb'⟩
                      replace hb := hb.trans (hb'.mono hb.size)
                      replace RA := hidI (own_below RA.out hb')
                      replace RB := hidI (own_below RB.out hb')
                      replace X := hidI (own_below X.out hb')
                      replace RC := hidI (own_below RC.out hb')
                      replace R := hidI (own_below R.out hb')
                      replace Lf := hidI (own_below Lf.out hb')
                      replace T := hidI (hT.below hb)
                      clear CA hb'
                      have Wh := hidI ow
                      obtain ⟨aWh, cWh, rfl⟩ := own_sl ow
                      clear ow
                      go_wp2
                      go_ret
                      exact ⟨rfl, hb⟩
                    | true =>
                      have C4 := hidI (fun (w1 : World) (u v : Value) (P Q : Nat) (ha : POwn w1 P u A) (hb : POwn w1 Q v (cmpO B D).1) (hT : Tab w1) => compI_own ha hb hT hsa.out hsr.out)
                      unfold CoPost at C4
                      rw [h4] at C4
                      rw [← hE.out h4] at C4
                      clear h4 hE h2 h3 C2 C3
                      have CA := hidI (C4.out _ _ _ _ _ RA.out R.out T.out)
                      go_wp2_with fail
                      refine CA.out.mono ?_
                      rintro e w15 ⟨vw, rfl, ow, hb'⟩
                      replace hb := hb.trans (hb'.mono hb.size)
                      replace RA := hidI (own_below RA.out hb')
                      replace RB := hidI (own_below RB.out hb')
                      replace X := hidI (own_below X.out hb')
                      replace RC := hidI (own_below RC.out hb')
                      replace R := hidI (own_below R.out hb')
                      replace Lf := hidI (own_below Lf.out hb')
                      replace T := hidI (hT.below hb)
                      clear CA hb'
                      have Wh := hidI ow
                      obtain ⟨aWh, cWh, rfl⟩ := own_sl ow
                      clear ow
                      have CA := hidI (sameOps_own Lf.out Wh.out (by have := g3.out; omega))
                      go_wp2_with fail
                      refine CA.out.mono ?_
                      rintro e w16 ⟨rfl, hb'⟩
                      replace hb := hb.trans (hb'.mono hb.size)
                      replace RA := hidI (own_below RA.out hb')
                      replace RB := hidI (own_below RB.out hb')
                      replace X := hidI (own_below X.out hb')
                      replace RC := hidI (own_below RC.out hb')
                      replace R := hidI (own_below R.out hb')
                      replace Lf := hidI (own_below Lf.out hb')
                      replace Wh := hidI (own_below Wh.out hb')
                      replace T := hidI (hT.below hb)
                      clear CA hb'
                      go_wp2
                      go_ret
                      exact ⟨rfl, hb⟩
              · have hsc : ∀ p ∈ ((([] ++ [⟨(q : Int), ⟨#[]⟩, ⟨#[]⟩⟩]) ++ [⟨0, ⟨#[110, 101, 119]⟩, ⟨#[]⟩⟩]) : List Pt), smP p := by
                  intro p hp
                  simp only [List.nil_append, List.cons_append, List.mem_cons, List.not_mem_nil, or_false] at hp
                  rcases hp with rfl | rfl <;> exact ⟨⟨by show (-1 : Int) ≤ _; simp only; omega, by simp only; omega⟩, Nat.le_trans (show _ ≤ 3 from by simp only; decide) (by decide), Nat.zero_le _⟩
                replace hsc := hidI hsc
                generalize ((([] ++ [⟨(q : Int), ⟨#[]⟩, ⟨#[]⟩⟩]) ++ [⟨0, ⟨#[110, 101, 119]⟩, ⟨#[]⟩⟩]) : List Pt) = D at RC hsc
                replace RA := hidI (own_below RA.out hbc)
                replace RB := hidI (own_below RB.out hbc)
                replace X := hidI (own_below X.out hbc)
                replace hb := hb.trans (hbc.mono hb.size)
                clear hbc
                replace T := hidI (hT.below hb)
                have hD := H3.out D
                have C2 := hidI (fun (w1 : World) (u v : Value) (P Q : Nat) (ha : POwn w1 P u B) (hb : POwn w1 Q v D) (hT : Tab w1) => compI_own ha hb hT hsb.out hsc.out)
                have C3 := hidI (fun (w1 : World) (u v : Value) (P Q : Nat) (ha : POwn w1 P u AB) (hb : POwn w1 Q v D) (hT : Tab w1) => compI_own ha hb hT hsx.out hsc.out)
                unfold CoPost at C2 C3
                clear H3
                cases h2 : (cmpO B D).2 with
                | false =>
                  cases h3 : (cmpO AB D).2 with
                  | false =>
                    have CA := hidI (C2.out _ _ _ _ _ RB.out RC.out T.out)
                    rw [h2] at CA
                    go_wp2_with fail
                    refine CA.out.mono ?_
                    rintro e w12 ⟨vr, rfl, orr, hb'⟩
                    replace hb := hb.trans (hb'.mono hb.size)
                    replace RA := hidI (own_below RA.out hb')
                    replace RB := hidI (own_below RB.out hb')
                    replace X := hidI (own_below X.out hb')
                    replace RC := hidI (own_below RC.out hb')
                    replace T := hidI (hT.below hb)
                    clear CA hb'
                    have R := hidI orr
                    obtain ⟨aR, cR, rfl⟩ := own_sl orr
                    clear orr
                    have CA := hidI (C3.out _ _ _ _ _ X.out RC.out T.out)
                    rw [h3] at CA
                    go_wp2_with fail
                    refine CA.out.mono ?_
                    rintro e w13 ⟨vl, rfl, ol, hb'⟩
                    replace hb := hb.trans (hb'.mono hb.size)
                    replace RA := hidI (own_below RA.out hb')
                    replace RB := hidI (own_below RB.out hb')
                    replace X := hidI (own_below X.out hb')
                    replace RC := hidI (own_below RC.out hb')
                    replace R := hidI (own_below R.out hb')
                    replace T := hidI (hT.below hb)
                    clear CA hb'
                    have Lf := hidI ol
                    obtain ⟨aLf, cLf, rfl⟩ := own_sl ol
                    clear ol
                    go_wp2
                    go_ret
                    exact ⟨rfl, hb⟩
                  | true =>
                    have CA := hidI (C2.out _ _ _ _ _ RB.out RC.out T.out)
                    rw [h2] at CA
                    go_wp2_with fail
                    refine CA.out.mono ?_
                    rintro e w12 ⟨vr, rfl, orr, hb'⟩
                    replace hb := hb.trans (hb'.mono hb.size)
                    replace RA := hidI (own_below RA.out hb')
                    replace RB := hidI (own_below RB.out hb')
                    replace X := hidI (own_below X.out hb')
                    replace RC := hidI (own_below RC.out hb')
                    replace T := hidI (hT.below hb)
                    clear CA hb'
                    have R := hidI orr
                    obtain ⟨aR, cR, rfl⟩ := own_sl orr
                    clear orr
                    have CA := hidI (C3.out _ _ _ _ _ X.out RC.out T.out)
                    rw [h3] at CA
                    go_wp2_with fail
                    refine CA.out.mono ?_
                    rintro e w13 ⟨vl, rfl, ol, hb'⟩
                    replace hb := hb.trans (hb'.mono hb.size)
                    replace RA := hidI (own_below RA.out hb')
                    replace RB := hidI (own_below RB.out hb')
                    replace X := hidI (own_below X.out hb')
                    replace RC := hidI (own_below RC.out hb')
                    replace R := hidI (own_below R.out hb')
                    replace T := hidI (hT.below hb)
                    clear CA hb'
                    have Lf := hidI ol
                    obtain ⟨aLf, cLf, rfl⟩ := own_sl ol
                    clear ol
                    go_wp2
                    go_ret
                    exact ⟨rfl, hb⟩
                | true =>
                  cases h3 : (cmpO AB D).2 with
                  | false =>
                    have CA := hidI (C2.out _ _ _ _ _ RB.out RC.out T.out)
                    rw [h2] at CA
                    go_wp2_with fail
                    refine CA.out.mono ?_
                    rintro e w12 ⟨vr, rfl, orr, hb'⟩
                    replace hb := hb.trans (hb'.mono hb.size)
                    replace RA := hidI (own_below RA.out hb')
                    replace RB := hidI (own_below RB.out hb')
                    replace X := hidI (own_below X.out hb')
                    replace RC := hidI (own_below RC.out hb')
                    replace T := hidI (hT.below hb)
                    clear CA hb'
                    have R := hidI orr
                    obtain ⟨aR, cR, rfl⟩ := own_sl orr
                    clear orr
                    have CA := hidI (C3.out _ _ _ _ _ X.out RC.out T.out)
                    rw [h3] at CA
                    go_wp2_with fail
                    refine CA.out.mono ?_
                    rintro e w13 ⟨vl, rfl, ol, hb'⟩
                    replace hb := hb.trans (hb'.mono hb.size)
                    replace RA := hidI (own_below RA.out hb')
                    replace RB := hidI (own_below RB.out hb')
                    replace X := hidI (own_below X.out hb')
                    replace RC := hidI (own_below RC.out hb')
                    replace R := hidI (own_below R.out hb')
                    replace T := hidI (hT.below hb)
                    clear CA hb'
                    have Lf := hidI ol
                    obtain ⟨aLf, cLf, rfl⟩ := own_sl ol
                    clear ol
                    go_wp2
                    go_ret
                    exact ⟨rfl, hb⟩
                  | true =>
                    have g2 := (cmp_yes h2).2.2.2.1
                    have g3 := (goodO_le (cmp_yes h3).2.2.2.1).1
                    have hE := hidI (hD h2 h3)
                    have hsr := hidI (gq_smP g2)
                    clear hD g2
                    replace g3 := hidI g3
                    have CA := hidI (C2.out _ _ _ _ _ RB.out RC.out T.out)
                    rw [h2] at CA
                    go_wp2_with fail
                    refine CA.out.mono ?_
                    rintro e w12 ⟨vr, rfl, orr, hb'⟩
                    replace hb := hb.trans (hb'.mono hb.size)
                    replace RA := hidI (own_below RA.out hb')
                    replace RB := hidI (own_below RB.out hb')
                    replace X := hidI (own_below X.out hb')
                    replace RC := hidI (own_below RC.out hb')
                    replace T := hidI (hT.below hb)
                    clear CA hb'
                    have R := hidI orr
                    obtain ⟨aR, cR, rfl⟩ := own_sl orr
                    clear orr
                    have CA := hidI (C3.out _ _ _ _ _ X.out RC.out T.out)
                    rw [h3] at CA
                    go_wp2_with fail
                    refine CA.out.mono ?_
                    rintro e w13 ⟨vl, rfl, ol, hb'⟩
                    replace hb := hb.trans (hb'.mono hb.size)
                    replace RA := hidI (own_below RA.out hb')
                    replace RB := hidI (own_below RB.out hb')
                    replace X := hidI (own_below X.out hb')
                    replace RC := hidI (own_below RC.out hb')
                    replace R := hidI (own_below R.out hb')
                    replace T := hidI (hT.below hb)
                    clear CA hb'
                    have Lf := hidI ol
                    obtain ⟨aLf, cLf, rfl⟩ := own_sl ol
                    clear ol
                    cases h4 : (cmpO A (cmpO B D).1).2 with
                    | false =>
                      have C4 := hidI (fun (w1 : World) (u v : Value) (P Q : Nat) (ha : POwn w1 P u A) (hb : POwn w1 Q v (cmpO B D).1) (hT : Tab w1) => compI_own ha hb hT hsa.out hsr.out)
                      unfold CoPost at C4
                      rw [h4] at C4
                      clear h4 hE h2 h3 C2 C3
                      have CA := hidI (C4.out _ _ _ _ _ RA.out R.out T.out)
                      go_wp2_with fail
                      refine CA.out.mono ?_
                      rintro e w14 ⟨vw, rfl, ow, hb'⟩
                      replace hb := hb.trans (hb'.mono hb.size)
                      replace RA := hidI (own_below RA.out hb')
                      replace RB := hidI (own_below RB.out hb')
                      replace X := hidI (own_below X.out hb')
                      replace RC := hidI (own_below RC.out hb')
                      replace R := hidI (own_below R.out hb')
                      replace Lf := hidI (own_below Lf.out hb')
                      replace T := hidI (hT.below hb)
                      clear CA hb'
                      have Wh := hidI ow
                      obtain ⟨aWh, cWh, rfl⟩ := own_sl ow
                      clear ow
                      go_wp2
                      go_ret
                      exact ⟨rfl, hb⟩
                    | true =>
                      have C4 := hidI (fun (w1 : World) (u v : Value) (P Q : Nat) (ha : POwn w1 P u A) (hb : POwn w1 Q v (cmpO B D).1) (hT : Tab w1) => compI_own ha hb hT hsa.out hsr.out)
                      unfold CoPost at C4
                      rw [h4] at C4
                      rw [← hE.out h4] at C4
                      clear h4 hE h2 h3 C2 C3
                      have CA := hidI (C4.out _ _ _ _ _ RA.out R.out T.out)
                      go_wp2_with fail
                      refine CA.out.mono ?_
                      rintro e w14 ⟨vw, rfl, ow, hb'⟩
                      replace hb := hb.trans (hb'.mono hb.size)
                      replace RA := hidI (own_below RA.out hb')
                      replace RB := hidI (own_below RB.out hb')
                      replace X := hidI (own_below X.out hb')
                      replace RC := hidI (own_below RC.out hb')
                      replace R := hidI (own_below R.out hb')
                      replace Lf := hidI (own_below Lf.out hb')
                      replace T := hidI (hT.below hb)
                      clear CA hb'
                      have Wh := hidI ow
                      obtain ⟨aWh, cWh, rfl⟩ := own_sl ow
                      clear ow
                      have CA := hidI (sameOps_own Lf.out Wh.out (by have := g3.out; omega))
                      go_wp2_with fail
                      refine CA.out.mono ?_
                      rintro e w15 ⟨rfl, hb'⟩
                      replace hb := hb.trans (hb'.mono hb.size)
                      replace RA := hidI (own_below RA.out hb')
                      replace RB := hidI (own_below RB.out hb')
                      replace X := hidI (own_below X.out hb')
                      replace RC := hidI (own_below RC.out hb')
                      replace R := hidI (own_below R.out hb')
                      replace Lf := hidI (own_below Lf.out hb')
                      replace Wh := hidI (own_below Wh.out hb')
                      replace T := hidI (hT.below hb)
                      clear CA hb'
                      go_wp2
                      go_ret
                      exact ⟨rfl, hb⟩
            · go_wp2_with (at_builtin; refine wpList_append_loc _ rfl _ _ 23 rfl w7.heap.size 30 i0 (.agg #[.int .i64 0, .string ⟨#[]⟩, .string ⟨#[]⟩]) 3 40 Tryd.underlying23 hi0 hz0 hz1 hz2 rfl (by decide) _ _ _ rfl (World.ownsRow.alloc RC.out _) ⟨w8.heap.size, 0, none⟩ 1 1 [.int .i64 0, .string ⟨#[110, 101, 119]⟩, .string ⟨#[]⟩] rfl rfl ?_ ?_ ?_ ?_ ?_ ?_)
              · exact cell3_at _ _ (by simp) _ _ _ _
              · intro u hu; simp at hu; rcases hu with rfl | rfl | rfl <;> rfl
              · unfold maxLen; simp
              · simp
              · have := hbc.size; simp; omega
              rintro vc w9 hown' hgrow -
              have hbd := below_append hbc RC.out hbc.size hgrow
              replace RC := hidI (POwn.app (l := []) (p := ⟨0, ⟨#[110, 101, 119]⟩, ⟨#[]⟩⟩) hown')
              clear hown' hgrow hbc
              have hbc := hbd
              clear hbd
              have CN := hidI (numberOf_any (code_on hco2.out (hb.trans (hbc.mono hb.size))) (by show len2 ≤ 1048576; omega))
              go_wp2_with fail
              refine CN.out.mono ?_
              rintro e w10 ⟨xr, rfl, -, hb'⟩
              replace RC := hidI (own_below RC.out hb')
              replace hbc := hbc.trans (hb'.mono hbc.size)
              clear CN hb'
              obtain ⟨r, hr⟩ : ∃ r : Nat, r = xr % (mk + 1) := ⟨_, rfl⟩
              have hrk : r ≤ mk := by have := Nat.mod_lt xr (show 0 < mk + 1 by omega); omega
              have hri : (xr : Int) % ((mk : Int) + 1) = (r : Int) := by rw [hr, Int.natCast_emod, Int.natCast_add]; rfl
              clear hr
              obtain ⟨m, hm⟩ : ∃ m : Nat, (mk : Int) - (r : Int) = (m : Int) := ⟨mk - r, by omega⟩
              by_cases hm0 : 0 < m
              · go_wp2_with (at_builtin; refine wpList_append_loc _ rfl _ _ 23 rfl w7.heap.size 30 i0 (.agg #[.int .i64 0, .string ⟨#[]⟩, .string ⟨#[]⟩]) 3 40 Tryd.underlying23 hi0 hz0 hz1 hz2 rfl (by decide) _ _ _ rfl (World.ownsRow.alloc RC.out _) ⟨w10.heap.size, 0, none⟩ 1 1 [.int .i64 (m : Int), .string ⟨#[]⟩, .string ⟨#[]⟩] rfl rfl ?_ ?_ ?_ ?_ ?_ ?_)
                · exact cell3_at _ _ (by simp) _ _ _ _
                · intro u hu; simp at hu; rcases hu with rfl | rfl | rfl <;> rfl
                · unfold maxLen; simp
                · simp
                · have := hbc.size; simp; omega
                rintro vc w11 hown' hgrow -
                have hbd := below_append hbc RC.out hbc.size hgrow
                replace RC := hidI (POwn.app (l := ([] ++ [⟨0, ⟨#[110, 101, 119]⟩, ⟨#[]⟩⟩])) (p := ⟨(m : Int), ⟨#[]⟩, ⟨#[]⟩⟩) hown')
                clear hown' hgrow hbc
                have hbc := hbd
                clear hbd
                have hsc : ∀ p ∈ ((([] ++ [⟨0, ⟨#[110, 101, 119]⟩, ⟨#[]⟩⟩]) ++ [⟨(m : Int), ⟨#[]⟩, ⟨#[]⟩⟩]) : List Pt), smP p := by
                  intro p hp
                  simp only [List.nil_append, List.cons_append, List.mem_cons, List.not_mem_nil, or_false] at hp
                  rcases hp with rfl | rfl <;> exact ⟨⟨by show (-1 : Int) ≤ _; simp only; omega, by simp only; omega⟩, Nat.le_trans (show _ ≤ 3 from by simp only; decide) (by decide), Nat.zero_le _⟩
                replace hsc := hidI hsc
                generalize ((([] ++ [⟨0, ⟨#[110, 101, 119]⟩, ⟨#[]⟩⟩]) ++ [⟨(m : Int), ⟨#[]⟩, ⟨#[]⟩⟩]) : List Pt) = D at RC hsc
                replace RA := hidI (own_below RA.out hbc)
                replace RB := hidI (own_below RB.out hbc)
                replace X := hidI (own_below X.out hbc)
                replace hb := hb.trans (hbc.mono hb.size)
                clear hbc
                replace T := hidI (hT.below hb)
                have hD := H3.out D
                have C2 := hidI (fun (w1 : World) (u v : Value) (P Q : Nat) (ha : POwn w1 P u B) (hb : POwn w1 Q v D) (hT : Tab w1) => compI_own ha hb hT hsb.out hsc.out)
                have C3 := hidI (fun (w1 : World) (u v : Value) (P Q : Nat) (ha : POwn w1 P u AB) (hb : POwn w1 Q v D) (hT : Tab w1) => compI_own ha hb hT hsx.out hsc.out)
                unfold CoPost at C2 C3
                clear H3
                cases h2 : (cmpO B D).2 with
                | false =>
                  cases h3 : (cmpO AB D).2 with
                  | false =>
                    have CA := hidI (C2.out _ _ _ _ _ RB.out RC.out T.out)
                    rw [h2] at CA
                    go_wp2_with fail
                    refine CA.out.mono ?_
                    rintro e w12 ⟨vr, rfl, orr, hb'⟩
                    replace hb := hb.trans (hb'.mono hb.size)
                    replace RA := hidI (own_below RA.out hb')
                    replace RB := hidI (own_below RB.out hb')
                    replace X := hidI (own_below X.out hb')
                    replace RC := hidI (own_below RC.out hb')
                    replace T := hidI (hT.below hb)
                    clear CA hb'
                    have R := hidI orr
                    obtain ⟨aR, cR, rfl⟩ := own_sl orr
                    clear orr
                    have CA := hidI (C3.out _ _ _ _ _ X.out RC.out T.out)
                    rw [h3] at CA
                    go_wp2_with fail
                    refine CA.out.mono ?_
                    rintro e w13 ⟨vl, rfl, ol, hb'⟩
                    replace hb := hb.trans (hb'.mono hb.size)
                    replace RA := hidI (own_below RA.out hb')
                    replace RB := hidI (own_below RB.out hb')
                    replace X := hidI (own_below X.out hb')
                    replace RC := hidI (own_below RC.out hb')
                    replace R := hidI (own_below R.out hb')
                    replace T := hidI (hT.below hb)
                    clear CA hb'
                    have Lf := hidI ol
                    obtain ⟨aLf, cLf, rfl⟩ := own_sl ol
                    clear ol
                    go_wp2
                    go_ret
                    exact ⟨rfl, hb⟩
                  | true =>
                    have CA := hidI (C2.out _ _ _ _ _ RB.out RC.out T.out)
                    rw [h2] at CA
                    go_wp2_with fail
                    refine CA.out.mono ?_
                    rintro e w12 ⟨vr, rfl, orr, hb'⟩
                    replace hb := hb.trans (hb'.mono hb.size)
                    replace RA := hidI (own_below RA.out hb')
                    replace RB := hidI (own_below RB.out hb')
                    replace X := hidI (own_below X.out hb')
                    replace RC := hidI (own_below RC.out hb')
                    replace T := hidI (hT.below hb)
                    clear CA hb'
                    have R := hidI orr
                    obtain ⟨aR, cR, rfl⟩ := own_sl orr
                    clear orr
                    have CA := hidI (C3.out _ _ _ _ _ X.out RC.out T.out)
                    rw [h3] at CA
                    go_wp2_with fail
                    refine CA.out.mono ?_
                    rintro e w13 ⟨vl, rfl, ol, hb'⟩
                    replace hb := hb.trans (hb'.mono hb.size)
                    replace RA := hidI (own_below RA.out hb')
                    replace RB := hidI (own_below RB.out hb')
                    replace X := hidI (own_below X.out hb')
                    replace RC := hidI (own_below RC.out hb')
                    replace R := hidI (own_below R.out hb')
                    replace T := hidI (hT.below hb)
                    clear CA hb'
                    have Lf := hidI ol
                    obtain ⟨aLf, cLf, rfl⟩ := own_sl ol
                    clear ol
                    go_wp2
                    go_ret
                    exact ⟨rfl, hb⟩
                | true =>
                  cases h3 : (cmpO AB D).2 with
                  | false =>
                    have CA := hidI (C2.out _ _ _ _ _ RB.out RC.out T.out)
                    rw [h2] at CA
                    go_wp2_with fail
                    refine CA.out.mono ?_
                    rintro e w12 ⟨vr, rfl, orr, hb'⟩
                    replace hb := hb.trans (hb'.mono hb.size)
                    replace RA := hidI (own_below RA.out hb')
                    replace RB := hidI (own_below RB.out hb')
                    replace X := hidI (own_below X.out hb')
                    replace RC := hidI (own_below RC.out hb')
                    replace T := hidI (hT.below hb)
                    clear CA hb'
                    have R := hidI orr
                    obtain ⟨aR, cR, rfl⟩ := own_sl orr
                    clear orr
                    have CA := hidI (C3.out _ _ _ _ _ X.out RC.out T.out)
                    rw [h3] at CA
                    go_wp2_with fail
                    refine CA.out.mono ?_
                    rintro e w13 ⟨vl, rfl, ol, hb'⟩
                    replace hb := hb.trans (hb'.mono hb.size)
                    replace RA := hidI (own_below RA.out hb')
                    replace RB := hidI (own_below RB.out hb')
                    replace X := hidI (own_below X.out hb')
                    replace RC := hidI (own_below RC.out hb')
                    replace R := hidI (own_below R.out hb')
                    replace T := hidI (hT.below hb)
                    clear CA hb'
                    have Lf := hidI ol
                    obtain ⟨aLf, cLf, rfl⟩ := own_sl ol
                    clear ol
                    go_wp2
                    go_ret
                    exact ⟨rfl, hb⟩
                  | true =>
                    have g2 := (cmp_yes h2).2.2.2.1
                    have g3 := (goodO_le (cmp_yes h3).2.2.2.1).1
                    have hE := hidI (hD h2 h3)
                    have hsr := hidI (gq_smP g2)
                    clear hD g2
                    replace g3 := hidI g3
                    have CA := hidI (C2.out _ _ _ _ _ RB.out RC.out T.out)
                    rw [h2] at CA
                    go_wp2_with fail
                    refine CA.out.mono ?_
                    rintro e w12 ⟨vr, rfl, orr, hb'⟩
                    replace hb := hb.trans (hb'.mono hb.size)
                    replace RA := hidI (own_below RA.out hb')
                    replace RB := hidI (own_below RB.out hb')
                    replace X := hidI (own_below X.out hb')
                    replace RC := hidI (own_below RC.out hb')
                    replace T := hidI (hT.below hb)
                    clear CA hb'
                    have R := hidI orr
                    obtain ⟨aR, cR, rfl⟩ := own_sl orr
                    clear orr
                    have CA := hidI (C3.out _ _ _ _ _ X.out RC.out T.out)
                    rw [h3] at CA
                    go_wp2_with fail
                    refine CA.out.mono ?_
                    rintro e w13 ⟨vl, rfl, ol, hb'⟩
                    replace hb := hb.trans (hb'.mono hb.size)
                    replace RA := hidI (own_below RA.out hb')
                    replace RB := hidI (own_below RB.out hb')
                    replace X := hidI (own_below X.out hb')
                    replace RC := hidI (own_below RC.out hb')
                    replace R := hidI (own_below R.out hb')
                    replace T := hidI (hT.below hb)
                    clear CA hb'
                    have Lf := hidI ol
                    obtain ⟨aLf, cLf, rfl⟩ := own_sl ol
                    clear ol
                    cases h4 : (cmpO A (cmpO B D).1).2 with
                    | false =>
                      have C4 := hidI (fun (w1 : World) (u v : Value) (P Q : Nat) (ha : POwn w1 P u A) (hb : POwn w1 Q v (cmpO B D).1) (hT : Tab w1) => compI_own ha hb hT hsa.out hsr.out)
                      unfold CoPost at C4
                      rw [h4] at C4
                      clear h4 hE h2 h3 C2 C3
                      have CA := hidI (C4.out _ _ _ _ _ RA.out R.out T.out)
                      go_wp2_with fail
                      refine CA.out.mono ?_
                      rintro e w14 ⟨vw, rfl, ow, hb'⟩
                      replace hb := hb.trans (hb'.mono hb.size)
                      replace RA := hidI (own_below RA.out hb')
                      replace RB := hidI (own_below RB.out hb')
                      replace X := hidI (own_below X.out hb')
                      replace RC := hidI (own_below RC.out hb')
                      replace R := hidI (own_below R.out hb')
                      replace Lf := hidI (own_below Lf.out hb')
                      replace T := hidI (hT.below hb)
                      clear CA hb'
                      have Wh := hidI ow
                      obtain ⟨aWh, cWh, rfl⟩ := own_sl ow
                      clear ow
                      go_wp2
                      go_ret
                      exact ⟨rfl, hb⟩
                    | true =>
                      have C4 := hidI (fun (w1 : World) (u v : Value) (P Q : Nat) (ha : POwn w1 P u A) (hb : POwn w1 Q v (cmpO B D).1) (hT : Tab w1) => compI_own ha hb hT hsa.out hsr.out)
                      unfold CoPost at C4
                      rw [h4] at C4
                      rw [← hE.out h4] at C4
                      clear h4 hE h2 h3 C2 C3
                      have CA := hidI (C4.out _ _ _ _ _ RA.out R.out T.out)
                      go_wp2_with fail
                      refine CA.out.mono ?_
                      rintro e w14 ⟨vw, rfl, ow, hb'⟩
                      replace hb := hb.trans (hb'.mono hb.size)
                      replace RA := hidI (own_below RA.out hb')
                      replace RB := hidI (own_below RB.out hb')
                      replace X := hidI (own_below X.out hb')
                      replace RC := hidI (own_below RC.out hb')
                      replace R := hidI (own_below R.out hb')
                      replace Lf := hidI (own_below Lf.out hb')
                      replace T := hidI (hT.below hb)
                      clear CA hb'
                      have Wh := hidI ow
                      obtain ⟨aWh, cWh, rfl⟩ := own_sl ow
                      clear ow
                      have CA := hidI (sameOps_own Lf.out Wh.out (by have := g3.out; omega))
                      go_wp2_with fail
                      refine CA.out.mono ?_
                      rintro e w15 ⟨rfl, hb'⟩
                      replace hb := hb.trans (hb'.mono hb.size)
                      replace RA := hidI (own_below RA.out hb')
                      replace RB := hidI (own_below RB.out hb')
                      replace X := hidI (own_below X.out hb')
                      replace RC := hidI (own_below RC.out hb')
                      replace R := hidI (own_below R.out hb')
                      replace Lf := hidI (own_below Lf.out hb')
                      replace Wh := hidI (own_below Wh.out hb')
                      replace T := hidI (hT.below hb)
                      clear CA hb'
                      go_wp2
                      go_ret
                      exact ⟨rfl, hb⟩
              · have hsc : ∀ p ∈ (([] ++ [⟨0, ⟨#[110, 101, 119]⟩, ⟨#[]⟩⟩]) : List Pt), smP p := by
                  intro p hp
                  simp only [List.nil_append, List.mem_cons, List.not_mem_nil, or_false] at hp
                  subst hp; exact ⟨⟨by show (-1 : Int) ≤ _; simp only; omega, by simp only; omega⟩, Nat.le_trans (show _ ≤ 3 from by simp only; decide) (by decide), Nat.zero_le _⟩
                replace hsc := hidI hsc
                generalize (([] ++ [⟨0, ⟨#[110, 101, 119]⟩, ⟨#[]⟩⟩]) : List Pt) = D at RC hsc
                replace RA := hidI (own_below RA.out hbc)
                replace RB := hidI (own_below RB.out hbc)
                replace X := hidI (own_below X.out hbc)
                replace hb := hb.trans (hbc.mono hb.size)
                clear hbc
                replace T := hidI (hT.below hb)
                have hD := H3.out D
                have C2 := hidI (fun (w1 : World) (u v : Value) (P Q : Nat) (ha : POwn w1 P u B) (hb : POwn w1 Q v D) (hT : Tab w1) => compI_own ha hb hT hsb.out hsc.out)
                have C3 := hidI (fun (w1 : World) (u v : Value) (P Q : Nat) (ha : POwn w1 P u AB) (hb : POwn w1 Q v D) (hT : Tab w1) => compI_own ha hb hT hsx.out hsc.out)
                unfold CoPost at C2 C3
                clear H3
                cases h2 : (cmpO B D).2 with
                | false =>
                  cases h3 : (cmpO AB D).2 with
                  | false =>
                    have CA := hidI (C2.out _ _ _ _ _ RB.out RC.out T.out)
                    rw [h2] at CA
                    go_wp2_with fail
                    refine CA.out.mono ?_
                    rintro e w11 ⟨vr, rfl, orr, hb'⟩
                    replace hb := hb.trans (hb'.mono hb.size)
                    replace RA := hidI (own_below RA.out hb')
                    replace RB := hidI (own_below RB.out hb')
                    replace X := hidI (own_below X.out hb')
                    replace RC := hidI (own_below RC.out hb')
                    replace T := hidI (hT.below hb)
                    clear CA hb'
                    have R := hidI orr
                    obtain ⟨aR, cR, rfl⟩ := own_sl orr
                    clear orr
                    have CA := hidI (C3.out _ _ _ _ _ X.out RC.out T.out)
                    rw [h3] at CA
                    go_wp2_with fail
                    refine CA.out.mono ?_
                    rintro e w12 ⟨vl, rfl, ol, hb'⟩
                    replace hb := hb.trans (hb'.mono hb.size)
                    replace RA := hidI (own_below RA.out hb')
                    replace RB := hidI (own_below RB.out hb')
                    replace X := hidI (own_below X.out hb')
                    replace RC := hidI (own_below RC.out hb')
                    replace R := hidI (own_below R.out hb')
                    replace T := hidI (hT.below hb)
                    clear CA hb'
                    have Lf := hidI ol
                    obtain ⟨aLf, cLf, rfl⟩ := own_sl ol
                    clear ol
                    go_wp2
                    go_ret
                    exact ⟨rfl, hb⟩
                  | true =>
                    have CA := hidI (C2.out _ _ _ _ _ RB.out RC.out T.out)
                    rw [h2] at CA
                    go_wp2_with fail
                    refine CA.out.mono ?_
                    rintro e w11 ⟨vr, rfl, orr, hb'⟩
                    replace hb := hb.trans (hb'.mono hb.size)
                    replace RA := hidI (own_below RA.out hb')
                    replace RB := hidI (own_below RB.out hb')
                    replace X := hidI (own_below X.out hb')
                    replace RC := hidI (own_below RC.out hb')
                    replace T := hidI (hT.below hb)
                    clear CA hb'
                    have R := hidI orr
                    obtain ⟨aR, cR, rfl⟩ := own_sl orr
                    clear orr
                    have CA := hidI (C3.out _ _ _ _ _ X.out RC.out T.out)
                    rw [h3] at CA
                    go_wp2_with fail
                    refine CA.out.mono ?_
                    rintro e w12 ⟨vl, rfl, ol, hb'⟩
                    replace hb := hb.trans (hb'.mono hb.size)
                    replace RA := hidI (own_below RA.out hb')
                    replace RB := hidI (own_below RB.out hb')
                    replace X := hidI (own_below X.out hb')
                    replace RC := hidI (own_below RC.out hb')
                    replace R := hidI (own_below R.out hb')
                    replace T := hidI (hT.below hb)
                    clear CA hb'
                    have Lf := hidI ol
                    obtain ⟨aLf, cLf, rfl⟩ := own_sl ol
                    clear ol
                    go_wp2
                    go_ret
                    exact ⟨rfl, hb⟩
                | true =>
                  cases h3 : (cmpO AB D).2 with
                  | false =>
                    have CA := hidI (C2.out _ _ _ _ _ RB.out RC.out T.out)
                    rw [h2] at CA
                    go_wp2_with fail
                    refine CA.out.mono ?_
                    rintro e w11 ⟨vr, rfl, orr, hb'⟩
                    replace hb := hb.trans (hb'.mono hb.size)
                    replace RA := hidI (own_below RA.out hb')
                    replace RB := hidI (own_below RB.out hb')
                    replace X := hidI (own_below X.out hb')
                    replace RC := hidI (own_below RC.out hb')
                    replace T := hidI (hT.below hb)
                    clear CA hb'
                    have R := hidI orr
                    obtain ⟨aR, cR, rfl⟩ := own_sl orr
                    clear orr
                    have CA := hidI (C3.out _ _ _ _ _ X.out RC.out T.out)
                    rw [h3] at CA
                    go_wp2_with fail
                    refine CA.out.mono ?_
                    rintro e w12 ⟨vl, rfl, ol, hb'⟩
                    replace hb := hb.trans (hb'.mono hb.size)
                    replace RA := hidI (own_below RA.out hb')
                    replace RB := hidI (own_below RB.out hb')
                    replace X := hidI (own_below X.out hb')
                    replace RC := hidI (own_below RC.out hb')
                    replace R := hidI (own_below R.out hb')
                    replace T := hidI (hT.below hb)
                    clear CA hb'
                    have Lf := hidI ol
                    obtain ⟨aLf, cLf, rfl⟩ := own_sl ol
                    clear ol
                    go_wp2
                    go_ret
                    exact ⟨rfl, hb⟩
                  | true =>
                    have g2 := (cmp_yes h2).2.2.2.1
                    have g3 := (goodO_le (cmp_yes h3).2.2.2.1).1
                    have hE := hidI (hD h2 h3)
                    have hsr := hidI (gq_smP g2)
                    clear hD g2
                    replace g3 := hidI g3
                    have CA := hidI (C2.out _ _ _ _ _ RB.out RC.out T.out)
                    rw [h2] at CA
                    go_wp2_with fail
                    refine CA.out.mono ?_
                    rintro e w11 ⟨vr, rfl, orr, hb'⟩
                    replace hb := hb.trans (hb'.mono hb.size)
                    replace RA := hidI (own_below RA.out hb')
                    replace RB := hidI (own_below RB.out hb')
                    replace X := hidI (own_below X.out hb')
                    replace RC := hidI (own_below RC.out hb')
                    replace T := hidI (hT.below hb)
                    clear CA hb'
                    have R := hidI orr
                    obtain ⟨aR, cR, rfl⟩ := own_sl orr
                    clear orr
                    have CA := hidI (C3.out _ _ _ _ _ X.out RC.out T.out)
                    rw [h3] at CA
                    go_wp2_with fail
                    refine CA.out.mono ?_
                    rintro e w12 ⟨vl, rfl, ol, hb'⟩
                    replace hb := hb.trans (hb'.mono hb.size)
                    replace RA := hidI (own_below RA.out hb')
                    replace RB := hidI (own_below RB.out hb')
                    replace X := hidI (own_below X.out hb')
                    replace RC := hidI (own_below RC.out hb')
                    replace R := hidI (own_below R.out hb')
                    replace T := hidI (hT.below hb)
                    clear CA hb'
                    have Lf := hidI ol
                    obtain ⟨aLf, cLf, rfl⟩ := own_sl ol
                    clear ol
                    cases h4 : (cmpO A (cmpO B D).1).2 with
                    | false =>
                      have C4 := hidI (fun (w1 : World) (u v : Value) (P Q : Nat) (ha : POwn w1 P u A) (hb : POwn w1 Q v (cmpO B D).1) (hT : Tab w1) => compI_own ha hb hT hsa.out hsr.out)
                      unfold CoPost at C4
                      rw [h4] at C4
                      clear h4 hE h2 h3 C2 C3
                      have CA := hidI (C4.out _ _ _ _ _ RA.out R.out T.out)
                      go_wp2_with fail
                      refine CA.out.mono ?_
                      rintro e w13 ⟨vw, rfl, ow, hb'⟩
                      replace hb := hb.trans (hb'.mono hb.size)
                      replace RA := hidI (own_below RA.out hb')
                      replace RB := hidI (own_below RB.out hb')
                      replace X := hidI (own_below X.out hb')
                      replace RC := hidI (own_below RC.out hb')
                      replace R := hidI (own_below R.out hb')
                      replace Lf := hidI (own_below Lf.out hb')
                      replace T := hidI (hT.below hb)
                      clear CA hb'
                      have Wh := hidI ow
                      obtain ⟨aWh, cWh, rfl⟩ := own_sl ow
                      clear ow
                      go_wp2
                      go_ret
                      exact ⟨rfl, hb⟩
                    | true =>
                      have C4 := hidI (fun (w1 : World) (u v : Value) (P Q : Nat) (ha : POwn w1 P u A) (hb : POwn w1 Q v (cmpO B D).1) (hT : Tab w1) => compI_own ha hb hT hsa.out hsr.out)
                      unfold CoPost at C4
                      rw [h4] at C4
                      rw [← hE.out h4] at C4
                      clear h4 hE h2 h3 C2 C3
                      have CA := hidI (C4.out _ _ _ _ _ RA.out R.out T.out)
                      go_wp2_with fail
                      refine CA.out.mono ?_
                      rintro e w13 ⟨vw, rfl, ow, hb'⟩
                      replace hb := hb.trans (hb'.mono hb.size)
                      replace RA := hidI (own_below RA.out hb')
                      replace RB := hidI (own_below RB.out hb')
                      replace X := hidI (own_below X.out hb')
                      replace RC := hidI (own_below RC.out hb')
                      replace R := hidI (own_below R.out hb')
                      replace Lf := hidI (own_below Lf.out hb')
                      replace T := hidI (hT.below hb)
                      clear CA hb'
                      have Wh := hidI ow
                      obtain ⟨aWh, cWh, rfl⟩ := own_sl ow
                      clear ow
                      have CA := hidI (sameOps_own Lf.out Wh.out (by have := g3.out; omega))
                      go_wp2_with fail
                      refine CA.out.mono ?_
                      rintro e w14 ⟨rfl, hb'⟩
                      replace hb := hb.trans (hb'.mono hb.size)
                      replace RA := hidI (own_below RA.out hb')
                      replace RB := hidI (own_below RB.out hb')
                      replace X := hidI (own_below X.out hb')
                      replace RC := hidI (own_below RC.out hb')
                      replace R := hidI (own_below R.out hb')
                      replace Lf := hidI (own_below Lf.out hb')
                      replace Wh := hidI (own_below Wh.out hb')
                      replace T := hidI (hT.below hb)
                      clear CA hb'
                      go_wp2
                      go_ret
                      exact ⟨rfl, hb⟩
  · go_enter Tryd.func3, Tryd.ntmps3
    go_wp2
    go_ret
    exact ⟨rfl, Below.refl _ _⟩
end Go.Proofs.YtfobkjoinjphdaaDoor
