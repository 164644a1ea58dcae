/- The law FnMarks: marks stay good behind a change and are no more than they were, what is marked has the style and no more is covered than that, and what is cut has it not. -/
import Derived.Test.YtbooongkbninhaaDoorMkAll
set_option linter.unusedVariables false
namespace Go.Proofs.YtbooongkbninhaaDoor
open Go.RowKit
open Doc1

theorem rsB_yes {ok : Bool} {L : List Mk} (h : RsB ok L = true) : ok = true ∧ L.length ≤ 40 ∧ RsT ok L = L := by
  unfold RsB at h
  simp only [Bool.and_eq_true, decide_eq_true_eq] at h
  exact ⟨h.1, h.2, by unfold RsT; rw [if_pos h]⟩
theorem rsB_no {ok : Bool} {L : List Mk} (h : RsB ok L = false) : RsT ok L = [] := by
  unfold RsT
  rw [if_neg]
  intro c
  unfold RsB at h
  rw [c.1, decide_eq_true c.2] at h
  cases h
theorem rs_len (ok : Bool) (L : List Mk) : (RsT ok L).length ≤ 10000000 := by
  unfold RsT
  split
  · rename_i c; omega
  · simp
theorem any_snoc {st : ByteArray} {l : List ByteArray} {k : Nat} (h : k < l.length) : (l.take (k + 1)).any (fun s => s.toList == st.toList) = ((l.take k).any (fun s => s.toList == st.toList) || (l[k].toList == st.toList)) := by
  rw [List.take_succ_eq_append_getElem h, List.any_append]
  simp
theorem any_mem {st : ByteArray} {l : List ByteArray} (h : st ∈ l) : l.any (fun s => s.toList == st.toList) = true := by
  rw [List.any_eq_true]
  exact ⟨st, h, by simp⟩
theorem not_mem_at {st : ByteArray} {l : List ByteArray} (h : st ∉ l) {k : Nat} (hk : k < l.length) : (l[k].toList == st.toList) = false ∧ decide (l[k] = st) = false := by
  have hn : l[k] ≠ st := fun c => h (c ▸ List.getElem_mem hk)
  refine ⟨?_, decide_eq_false hn⟩
  cases e : l[k].toList == st.toList with
  | false => rfl
  | true => exact absurd (st_eq.1 e) hn
theorem st_at {w : World} {g : Nat} {l : List ByteArray} (h : CLs w g (encSt l)) {k : Nat} (hk : k < l.length) : w.cell? ⟨g, k, none⟩ = some (.string l[k]) := h k _ (by simp [encSt, List.getElem?_eq_getElem hk])

set_option maxRecDepth 100000 in
set_option maxHeartbeats 8000000 in
theorem law_marks (C C2 : Value) (w : World) (hco : CodeAt w.heap.size C w) (hco2 : CodeAt w.heap.size C2 w) (hlen : ∀ a len cap, C = .slice a len cap → len ≤ 140737488355328) (hlen2 : ∀ a len cap, C2 = .slice a len cap → len ≤ 140737488355328) (hT : Tab w) :
    Calls Tryd.prog 3 #[C, C2] w fun e w' => e = .returned (.bool true) ∧ Below w.heap.size w w' := by
  obtain ⟨a1, len, cap, rfl⟩ := hco.shape
  obtain ⟨a2, len2, cap2, rfl⟩ := hco2.shape
  have l1 := hlen a1 len cap rfl
  have l2 := hlen2 a2 len2 cap2 rfl
  clear hlen hlen2
  by_cases hl : (len : Int) + len2 ≤ 1048576
  · have H0 := hide (drawMoveMarks_any (.slice a1 len cap) w hco (by show len ≤ 1048576; omega) hT)
    have HC2 := hide hco2
    have HT := hide hT
    clear hco hco2 hT
    go_enter Tryd.func3, Tryd.ntmps3
    go_wp2_with fail
    refine H0.out.mono ?_
    rintro e w1 ⟨v, vm, op, L, rfl, ho, hol, hsm, hm, hml, hms, h0, hb1⟩
    have hms' : ∀ x ∈ L, x.style.size ≤ 1048576 := fun x hx => by have := hms x hx; omega
    have I := hide (mmI_own ho (HT.out.below hb1) hsm hm hms' (by omega) h0)
    have S1 := hide (fun w2 (hb : Below w1.heap.size w1 w2) => mmS_own (own_below ho hb) (HT.out.below (hb1.trans (hb.mono hb1.size))) hol hsm (own_below hm hb) hms' (by omega) h0)
    have SZ := hide (fun w2 (hb : Below w1.heap.size w1 w2) => sizesS_own (own_below ho hb) (HT.out.below (hb1.trans (hb.mono hb1.size))) hsm)
    have MG := hide (mm_good (op := op) (l := L))
    have MS : Hid (∀ z ∈ mmL op L, z.style.size ≤ 1048576) := hide (addMs_style (fun s => s.size ≤ 1048576) _ _ rfl (fun x hx => by
      obtain ⟨y, hy, rfl⟩ := List.mem_map.1 hx
      exact hms' y hy))
    obtain ⟨av, cv, rfl⟩ := own_sl ho
    obtain ⟨am, cm, rfl, -, -⟩ := own_shp hm
    clear ho hm H0 hsm h0 hol hms hms'
    go_wp2_with fail
    refine I.out.mono ?_
    rintro e w2 ⟨m1, rfl, om1, hb2⟩
    have hb12 := hb1.trans (hb2.mono hb1.size)
    go_wp2_with fail
    refine (S1.out w2 hb2).mono ?_
    rintro e w3 ⟨m2, rfl, om2, hb3⟩
    have hb13 := hb2.trans (hb3.mono hb2.size)
    have hbw := hb12.trans (hb3.mono hb12.size)
    have om1' := own_below om1 hb3
    have hT40 := rs_len (mmOk op L) (mmL op L)
    have SM := hide (sameMarks_own om1' om2 hT40)
    have GM1 := hide om1'
    obtain ⟨x1, y1, rfl, -, -⟩ := own_shp om1'
    obtain ⟨x2, y2, rfl, -, -⟩ := own_shp om2
    clear I S1 om1 om1' om2 hb2 hb3 hb12 hT40
    cases hok : RsB (mmOk op L) (mmL op L) with
    | false =>
      clear GM1 SZ MG MS hok hb13
      go_wp2_with fail
      refine SM.out.mono ?_
      rintro e w4 ⟨rfl, hb4⟩
      replace hbw := hbw.trans (hb4.mono hbw.size)
      clear SM hb4 hb1
      have D := hide (drawAddMark_any (.slice a2 len2 cap2) w4 (code_on HC2.out hbw))
      go_wp2_with fail
      refine D.out.mono ?_
      rintro e wd ⟨vx, Lx, size, m, rfl, ox, hlx, hsx, ⟨z1, z2⟩, ⟨q0, q1, q2, q3⟩, hst, hbd⟩
      obtain ⟨mf, mt, ms⟩ := m
      simp only at q0 q1 q2 q3 hst
      replace hbd := hbw.trans (hbd.mono hbw.size)
      obtain ⟨W, hW⟩ : ∃ W, wd.alloc (.cells #[.int .i64 mf, .int .i64 mt, .string ms] 34) = W := ⟨_, rfl⟩
      have hbx : W.heap[wd.heap.size]? = some (.cells #[.int .i64 mf, .int .i64 mt, .string ms] 34) := by rw [← hW]; exact heap_alloc_new _ _
      have hWz : wd.heap.size < W.heap.size := by rw [← hW]; simp
      have hup : Below wd.heap.size wd W := by rw [← hW]; exact (Below.refl _ _).alloc (Nat.le_refl _) _
      have HBW := hide (hbd.trans (hup.mono hbd.size))
      have BX : Hid (∀ w', Below W.heap.size W w' → w'.cell? ⟨wd.heap.size, 0, none⟩ = some (.int .i64 mf) ∧ w'.cell? ⟨wd.heap.size, 1, none⟩ = some (.int .i64 mt) ∧ w'.cell? ⟨wd.heap.size, 2, none⟩ = some (.string ms)) := hide (fun w' hb => by
        have e := (hb.block wd.heap.size hWz).trans hbx
        refine ⟨?_, ?_, ?_⟩ <;> (rw [cell_of_row _ _ _ _ _ _ e]; rfl))
      have hsx' : ∀ x ∈ Lx, x.style.size ≤ 1048576 := fun x hx => by have := hsx x hx; omega
      have HX := hide (own_below ox hup)
      have AI := hide (addI_own size ⟨mf, mt, ms⟩ (by show ms.size ≤ 1048576; omega) HX.out hsx' (by omega))
      have AS := hide (fun w' (hb : Below W.heap.size W w') => addS_own size ⟨mf, mt, ms⟩ (by show ms.size ≤ 1048576; omega) (own_below HX.out hb) hsx' (by omega))
      obtain ⟨ax, cx, rfl, -, -⟩ := own_shp ox
      obtain ⟨c0, c1, c2⟩ := BX.out W (Below.refl _ _)
      clear D ox hbx hbd hup hbw
      go_wp2_with fail
      clear hW c0 c1 c2
      refine AI.out.mono ?_
      rintro e wa ⟨vy, rfl, oy, hba⟩
      obtain ⟨c0, c1, c2⟩ := BX.out wa hba
      go_wp2_with fail
      clear c0 c1 c2
      refine (AS.out wa hba).mono ?_
      rintro e wb ⟨vz, rfl, oz, hbb⟩
      have hcur := hba.trans (hbb.mono hba.size)
      have oy' := own_below oy hbb
      have hT40 := rs_len (goodM Lx size && mkOk size ⟨mf, mt, ms⟩) (addL Lx ⟨mf, mt, ms⟩)
      have SM := hide (sameMarks_own oy' oz hT40)
      have HY := hide oy'
      obtain ⟨ay, cy, rfl, -, -⟩ := own_shp oy'
      obtain ⟨az, cz, rfl, -, -⟩ := own_shp oz
      clear AI AS oy oy' oz hba hbb hT40
      cases hok2 : RsB (goodM Lx size && mkOk size ⟨mf, mt, ms⟩) (addL Lx ⟨mf, mt, ms⟩) with
      | false =>
        rw [rsB_no hok2] at SM ⊢
        clear HY BX
        go_wp2_with fail
        refine SM.out.mono ?_
        rintro e wc ⟨rfl, hbc⟩
        replace hcur := hcur.trans (hbc.mono hcur.size)
        go_wp2
        go_ret
        exact ⟨rfl, HBW.out.trans (hcur.mono HBW.out.size)⟩
      | true =>
        obtain ⟨k1, k2, k3⟩ := rsB_yes hok2
        rw [k3] at SM HY ⊢
        rw [Bool.and_eq_true] at k1
        obtain ⟨gx, gm⟩ := k1
        have gy := add_good gx gm k2
        obtain ⟨v1, v2, v3⟩ := cov_add gx gm
        obtain ⟨n1, n2, n3, n4⟩ := ok_parts gm
        simp only at v1 v2 v3 n1 n2 n3 n4
        have hcx : covT Lx size ms = covL ms Lx := covT_yes (by rw [gx, n1]; rfl)
        have hcy : covT (addL Lx ⟨mf, mt, ms⟩) size ms = covL ms (addL Lx ⟨mf, mt, ms⟩) := covT_yes (by rw [gy, n1]; rfl)
        have hbdx := covL_bd (st := ms) (show size ≤ 300 by omega) Lx (good_pw gx).2
        have hbdy := covL_bd (st := ms) (show size ≤ 300 by omega) (addL Lx ⟨mf, mt, ms⟩) (good_pw gy).2
        have hsy : ∀ z ∈ addL Lx ⟨mf, mt, ms⟩, z.style.size ≤ 1048576 := addL_styles (fun s => s.size ≤ 1048576) Lx ⟨mf, mt, ms⟩ (by show ms.size ≤ 1048576; omega) hsx'
        have CUT := hide (fun wc (hb : Below wb.heap.size wb wc) => cutI_own size mf mt ms (by omega) (own_below HY.out hb) hsy (by omega) (addL_ne _ _))
        have CVY := hide (fun wc (hb : Below wb.heap.size wb wc) => coveredI_own size ms (by omega) (own_below HY.out hb) hsy (by omega))
        have CVX := hide (fun wc (hb : Below W.heap.size W wc) => coveredI_own size ms (by omega) (own_below HX.out hb) hsx' (by omega))
        have STY := hide (fun (at' : Int) wc (hb : Below wb.heap.size wb wc) => stylesI_own size at' (own_below HY.out hb) hsy (by omega))
        rw [gy, n1, hcy] at CVY
        rw [gx, n1, hcx] at CVX
        have SH := hide (fun (i : Int) (h1 : mf ≤ i) (h2 : i < mt) => sty_has (l := Lx) (m := ⟨mf, mt, ms⟩) h1 h2)
        have SOK : Hid (∀ i : Int, mf ≤ i → i < mt → styOk (addL Lx ⟨mf, mt, ms⟩) size i = true) := hide (fun i h1 h2 => by unfold styOk; rw [gy, decide_eq_true (show 0 ≤ i ∧ i < size by omega)]; rfl)
        have hbc40 : ((addL Lx ⟨mf, mt, ms⟩).length : Int) ≤ 40 := by omega
        have hbx40 : (Lx.length : Int) ≤ 10 := by omega
        obtain ⟨LC, hLC⟩ : ∃ l, cutT (addL Lx ⟨mf, mt, ms⟩) size mf mt ms = l := ⟨_, rfl⟩
        have CG : cutB (addL Lx ⟨mf, mt, ms⟩) size mf mt ms = true → (goodM LC size = true ∧ ∀ i : Int, mf ≤ i → i < mt → ms ∉ styL i LC) := fun h => by
          unfold cutB at h
          simp only [Bool.and_eq_true, decide_eq_true_eq] at h
          have e : cutT (addL Lx ⟨mf, mt, ms⟩) size mf mt ms = cutL (addL Lx ⟨mf, mt, ms⟩) mf mt ms := by unfold cutT; rw [if_pos h]
          rw [← hLC, e]
          exact ⟨cut_good gy (by omega) h.2, fun i h1 h2 => sty_not gy h1 h2⟩
        have CS : (∀ z ∈ LC, z.style.size ≤ 1048576) ∧ LC.length ≤ 40 := by
          rw [← hLC]
          unfold cutT
          split
          · rename_i c
            refine ⟨fun z hz => ?_, c.2⟩
            obtain ⟨y, hy, hz⟩ := List.mem_flatMap.1 hz
            have := (cut_mem hz (ok_parts ((good_pw gy).2 y hy)).2.2.1).1.1
            rw [this]; exact hsy y hy
          · exact ⟨(fun z hz => by cases hz), by simp⟩
        unfold CutPost at CUT
        rw [hLC] at CUT
        obtain ⟨hone, hh⟩ : ∃ b, cutB (addL Lx ⟨mf, mt, ms⟩) size mf mt ms = b := ⟨_, rfl⟩
        rw [hh] at CUT CG
        have HCG := hide CG
        have HCS := hide CS
        generalize covL ms Lx = was at *
        generalize covL ms (addL Lx ⟨mf, mt, ms⟩) = all at *
        generalize addL Lx ⟨mf, mt, ms⟩ = LY at *
        clear hh hLC CG CS hok2 k3 gx gm gy hcx hcy hsx hsx' hsy
        have e1 : IntKind.i64.wrap (mt - mf) = mt - mf := by rw [IntKind.wrap_i64]; omega
        have e2 : IntKind.i64.wrap (was + mt) = was + mt := by rw [IntKind.wrap_i64]; omega
        have e3 : IntKind.i64.wrap (was + mt - mf) = was + mt - mf := by rw [IntKind.wrap_i64]; omega
        have d1 : decide (all < was) = false := decide_eq_false (by omega)
        have d2 : decide (all < mt - mf) = false := decide_eq_false (by omega)
        have d3 : decide (was + mt - mf < all) = false := decide_eq_false (by omega)
        go_wp2_with fail
        refine SM.out.mono ?_
        rintro e wc ⟨rfl, hbc⟩
        have hcr := hcur.trans (hbc.mono hcur.size)
        obtain ⟨c0, c1, c2⟩ := BX.out wc hcr
        clear SM
        go_wp2_with fail
        refine (CUT.out wc hbc).mono ?_
        rintro e we ⟨vw, rfl, ow, hbe⟩
        have HW := hide ow
        obtain ⟨aw, cw, rfl, -, -⟩ := own_shp ow
        replace hbe := hbc.trans (hbe.mono hbc.size)
        have hcr2 := hcur.trans (hbe.mono hcur.size)
        clear c0 c1 c2 ow CUT hbc hcr
        obtain ⟨c0, c1, c2⟩ := BX.out we hcr2
        go_wp2_with fail
        refine (CVY.out we hbe).mono ?_
        rintro e wf ⟨rfl, hbf⟩
        have HW2 := hide (own_below HW.out hbf)
        replace hbf := hbe.trans (hbf.mono hbe.size)
        have hcr3 := hcur.trans (hbf.mono hcur.size)
        clear c0 c1 c2 CVY hbe hcr2 HW
        obtain ⟨c0, c1, c2⟩ := BX.out wf hcr3
        go_wp2_with fail
        refine (CVX.out wf hcr3).mono ?_
        rintro e wg ⟨rfl, hbg⟩
        have HW3 := hide (own_below HW2.out hbg)
        replace hbg := hbf.trans (hbg.mono hbf.size)
        have hcr4 := hcur.trans (hbg.mono hcur.size)
        clear c0 c1 c2 CVX hbf hcr3 HW2
        obtain ⟨c0, c1, c2⟩ := BX.out wg hcr4
        go_wp2
        go_loopw [27] (fun v wr => ∃ i : Int, mf ≤ i ∧ i ≤ mt ∧ v = .int .i64 i ∧ Hid (Below wg.heap.size wg wr)) (fun v _ => (mt - intOf v).toNat)
        case atStart => exact ⟨mf, by omega, by omega, rfl, hide (Below.refl _ _)⟩
        case round =>
          obtain ⟨i, i1, i2, rfl, HBr⟩ := hrel
          obtain ⟨wo, hwo⟩ : ∃ wo, wo = wr := ⟨_, rfl⟩
          subst hwo
          clear c0 c1 c2
          have hwr := hbg.trans (HBr.out.mono hbg.size)
          obtain ⟨c0, c1, c2⟩ := BX.out wo (hcur.trans (hwr.mono hcur.size))
          by_cases hlt : i < mt
          · have dl : decide (i < mt) = true := decide_eq_true hlt
            have ST := STY.out i wo hwr
            have hsk := SOK.out i i1 hlt
            have hsty : styT LY size i = styL i LY := styT_yes hsk
            have hmem := SH.out i i1 hlt
            rw [hsk, hsty] at ST
            replace ST := hide ST
            have hW := HCG.out
            obtain ⟨SL, hSL⟩ : ∃ l, styL i LY = l := ⟨_, rfl⟩
            rw [hSL] at ST hmem
            have hSLl : SL.length ≤ 1000 := by rw [← hSL]; have := styL_len i LY; omega
            have eW : IntKind.i64.wrap (i + 1) = i + 1 := by rw [IntKind.wrap_i64]; omega
            clear hsk hsty hSL
            go_wp2_with fail
            refine ST.out.mono ?_
            rintro e wh ⟨us, rfl, os, hbh⟩
            have HOS := hide os
            obtain ⟨ass, css, rfl, -, -⟩ := own_shp os
            have hwh := HBr.out.trans (hbh.mono HBr.out.size)
            have hwh2 := hbg.trans (hwh.mono hbg.size)
            clear c0 c1 c2 os ST hbh hwr HBr
            obtain ⟨c0, c1, c2⟩ := BX.out wh (hcur.trans (hwh2.mono hcur.size))
            go_wp2
            go_loopw [30, 197] (fun b v wr => ∃ k : Nat, k ≤ SL.length ∧ v = .int .i64 k ∧ b = .bool ((SL.take k).any (fun s => s.toList == ms.toList)) ∧ wr = wh) (fun _ v _ => SL.length - (intOf v).toNat)
            case atStart => exact ⟨0, by omega, rfl, by simp, rfl⟩
            case round =>
              obtain ⟨k, hk, rfl, rfl, hw2⟩ := hrel
              subst hw2
              by_cases hkl : k < SL.length
              · obtain ⟨gs, cp, ev, -, -, -, -, hcl, -⟩ := own_cat HOS.out (by omega)
                cases ev
                have cs0 := st_at hcl hkl
                have hsn := any_snoc (st := ms) hkl
                cases hb1 : (SL.take k).any (fun s => s.toList == ms.toList) with
                | true =>
                  rw [hb1] at hsn
                  have HSN := hide hsn
                  clear hsn hcl
                  go_wp2
                  go_roundw
                  case rel => exact ⟨k + 1, by omega, by go_num, by rw [HSN.out]; rfl, by first | rfl | trivial⟩
                  case measure => simp [intOf]; omega
                | false =>
                  rw [hb1, Bool.false_or] at hsn
                  cases hb2 : (SL[k].toList == ms.toList) with
                  | true =>
                    rw [hb2] at hsn
                    have HSN := hide hsn
                    have hd2 : decide (SL[k] = ms) = true := decide_eq_true (st_eq.1 hb2)
                    clear hsn hcl
                    go_wp2
                    go_roundw
                    case rel => exact ⟨k + 1, by omega, by go_num, by rw [HSN.out], by first | rfl | trivial⟩
                    case measure => simp [intOf]; omega
                  | false =>
                    rw [hb2] at hsn
                    have HSN := hide hsn
                    have hd2 : decide (SL[k] = ms) = false := decide_eq_false (fun c => by rw [st_eq.2 c] at hb2; cases hb2)
                    clear hsn hcl
                    go_wp2
                    go_roundw
                    case rel => exact ⟨k + 1, by omega, by go_num, by rw [HSN.out], by first | rfl | trivial⟩
                    case measure => simp [intOf]; omega
              · obtain rfl : k = SL.length := by omega
                have hany : (SL.take SL.length).any (fun s => s.toList == ms.toList) = true := by rw [List.take_length]; exact any_mem hmem
                have HANY := hide hany
                obtain ⟨bb, hbb⟩ : ∃ b, (SL.take SL.length).any (fun s => s.toList == ms.toList) = b := ⟨_, rfl⟩
                rw [hbb] at hany
                subst hany
                simp only [hbb]
                clear hbb HANY
                cases hone with
                | false =>
                  go_wp2
                  go_roundw
                  case rel => exact ⟨i + 1, by omega, by omega, by go_num, hide hwh⟩
                  case measure => simp [intOf]; omega
                | true =>
                  obtain ⟨gw, nw⟩ := hW rfl
                  have nwi := nw i i1 hlt
                  have hsk2 : styOk LC size i = true := by unfold styOk; rw [gw, decide_eq_true (show 0 ≤ i ∧ i < size by omega)]; rfl
                  have hsty2 : styT LC size i = styL i LC := styT_yes hsk2
                  have SW := stylesI_own size i (own_below HW3.out hwh) HCS.out.1 (by have := HCS.out.2; omega)
                  rw [hsk2, hsty2] at SW
                  replace SW := hide SW
                  obtain ⟨TL, hTL⟩ : ∃ l, styL i LC = l := ⟨_, rfl⟩
                  rw [hTL] at SW nwi
                  have hTLl : TL.length ≤ 1000 := by rw [← hTL]; have := styL_len i LC; have := HCS.out.2; omega
                  clear hsk2 hsty2 hTL nw gw
                  go_wp2_with fail
                  refine SW.out.mono ?_
                  rintro e wj ⟨ut, rfl, ot, hbj⟩
                  have HOT := hide ot
                  obtain ⟨at1, ct1, rfl, -, -⟩ := own_shp ot
                  have hwj := hwh.trans (hbj.mono hwh.size)
                  have hwj2 := hbg.trans (hwj.mono hbg.size)
                  clear c0 c1 c2 ot SW hbj
                  obtain ⟨c0, c1, c2⟩ := BX.out wj (hcur.trans (hwj2.mono hcur.size))
                  go_wp2
                  go_loopw [226] (fun v wr => ∃ k : Nat, k ≤ TL.length ∧ v = .int .i64 k ∧ wr = wj) (fun v _ => TL.length - (intOf v).toNat)
                  case atStart => exact ⟨0, by omega, rfl, rfl⟩
                  case round =>
                    obtain ⟨k, hk, rfl, hw2⟩ := hrel
                    subst hw2
                    by_cases hkl : k < TL.length
                    · obtain ⟨gs, cp, ev, -, -, -, -, hcl, -⟩ := own_cat HOT.out (by omega)
                      cases ev
                      have cs0 := st_at hcl hkl
                      obtain ⟨hb2, hd2⟩ := not_mem_at nwi hkl
                      clear hcl
                      go_wp2
                      go_roundw
                      case rel => exact ⟨k + 1, by omega, by go_num, by first | rfl | trivial⟩
                      case measure => simp [intOf]; omega
                    · obtain rfl : k = TL.length := by omega
                      go_wp2
                      go_roundw
                      case rel => exact ⟨i + 1, by omega, by omega, by go_num, hide hwj⟩
                      case measure => simp [intOf]; omega
          · obtain rfl : i = mt := by omega
            have hfin := HBW.out.trans ((hcur.trans (hwr.mono hcur.size)).mono HBW.out.size)
            cases hone with
            | false =>
              go_wp2
              go_ret
              exact ⟨rfl, hfin⟩
            | true =>
              obtain ⟨gw, -⟩ := HCG.out rfl
              have GW := goodMarksI_own size (own_below HW3.out HBr.out) HCS.out.1 (by have := HCS.out.2; omega)
              rw [gw] at GW
              replace GW := hide GW
              go_wp2_with fail
              refine GW.out.mono ?_
              rintro e wz ⟨rfl, hbz⟩
              replace hbz := hfin.trans (hbz.mono hfin.size)
              go_wp2
              go_ret
              exact ⟨rfl, hbz⟩
    | true =>
      obtain ⟨k1, k2, k3⟩ := rsB_yes hok
      obtain ⟨g1, g2⟩ := MG.out k1
      rw [k3] at GM1
      have hgo : goodO op = true := by unfold mmOk at k1; rw [Bool.and_eq_true] at k1; exact k1.1
      have SZ' := SZ.out w3 hb13
      have hszM : szM op = mkL op := by unfold szM; rw [hgo]; rfl
      rw [hgo, hszM] at SZ'
      have SZ2 := hide (fun w4 (hb : Below w3.heap.size w3 w4) => SZ.out w4 (hb13.trans (hb.mono hb13.size)))
      rw [hgo, hszM] at SZ2
      have GK := hide (fun w4 (hb : Below w3.heap.size w3 w4) => goodMarksI_own (mkL op) (own_below GM1.out hb) MS.out (by omega))
      rw [g1] at GK
      have dl : decide ((L.length : Int) < ((mmL op L).length : Int)) = false := decide_eq_false (by omega)
      rw [k3] at SM ⊢
      generalize mmL op L = ML at *
      generalize mkL op = mk at *
      generalize szT op = st0 at *
      clear SZ SZ' MG MS k1 k3 g1 hok hgo hszM GM1
      go_wp2_with fail
      refine SM.out.mono ?_
      rintro e w4 ⟨rfl, hb4⟩
      go_wp2_with fail
      refine (SZ2.out w4 hb4).mono ?_
      rintro e w5 ⟨rfl, hb5⟩
      replace hb5 := hb4.trans (hb5.mono hb4.size)
      go_wp2_with fail
      refine (GK.out w5 hb5).mono ?_
      rintro e w6 ⟨rfl, hb6⟩
      replace hb6 := hb5.trans (hb6.mono hb5.size)
      replace hbw := hbw.trans (hb6.mono hbw.size)
      clear SM SZ2 GK hb4 hb5 hb6 hb1 hb13
      have D := hide (drawAddMark_any (.slice a2 len2 cap2) w6 (code_on HC2.out hbw))
      go_wp2_with fail
      refine D.out.mono ?_
      rintro e wd ⟨vx, Lx, size, m, rfl, ox, hlx, hsx, ⟨z1, z2⟩, ⟨q0, q1, q2, q3⟩, hst, hbd⟩
      obtain ⟨mf, mt, ms⟩ := m
      simp only at q0 q1 q2 q3 hst
      replace hbd := hbw.trans (hbd.mono hbw.size)
      obtain ⟨W, hW⟩ : ∃ W, wd.alloc (.cells #[.int .i64 mf, .int .i64 mt, .string ms] 34) = W := ⟨_, rfl⟩
      have hbx : W.heap[wd.heap.size]? = some (.cells #[.int .i64 mf, .int .i64 mt, .string ms] 34) := by rw [← hW]; exact heap_alloc_new _ _
      have hWz : wd.heap.size < W.heap.size := by rw [← hW]; simp
      have hup : Below wd.heap.size wd W := by rw [← hW]; exact (Below.refl _ _).alloc (Nat.le_refl _) _
      have HBW := hide (hbd.trans (hup.mono hbd.size))
      have BX : Hid (∀ w', Below W.heap.size W w' → w'.cell? ⟨wd.heap.size, 0, none⟩ = some (.int .i64 mf) ∧ w'.cell? ⟨wd.heap.size, 1, none⟩ = some (.int .i64 mt) ∧ w'.cell? ⟨wd.heap.size, 2, none⟩ = some (.string ms)) := hide (fun w' hb => by
        have e := (hb.block wd.heap.size hWz).trans hbx
        refine ⟨?_, ?_, ?_⟩ <;> (rw [cell_of_row _ _ _ _ _ _ e]; rfl))
      have hsx' : ∀ x ∈ Lx, x.style.size ≤ 1048576 := fun x hx => by have := hsx x hx; omega
      have HX := hide (own_below ox hup)
      have AI := hide (addI_own size ⟨mf, mt, ms⟩ (by show ms.size ≤ 1048576; omega) HX.out hsx' (by omega))
      have AS := hide (fun w' (hb : Below W.heap.size W w') => addS_own size ⟨mf, mt, ms⟩ (by show ms.size ≤ 1048576; omega) (own_below HX.out hb) hsx' (by omega))
      obtain ⟨ax, cx, rfl, -, -⟩ := own_shp ox
      obtain ⟨c0, c1, c2⟩ := BX.out W (Below.refl _ _)
      clear D ox hbx hbd hup hbw
      go_wp2_with fail
      clear hW c0 c1 c2
      refine AI.out.mono ?_
      rintro e wa ⟨vy, rfl, oy, hba⟩
      obtain ⟨c0, c1, c2⟩ := BX.out wa hba
      go_wp2_with fail
      clear c0 c1 c2
      refine (AS.out wa hba).mono ?_
      rintro e wb ⟨vz, rfl, oz, hbb⟩
      have hcur := hba.trans (hbb.mono hba.size)
      have oy' := own_below oy hbb
      have hT40 := rs_len (goodM Lx size && mkOk size ⟨mf, mt, ms⟩) (addL Lx ⟨mf, mt, ms⟩)
      have SM := hide (sameMarks_own oy' oz hT40)
      have HY := hide oy'
      obtain ⟨ay, cy, rfl, -, -⟩ := own_shp oy'
      obtain ⟨az, cz, rfl, -, -⟩ := own_shp oz
      clear AI AS oy oy' oz hba hbb hT40
      cases hok2 : RsB (goodM Lx size && mkOk size ⟨mf, mt, ms⟩) (addL Lx ⟨mf, mt, ms⟩) with
      | false =>
        rw [rsB_no hok2] at SM ⊢
        clear HY BX
        go_wp2_with fail
        refine SM.out.mono ?_
        rintro e wc ⟨rfl, hbc⟩
        replace hcur := hcur.trans (hbc.mono hcur.size)
        go_wp2
        go_ret
        exact ⟨rfl, HBW.out.trans (hcur.mono HBW.out.size)⟩
      | true =>
        obtain ⟨k1, k2, k3⟩ := rsB_yes hok2
        rw [k3] at SM HY ⊢
        rw [Bool.and_eq_true] at k1
        obtain ⟨gx, gm⟩ := k1
        have gy := add_good gx gm k2
        obtain ⟨v1, v2, v3⟩ := cov_add gx gm
        obtain ⟨n1, n2, n3, n4⟩ := ok_parts gm
        simp only at v1 v2 v3 n1 n2 n3 n4
        have hcx : covT Lx size ms = covL ms Lx := covT_yes (by rw [gx, n1]; rfl)
        have hcy : covT (addL Lx ⟨mf, mt, ms⟩) size ms = covL ms (addL Lx ⟨mf, mt, ms⟩) := covT_yes (by rw [gy, n1]; rfl)
        have hbdx := covL_bd (st := ms) (show size ≤ 300 by omega) Lx (good_pw gx).2
        have hbdy := covL_bd (st := ms) (show size ≤ 300 by omega) (addL Lx ⟨mf, mt, ms⟩) (good_pw gy).2
        have hsy : ∀ z ∈ addL Lx ⟨mf, mt, ms⟩, z.style.size ≤ 1048576 := addL_styles (fun s => s.size ≤ 1048576) Lx ⟨mf, mt, ms⟩ (by show ms.size ≤ 1048576; omega) hsx'
        have CUT := hide (fun wc (hb : Below wb.heap.size wb wc) => cutI_own size mf mt ms (by omega) (own_below HY.out hb) hsy (by omega) (addL_ne _ _))
        have CVY := hide (fun wc (hb : Below wb.heap.size wb wc) => coveredI_own size ms (by omega) (own_below HY.out hb) hsy (by omega))
        have CVX := hide (fun wc (hb : Below W.heap.size W wc) => coveredI_own size ms (by omega) (own_below HX.out hb) hsx' (by omega))
        have STY := hide (fun (at' : Int) wc (hb : Below wb.heap.size wb wc) => stylesI_own size at' (own_below HY.out hb) hsy (by omega))
        rw [gy, n1, hcy] at CVY
        rw [gx, n1, hcx] at CVX
        have SH := hide (fun (i : Int) (h1 : mf ≤ i) (h2 : i < mt) => sty_has (l := Lx) (m := ⟨mf, mt, ms⟩) h1 h2)
        have SOK : Hid (∀ i : Int, mf ≤ i → i < mt → styOk (addL Lx ⟨mf, mt, ms⟩) size i = true) := hide (fun i h1 h2 => by unfold styOk; rw [gy, decide_eq_true (show 0 ≤ i ∧ i < size by omega)]; rfl)
        have hbc40 : ((addL Lx ⟨mf, mt, ms⟩).length : Int) ≤ 40 := by omega
        have hbx40 : (Lx.length : Int) ≤ 10 := by omega
        obtain ⟨LC, hLC⟩ : ∃ l, cutT (addL Lx ⟨mf, mt, ms⟩) size mf mt ms = l := ⟨_, rfl⟩
        have CG : cutB (addL Lx ⟨mf, mt, ms⟩) size mf mt ms = true → (goodM LC size = true ∧ ∀ i : Int, mf ≤ i → i < mt → ms ∉ styL i LC) := fun h => by
          unfold cutB at h
          simp only [Bool.and_eq_true, decide_eq_true_eq] at h
          have e : cutT (addL Lx ⟨mf, mt, ms⟩) size mf mt ms = cutL (addL Lx ⟨mf, mt, ms⟩) mf mt ms := by unfold cutT; rw [if_pos h]
          rw [← hLC, e]
          exact ⟨cut_good gy (by omega) h.2, fun i h1 h2 => sty_not gy h1 h2⟩
        have CS : (∀ z ∈ LC, z.style.size ≤ 1048576) ∧ LC.length ≤ 40 := by
          rw [← hLC]
          unfold cutT
          split
          · rename_i c
            refine ⟨fun z hz => ?_, c.2⟩
            obtain ⟨y, hy, hz⟩ := List.mem_flatMap.1 hz
            have := (cut_mem hz (ok_parts ((good_pw gy).2 y hy)).2.2.1).1.1
            rw [this]; exact hsy y hy
          · exact ⟨(fun z hz => by cases hz), by simp⟩
        unfold CutPost at CUT
        rw [hLC] at CUT
        obtain ⟨hone, hh⟩ : ∃ b, cutB (addL Lx ⟨mf, mt, ms⟩) size mf mt ms = b := ⟨_, rfl⟩
        rw [hh] at CUT CG
        have HCG := hide CG
        have HCS := hide CS
        generalize covL ms Lx = was at *
        generalize covL ms (addL Lx ⟨mf, mt, ms⟩) = all at *
        generalize addL Lx ⟨mf, mt, ms⟩ = LY at *
        clear hh hLC CG CS hok2 k3 gx gm gy hcx hcy hsx hsx' hsy
        have e1 : IntKind.i64.wrap (mt - mf) = mt - mf := by rw [IntKind.wrap_i64]; omega
        have e2 : IntKind.i64.wrap (was + mt) = was + mt := by rw [IntKind.wrap_i64]; omega
        have e3 : IntKind.i64.wrap (was + mt - mf) = was + mt - mf := by rw [IntKind.wrap_i64]; omega
        have d1 : decide (all < was) = false := decide_eq_false (by omega)
        have d2 : decide (all < mt - mf) = false := decide_eq_false (by omega)
        have d3 : decide (was + mt - mf < all) = false := decide_eq_false (by omega)
        go_wp2_with fail
        refine SM.out.mono ?_
        rintro e wc ⟨rfl, hbc⟩
        have hcr := hcur.trans (hbc.mono hcur.size)
        obtain ⟨c0, c1, c2⟩ := BX.out wc hcr
        clear SM
        go_wp2_with fail
        refine (CUT.out wc hbc).mono ?_
        rintro e we ⟨vw, rfl, ow, hbe⟩
        have HW := hide ow
        obtain ⟨aw, cw, rfl, -, -⟩ := own_shp ow
        replace hbe := hbc.trans (hbe.mono hbc.size)
        have hcr2 := hcur.trans (hbe.mono hcur.size)
        clear c0 c1 c2 ow CUT hbc hcr
        obtain ⟨c0, c1, c2⟩ := BX.out we hcr2
        go_wp2_with fail
        refine (CVY.out we hbe).mono ?_
        rintro e wf ⟨rfl, hbf⟩
        have HW2 := hide (own_below HW.out hbf)
        replace hbf := hbe.trans (hbf.mono hbe.size)
        have hcr3 := hcur.trans (hbf.mono hcur.size)
        clear c0 c1 c2 CVY hbe hcr2 HW
        obtain ⟨c0, c1, c2⟩ := BX.out wf hcr3
        go_wp2_with fail
        refine (CVX.out wf hcr3).mono ?_
        rintro e wg ⟨rfl, hbg⟩
        have HW3 := hide (own_below HW2.out hbg)
        replace hbg := hbf.trans (hbg.mono hbf.size)
        have hcr4 := hcur.trans (hbg.mono hcur.size)
        clear c0 c1 c2 CVX hbf hcr3 HW2
        obtain ⟨c0, c1, c2⟩ := BX.out wg hcr4
        go_wp2
        go_loopw [27] (fun v wr => ∃ i : Int, mf ≤ i ∧ i ≤ mt ∧ v = .int .i64 i ∧ Hid (Below wg.heap.size wg wr)) (fun v _ => (mt - intOf v).toNat)
        case atStart => exact ⟨mf, by omega, by omega, rfl, hide (Below.refl _ _)⟩
        case round =>
          obtain ⟨i, i1, i2, rfl, HBr⟩ := hrel
          obtain ⟨wo, hwo⟩ : ∃ wo, wo = wr := ⟨_, rfl⟩
          subst hwo
          clear c0 c1 c2
          have hwr := hbg.trans (HBr.out.mono hbg.size)
          obtain ⟨c0, c1, c2⟩ := BX.out wo (hcur.trans (hwr.mono hcur.size))
          by_cases hlt : i < mt
          · have dl : decide (i < mt) = true := decide_eq_true hlt
            have ST := STY.out i wo hwr
            have hsk := SOK.out i i1 hlt
            have hsty : styT LY size i = styL i LY := styT_yes hsk
            have hmem := SH.out i i1 hlt
            rw [hsk, hsty] at ST
            replace ST := hide ST
            have hW := HCG.out
            obtain ⟨SL, hSL⟩ : ∃ l, styL i LY = l := ⟨_, rfl⟩
            rw [hSL] at ST hmem
            have hSLl : SL.length ≤ 1000 := by rw [← hSL]; have := styL_len i LY; omega
            have eW : IntKind.i64.wrap (i + 1) = i + 1 := by rw [IntKind.wrap_i64]; omega
            clear hsk hsty hSL
            go_wp2_with fail
            refine ST.out.mono ?_
            rintro e wh ⟨us, rfl, os, hbh⟩
            have HOS := hide os
            obtain ⟨ass, css, rfl, -, -⟩ := own_shp os
            have hwh := HBr.out.trans (hbh.mono HBr.out.size)
            have hwh2 := hbg.trans (hwh.mono hbg.size)
            clear c0 c1 c2 os ST hbh hwr HBr
            obtain ⟨c0, c1, c2⟩ := BX.out wh (hcur.trans (hwh2.mono hcur.size))
            go_wp2
            go_loopw [30, 197] (fun b v wr => ∃ k : Nat, k ≤ SL.length ∧ v = .int .i64 k ∧ b = .bool ((SL.take k).any (fun s => s.toList == ms.toList)) ∧ wr = wh) (fun _ v _ => SL.length - (intOf v).toNat)
            case atStart => exact ⟨0, by omega, rfl, by simp, rfl⟩
            case round =>
              obtain ⟨k, hk, rfl, rfl, hw2⟩ := hrel
              subst hw2
              by_cases hkl : k < SL.length
              · obtain ⟨gs, cp, ev, -, -, -, -, hcl, -⟩ := own_cat HOS.out (by omega)
                cases ev
                have cs0 := st_at hcl hkl
                have hsn := any_snoc (st := ms) hkl
                cases hb1 : (SL.take k).any (fun s => s.toList == ms.toList) with
                | true =>
                  rw [hb1] at hsn
                  have HSN := hide hsn
                  clear hsn hcl
                  go_wp2
                  go_roundw
                  case rel => exact ⟨k + 1, by omega, by go_num, by rw [HSN.out]; rfl, by first | rfl | trivial⟩
                  case measure => simp [intOf]; omega
                | false =>
                  rw [hb1, Bool.false_or] at hsn
                  cases hb2 : (SL[k].toList == ms.toList) with
                  | true =>
                    rw [hb2] at hsn
                    have HSN := hide hsn
                    have hd2 : decide (SL[k] = ms) = true := decide_eq_true (st_eq.1 hb2)
                    clear hsn hcl
                    go_wp2
                    go_roundw
                    case rel => exact ⟨k + 1, by omega, by go_num, by rw [HSN.out], by first | rfl | trivial⟩
                    case measure => simp [intOf]; omega
                  | false =>
                    rw [hb2] at hsn
                    have HSN := hide hsn
                    have hd2 : decide (SL[k] = ms) = false := decide_eq_false (fun c => by rw [st_eq.2 c] at hb2; cases hb2)
                    clear hsn hcl
                    go_wp2
                    go_roundw
                    case rel => exact ⟨k + 1, by omega, by go_num, by rw [HSN.out], by first | rfl | trivial⟩
                    case measure => simp [intOf]; omega
              · obtain rfl : k = SL.length := by omega
                have hany : (SL.take SL.length).any (fun s => s.toList == ms.toList) = true := by rw [List.take_length]; exact any_mem hmem
                have HANY := hide hany
                obtain ⟨bb, hbb⟩ : ∃ b, (SL.take SL.length).any (fun s => s.toList == ms.toList) = b := ⟨_, rfl⟩
                rw [hbb] at hany
                subst hany
                simp only [hbb]
                clear hbb HANY
                cases hone with
                | false =>
                  go_wp2
                  go_roundw
                  case rel => exact ⟨i + 1, by omega, by omega, by go_num, hide hwh⟩
                  case measure => simp [intOf]; omega
                | true =>
                  obtain ⟨gw, nw⟩ := hW rfl
                  have nwi := nw i i1 hlt
                  have hsk2 : styOk LC size i = true := by unfold styOk; rw [gw, decide_eq_true (show 0 ≤ i ∧ i < size by omega)]; rfl
                  have hsty2 : styT LC size i = styL i LC := styT_yes hsk2
                  have SW := stylesI_own size i (own_below HW3.out hwh) HCS.out.1 (by have := HCS.out.2; omega)
                  rw [hsk2, hsty2] at SW
                  replace SW := hide SW
                  obtain ⟨TL, hTL⟩ : ∃ l, styL i LC = l := ⟨_, rfl⟩
                  rw [hTL] at SW nwi
                  have hTLl : TL.length ≤ 1000 := by rw [← hTL]; have := styL_len i LC; have := HCS.out.2; omega
                  clear hsk2 hsty2 hTL nw gw
                  go_wp2_with fail
                  refine SW.out.mono ?_
                  rintro e wj ⟨ut, rfl, ot, hbj⟩
                  have HOT := hide ot
                  obtain ⟨at1, ct1, rfl, -, -⟩ := own_shp ot
                  have hwj := hwh.trans (hbj.mono hwh.size)
                  have hwj2 := hbg.trans (hwj.mono hbg.size)
                  clear c0 c1 c2 ot SW hbj
                  obtain ⟨c0, c1, c2⟩ := BX.out wj (hcur.trans (hwj2.mono hcur.size))
                  go_wp2
                  go_loopw [226] (fun v wr => ∃ k : Nat, k ≤ TL.length ∧ v = .int .i64 k ∧ wr = wj) (fun v _ => TL.length - (intOf v).toNat)
                  case atStart => exact ⟨0, by omega, rfl, rfl⟩
                  case round =>
                    obtain ⟨k, hk, rfl, hw2⟩ := hrel
                    subst hw2
                    by_cases hkl : k < TL.length
                    · obtain ⟨gs, cp, ev, -, -, -, -, hcl, -⟩ := own_cat HOT.out (by omega)
                      cases ev
                      have cs0 := st_at hcl hkl
                      obtain ⟨hb2, hd2⟩ := not_mem_at nwi hkl
                      clear hcl
                      go_wp2
                      go_roundw
                      case rel => exact ⟨k + 1, by omega, by go_num, by first | rfl | trivial⟩
                      case measure => simp [intOf]; omega
                    · obtain rfl : k = TL.length := by omega
                      go_wp2
                      go_roundw
                      case rel => exact ⟨i + 1, by omega, by omega, by go_num, hide hwj⟩
                      case measure => simp [intOf]; omega
          · obtain rfl : i = mt := by omega
            have hfin := HBW.out.trans ((hcur.trans (hwr.mono hcur.size)).mono HBW.out.size)
            cases hone with
            | false =>
              go_wp2
              go_ret
              exact ⟨rfl, hfin⟩
            | true =>
              obtain ⟨gw, -⟩ := HCG.out rfl
              have GW := goodMarksI_own size (own_below HW3.out HBr.out) HCS.out.1 (by have := HCS.out.2; omega)
              rw [gw] at GW
              replace GW := hide GW
              go_wp2_with fail
              refine GW.out.mono ?_
              rintro e wz ⟨rfl, hbz⟩
              replace hbz := hfin.trans (hbz.mono hfin.size)
              go_wp2
              go_ret
              exact ⟨rfl, hbz⟩
  · go_enter Tryd.func3, Tryd.ntmps3
    go_wp2
    go_ret
    exact ⟨rfl, Below.refl _ _⟩
end Go.Proofs.YtbooongkbninhaaDoor
