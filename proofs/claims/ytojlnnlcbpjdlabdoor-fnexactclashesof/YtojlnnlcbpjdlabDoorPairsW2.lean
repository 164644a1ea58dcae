/- The contract of impl.pairsOf. -/
import Derived.Test.YtojlnnlcbpjdlabDoorPairsW1
import Derived.Test.YtojlnnlcbpjdlabDoorOpW36
import Derived.Sort.QuietIn
namespace Go.Proofs.YtojlnnlcbpjdlabDoor
open Go.RowKit Go.Shelf
open Doc1

attribute [local go_sem] Oper.semAt_some

/-- The number in a box. -/
def atOf (W : World) (B : Nat) : Nat := match W.cell? ⟨B, 0, none⟩ with | some v => (intOf v).toNat | none => 0
theorem grown_alp {w w2 : World} {ob : Obj} {row : Option Nat} (h : (w.alloc ob).drew.grownBy w2 row) : w.grownBy w2 row :=
  ⟨h.os, h.tape, h.output, by have : (w.alloc ob).heap.size ≤ w2.heap.size := h.size
                              simp at this; omega, fun k hk hn => (h.block k (by show k < (w.alloc ob).heap.size; simp; omega) hn).trans (Below.heap_alloc w ob k hk)⟩

set_option maxRecDepth 100000 in
set_option maxHeartbeats 8000000 in
theorem pairsI_good {w : World} {ga ca gb cb : Nat} {la lb : List Pt} (ha : Pin w (some ⟨ga, 0, none⟩) ga ca la) (hb : Pin w (some ⟨gb, 0, none⟩) gb cb lb) (hT : Tab w) (hga : goodO la = true) (hgb : goodO lb = true) (htk : tkL la = tkL lb) :
    Calls Tryd.prog 16 #[.slice (some ⟨ga, 0, none⟩) la.length ca, .slice (some ⟨gb, 0, none⟩) lb.length cb] w fun e w' => ∃ v, e = .returned (.tuple #[v, .bool true]) ∧ w'.ownsRow w.heap.size 53 4 v (prF (stL la) (stL lb)).length (prC (prF (stL la) (stL lb))) ∧ Below w.heap.size w w' := by
  have SA := hide (fun w' (h : Below w.heap.size w w') => sizesI_any (ha.later h) (hT.below h))
  have SB := hide (fun w' (h : Below w.heap.size w w') => sizesI_any (hb.later h) (hT.below h))
  have hsA : szT la = tkL la := by unfold szT; rw [hga]; rfl
  have hsB : szT lb = tkL la := by unfold szT; rw [hgb, htk]; rfl
  rw [hga, hsA] at SA
  rw [hgb, hsB] at SB
  have hpa := goodO_pk hga
  have hpb := goodO_pk hgb
  have sa := st_len hga
  have sb := st_len hgb
  have hct : ctk (stL la) = ctk (stL lb) := by
    have h1 := (stL_sums la hpa).1
    have h2 := (stL_sums lb hpb).1
    omega
  have SO := hide (fun v w' a len cap hv => stepsOf_any v w' a len cap hv)
  have HA := hide ha
  have HB := hide hb
  have hHT := hide hT
  have CO := hide (fun (w' : World) (Bs : Nat) (h : Below w.heap.size w w') (hc : w'.cell? ⟨Bs, 0, none⟩ = some (.slice (some ⟨gb, 0, none⟩) lb.length cb)) (hl : Bs < w'.heap.size) => collect_any (hb.later h) (hT.below h) hc hl hpb sb)
  have ltT := hT.lt
  have ltA := ha.lt
  have ltB := hb.lt
  clear ha hb hT hga hgb hsA hsB htk
  generalize tkL la = tk at *
  obtain ⟨F, hF⟩ : ∃ F, F = prF (stL la) (stL lb) := ⟨_, rfl⟩
  rw [← hF]
  have HF0 := hide hF
  clear hF
  have hdep : Fence.wide.depth = none := rfl
  refine (callsIn_wide (n := 6)).1 ?_
  refine callsIn_of_wp_marks Tryd.func16 rfl trivial ?_ rfl
  simp only [Tryd.ntmps16, List.size_toArray, List.length_cons, List.length_nil, Nat.reduceAdd, Nat.reduceSub, Array.replicate_succ, Array.replicate_zero, List.push_toArray, List.append_toArray, List.nil_append, List.cons_append]
  have hb0 := Below.refl w.heap.size w
  gi_wp2_with fail
  refine ⟨trivial, ?_⟩
  gi_at_call 27
  refine (callsIn_wide.2 (SA.out _ hb0)).mono ?_
  rintro e w1 ⟨rfl, hb1⟩
  gi_wp2_with fail
  refine ⟨trivial, ?_⟩
  gi_at_call 27
  refine (callsIn_wide.2 (SB.out _ hb1)).mono ?_
  rintro e w2 ⟨rfl, hb'⟩
  have hb2 := hb1.trans (hb'.mono hb1.size)
  clear hb' hb1 SA SB hb0
  gi_wp2_with fail
  refine ⟨trivial, ?_⟩
  gi_at_call 29
  refine (callsIn_wide.2 (SO.out _ _ _ _ _ rfl)).mono ?_
  rintro e w' ⟨rfl, hw⟩
  replace hw := hw.symm; subst hw
  gi_wp2_with fail
  obtain ⟨W3, hW3⟩ : ∃ W3, W3 = (w2.alloc (.cells #[.slice none 0 0] 41)).alloc (.cells #[.slice (some ⟨gb, 0, none⟩) lb.length cb] 26) := ⟨_, rfl⟩
  have b0 : Bxd W3 w2.heap.size (.slice none 0 0) := by rw [hW3]; exact (bxd_new w2 _ _).up ((Below.refl _ _).alloc (Nat.le_refl _) _)
  have b1 : Bxd W3 (w2.heap.size + 1) (.slice (some ⟨gb, 0, none⟩) lb.length cb) := by
    rw [hW3]
    have := bxd_new (w2.alloc (.cells #[.slice none 0 0] 41)) (.slice (some ⟨gb, 0, none⟩) lb.length cb) 26
    rw [World.size_alloc] at this
    exact this
  have hb3 : Below w2.heap.size w2 W3 := by rw [hW3]; exact ((Below.refl _ _).alloc (Nat.le_refl _) _).alloc (by simp) _
  have hs3 : W3.heap.size = w2.heap.size + 2 := by rw [hW3]; simp
  have hbw3 := hb2.trans (hb3.mono hb2.size)
  have hs2 := hb2.size
  rw [← hW3]
  clear hW3
  refine ⟨trivial, ?_⟩
  gi_at_call 28
  refine (callsIn_wide.2 (CO.out W3 (w2.heap.size + 1) hbw3 b1.cell b1.lt)).mono ?_
  rintro e w4 ⟨vS, rfl, oS, hb4⟩
  have hs4 := hb4.size
  have q0 := b0.up hb4
  have hbw4 := hbw3.trans (hb4.mono hbw3.size)
  obtain ⟨aS, cS, rfl, hS1, hS2⟩ := own_shp oS
  clear CO b0 b1 hb3 hbw3
  gi_wp2_with fail
  refine ⟨trivial, ?_⟩
  gi_at_call 29
  refine (callsIn_wide.2 (SO.out _ _ _ _ _ rfl)).mono ?_
  rintro e w' ⟨rfl, hw⟩
  replace hw := hw.symm; subst hw
  clear SO
  gi_wp2_with fail
  refine three_boxes (Φ := fun W2 => Code.wpIn _ _ _ _ _ _ W2) ?_
  intro W2 hB2 hsz2 bt ba bq
  have hbW : Below w.heap.size w W2 := hbw4.trans (hB2.mono hbw4.size)
  have pin2 := HA.out.later hbW
  have tab2 := hHT.out.below hbW
  have hd : w2.heap.size < w4.heap.size ∧ w4.heap.size < w4.heap.size + 1 := by omega
  have oS2 := own_mono (own_below oS hB2) (Nat.zero_le _)
  have hSb : ∀ x, (Value.slice aS (stL lb).length cS).ownBlock = some x → w2.heap.size + 2 ≤ x ∧ x < w4.heap.size := fun x hx => by have := oS.lt x hx; omega
  have hJ := pJ_held w2.heap.size w4.heap.size (w4.heap.size + 1) (.slice aS (stL lb).length cS) (stL lb)
  have start : PKo w2.heap.size w4.heap.size (w4.heap.size + 1) (.slice aS (stL lb).length cS) (stL lb) [] 0 (.slice none 0 0) W2 :=
    ⟨q0.up hB2, bt, ba, World.ownsRow_nil _ _ _ _, oS2, fun x hx => (by cases hx), fun x hx => ⟨by have := hSb x hx; simp; omega, fun c => by cases c⟩⟩
  have hmix : Tryd.prog.follows .mixedOrders = true := by kernel_rfl
  refine wpIn_range rfl (enters_of Tryd.func38 (by kernel_rfl) rfl) (steps_iter pin2 tab2 bq.cell hpa) (fun _ => rfl)
    (J := (fun (pre : List St) => PK w2.heap.size w4.heap.size (w4.heap.size + 1) (.slice aS (stL lb).length cS) (stL lb) (prS (stL lb) pre).1 (prS (stL lb) pre).2)) (Jx := fun _ _ _ _ => False) (O := PO w2.heap.size w4.heap.size (w4.heap.size + 1) (.slice none 0 0) (.slice aS (stL lb).length cS)) hJ (fun _ => no_held) (Nat.le_refl _)
    (by
      have nOld : ∀ k, k < w2.heap.size → ¬ PO w2.heap.size w4.heap.size (w4.heap.size + 1) (.slice none 0 0) (.slice aS (stL lb).length cS) k := by
        rintro k hk (c | c | c)
        · simp at c; omega
        · cases c
        · have := hSb k c; omega
      rintro k (rfl | rfl | rfl)
      · refine ⟨by omega, rfl, ?_⟩
        rintro (c | c | c)
        · simp at c; omega
        · cases c
        · have := hSb _ c; omega
      · exact ⟨by omega, rfl, nOld _ (by omega)⟩
      · exact ⟨by omega, rfl, nOld _ (by omega)⟩)
    ⟨_, start, rfl⟩
    (xAx_held hJ (fun x Bx => { tmps := #[.slice (some ⟨ga, 0, none⟩) la.length ca, .slice (some ⟨gb, 0, none⟩) lb.length cb, undef, undef, .slice none 0 0, .bool false, .int .i64 tk, .int .i64 (szM la), .bool true, .int .i64 tk, .int .i64 (szM lb), .bool true, .pointer (some ⟨w2.heap.size, 0, none⟩), .pointer (some ⟨w4.heap.size, 0, none⟩), .pointer (some ⟨w4.heap.size + 1, 0, none⟩), .pointer (some ⟨Bx, 0, none⟩), undef, undef, .tuple #[.int .i64 tk, .int .i64 (szM la), .bool true], .slice (some ⟨ga, 0, none⟩) la.length ca, .tuple #[.int .i64 tk, .int .i64 (szM la), .bool true], .int .i64 tk, .int .i64 (szM la), .bool true, .tuple #[.int .i64 tk, .int .i64 (szM lb), .bool true], .slice (some ⟨gb, 0, none⟩) lb.length cb, .tuple #[.int .i64 tk, .int .i64 (szM lb), .bool true], .int .i64 tk, .int .i64 (szM lb), .bool true, .bool true, .bool false, .bool false, .bool true, .bool false, .bool false, .bool false, .int .i64 tk, .int .i64 tk, .bool false, .bool false, .slice (some ⟨gb, 0, none⟩) lb.length cb, .func (.func 38) #[] #[.pointer (some ⟨w2.heap.size + 1, 0, none⟩)], .slice aS (stL lb).length cS, .slice (some ⟨ga, 0, none⟩) la.length ca, .func (.func 38) #[] #[.pointer (some ⟨w4.heap.size + 1 + 1, 0, none⟩)], .agg #[.int .i64 (x.k : Int), .int .u8 (x.c.toNat : Int)], undef, undef, undef, undef, undef, undef, undef, undef, undef, undef, undef, undef, undef, undef, undef, undef, undef, undef, undef, undef, undef, undef, undef, undef, undef, undef, undef, undef, undef, undef, undef, undef, undef, undef, undef, undef, undef, undef, undef, undef, undef, undef, undef, undef, undef, undef, undef, undef, undef, undef], defers := [] }))
    ?assigned ?round ?done ?stop
  case assigned =>
    rintro l1 pre x O W K hj hx hK
    have hbx := box2_new W (.int .i64 (x.k : Int)) (.int .u8 (x.c.toNat : Int))
    simp only [stE, stV]
    gi_wp2
    exact hK _ _ _ ((Moves.refl _ _).alloc _) ⟨O, W.heap.size, hJ.up hj ((Below.refl _ _).alloc (Nat.le_refl _) _), fun _ => Iff.rfl, fun c => absurd (hJ.lt hj _ c) (by omega), hbx _, rfl⟩
  case round =>
    rintro l1 pre x a' O W ⟨O1, Bx, ⟨vo, hP, rfl⟩, hB, hnB, hbx, rfl⟩ hl1 hnl hx
    have hso := (stL_so hpa x (hx.subset (by simp))).1
    have hlen : pre.length + 1 ≤ 600 := by have := pre_len hx; simp at this; omega
    have hcx := ctk_pre hx
    have hI := prI_of (ys := stL lb) (pre := pre) (by rw [ctk_app] at hcx; omega)
    have hsn := prS_snoc (stL lb) pre x
    have hout : (prS (stL lb) pre).1.length ≤ 1200 := by have := hI.sz; have := hI.le; omega
    obtain ⟨u0, hu0, hz0, hz1, hz2⟩ := info_parts Tryd.infoPair
    obtain ⟨c0, c1⟩ := hbx.cells
    have HB := hide hB
    have ltx := hbx.lt
    have MV : Hid (∀ O' W', Moves (PO w2.heap.size w4.heap.size (w4.heap.size + 1) vo (.slice aS (stL lb).length cS)) W O' W' → Moves O W O' W') := hide (fun O' W' m => m.wider (fun k _ c => (HB.out k).2 (.inl c)) (fun k hk c => (HB.out k).2 (.inl (m.own k hk c))))
    clear hB hnl hl1
    obtain ⟨xk, xc⟩ := x
    by_cases hx2 : xk = 2
    · subst hx2
      have e : prS (stL lb) (pre ++ [(⟨2, xc⟩ : St)]) = ((prS (stL lb) pre).1 ++ [((⟨2, xc⟩ : St), z0s)], (prS (stL lb) pre).2) := by rw [hsn]; simp [prT]
      have HE := hide e
      generalize hpr : prS (stL lb) pre = pr at *
      clear hpr e hsn hcx hso hI
      obtain ⟨out, at'⟩ := pr
      simp only at hout hP HE
      have HP := hide hP
      have e0 := hP.bo.cell
      have f0 := hP.bo.fz
      have lt0 := hP.bo.lt
      have ne0 : vo.ownBlock ≠ some w2.heap.size := fun c => hP.no _ c (by simp)
      clear hP hbx
      gi_wp2_with (gi_at_builtin; refine listIn_app _ rfl _ _ 41 rfl w2.heap.size 53 u0 _ 4 32 Tryd.underlying41 hu0 hz0 hz1 hz2 rfl (by omega) vo out.length (prC out) rfl (HP.out.ow.alloc _) ⟨W.heap.size, 0, none⟩ 1 1 [.int .i64 2, .int .u8 (xc.toNat : Int), .int .i64 0, .int .u8 0] rfl rfl (World.news_of_block (cs := #[.int .i64 2, .int .u8 (xc.toNat : Int), .int .i64 0, .int .u8 0]) (t := 53) (fr := (0, 0)) (heap_alloc_new W _)) (by simp [Value.oneCell']) (by omega) (by unfold maxLen; omega) (by omega) (by simp; omega) (W.heap.size + 1) (by simp) ?_; intro gg cap' w5 hown1 hgrow hat; have hcz := (hgrow.cell_far ⟨w2.heap.size, 0, none⟩ (by simp; omega) (Ne.symm ne0)).trans (World.cell?_of_block (Below.heap_alloc W _ _ lt0) |>.trans e0); have hfz := (hgrow.frozen_far ⟨w2.heap.size, 0, none⟩ (by simp; omega) (Ne.symm ne0)).trans (World.frozen?_of_block (Below.heap_alloc W _ _ lt0) |>.trans f0))
      obtain ⟨A1, A2⟩ := HP.out.out (p := ((⟨2, xc⟩ : St), z0s)) hd hown1 (grownBy_al hgrow) (hat.imp id (fun e => by omega))
      refine ⟨_, MV.out _ _ A2, _, ?_, rfl⟩
      rw [HE.out]
      exact A1
    · have hle : ctk (pre ++ [(⟨xk, xc⟩ : St)]) ≤ ctk (stL lb) := by omega
      obtain ⟨hnx, hny⟩ := pr_next hI.le hI.ct hx2 hle
      have hgd : ((stL lb).drop (prS (stL lb) pre).2).getD (nP ((stL lb).drop (prS (stL lb) pre).2)) z0s = (stL lb)[(prS (stL lb) pre).2 + nP ((stL lb).drop (prS (stL lb) pre).2)] := by
        rw [List.getD_eq_getElem?_getD, List.getElem?_drop, List.getElem?_eq_getElem hnx]; rfl
      have e : prS (stL lb) (pre ++ [(⟨xk, xc⟩ : St)]) = ((prS (stL lb) pre).1 ++ (((stL lb).drop (prS (stL lb) pre).2).take (nP ((stL lb).drop (prS (stL lb) pre).2))).map (fun y => (z0s, y)) ++ [((⟨xk, xc⟩ : St), (stL lb)[(prS (stL lb) pre).2 + nP ((stL lb).drop (prS (stL lb) pre).2)])], (prS (stL lb) pre).2 + nP ((stL lb).drop (prS (stL lb) pre).2) + 1) := by
        rw [hsn]; unfold prT; rw [if_neg hx2, hgd]
      have HE := hide e
      have hPut := fun j hj => nP_at ((stL lb).drop (prS (stL lb) pre).2) j hj
      have hAt := hI.le
      generalize hpr : prS (stL lb) pre = pr at *
      clear hpr e hsn hcx hI hgd hle
      obtain ⟨out0, at0⟩ := pr
      simp only at hout hP HE hnx hny hPut hAt
      generalize hn : nP ((stL lb).drop at0) = n at *
      clear hn
      have hyl : 0 < (stL lb).length := by omega
      obtain ⟨gS, cS', ev, -, -, -⟩ := steps_row hP.os hyl
      cases ev
      have hk2 : ((xk : Int) == 2) = false := by
        rw [beq_eq_false_iff_ne]; omega
      have hxk : xk ≤ 3 := by rcases hso with e | e | e <;> simp only at e <;> omega
      have HPS := hide hP
      have HPUT := hide hPut
      have HNY := hide hny
      have HBX := hide hbx
      clear hP hbx hPut hso hny
      gi_wp2
      gi_loopw [70] (fun _ wr => ∃ (j : Nat) (O' : Nat → Prop), j ≤ n ∧ PK w2.heap.size w4.heap.size (w4.heap.size + 1) (.slice (some ⟨gS, 0, none⟩) (stL lb).length cS) (stL lb) (out0 ++ (((stL lb).drop at0).take j).map (fun y => (z0s, y))) (at0 + j) O' wr ∧ Moves (PO w2.heap.size w4.heap.size (w4.heap.size + 1) vo (.slice (some ⟨gS, 0, none⟩) (stL lb).length cS)) W O' wr) (fun _ wr => n - (atOf wr (w4.heap.size + 1) - at0))
      case atStart => exact ⟨0, _, by omega, ⟨vo, by simpa using HPS.out, rfl⟩, Moves.refl _ _⟩
      case round =>
        obtain ⟨j, O', hj, ⟨vo1, hP, rfl⟩, mv⟩ := hrel
        have hjl : at0 + j < (stL lb).length := by omega
        obtain ⟨gS', cS'', ev, -, hcm, hrow⟩ := steps_row hP.os hyl
        cases ev
        obtain ⟨r0, r1⟩ := hrow (at0 + j) hjl
        have hbx := HBX.out.block (mv.same Bx ltx hnB)
        have nBx : ¬ PO w2.heap.size w4.heap.size (w4.heap.size + 1) vo1 (.slice (some ⟨gS, 0, none⟩) (stL lb).length cS) Bx := fun c => hnB (mv.own Bx ltx c)
        have ltx' : Bx < wr.heap.size := hbx.lt
        obtain ⟨c0', c1'⟩ := hbx.cells
        have hgL : gS < wr.heap.size := (hP.os.lt gS rfl).2
        have hns := hP.ns gS rfl
        obtain ⟨out, hout1⟩ : ∃ o, o = out0 ++ (((stL lb).drop at0).take j).map (fun y => (z0s, y)) := ⟨_, rfl⟩
        obtain ⟨at', hat1⟩ : ∃ a, a = at0 + j := ⟨_, rfl⟩
        have hol : out.length ≤ 2000 := by rw [hout1]; simp; omega
        rw [← hout1, ← hat1] at hP
        have hy : ∃ y, (stL lb)[at0 + j] = y := ⟨_, rfl⟩
        obtain ⟨⟨yk, yc⟩, hy⟩ := hy
        rw [hy, ← hat1] at r0 r1
        simp only at r0 r1
        have hatl : at' < (stL lb).length := by omega
        have hatI : (at' : Int) < ((stL lb).length : Int) := by omega
        have e0 := hP.bo.cell
        have f0 := hP.bo.fz
        have lt0 := hP.bo.lt
        have et := hP.bt.cell
        have ea := hP.ba.cell
        have ltt := hP.bt.lt
        have lta := hP.ba.lt
        have ne0 : vo1.ownBlock ≠ some w2.heap.size := fun c => hP.no _ c (by simp)
        have net : vo1.ownBlock ≠ some w4.heap.size := fun c => hP.no _ c (by simp)
        have nea : vo1.ownBlock ≠ some (w4.heap.size + 1) := fun c => hP.no _ c (by simp)
        have neg : vo1.ownBlock ≠ some gS := hns.2
        have nex : vo1.ownBlock ≠ some Bx := fun c => nBx (.inr (.inl c))
        have nb0 : Bx ≠ w2.heap.size := fun c => nBx (.inl (by simp [c]))
        have ng0 : gS ≠ w2.heap.size := fun c => hns.1 (by simp [c])
        have HP := hide hP
        have FAR : Hid (∀ (ob : Obj) (w5 : World), (wr.alloc ob).drew.grownBy w5 vo1.ownBlock → w5.cell? ⟨w4.heap.size, 0, none⟩ = some (.slice (some ⟨gS, 0, none⟩) (stL lb).length cS) ∧ w5.cell? ⟨w4.heap.size + 1, 0, none⟩ = some (.int .i64 (at' : Int)) ∧ w5.cell? ⟨gS, at' * 2, none⟩ = some (.int .i64 (yk : Int)) ∧ w5.cell? ⟨gS, at' * 2 + 1, none⟩ = some (.int .u8 (yc.toNat : Int)) ∧ w5.cell? ⟨Bx, 0, none⟩ = some (.int .i64 (xk : Int)) ∧ w5.cell? ⟨Bx, 1, none⟩ = some (.int .u8 (xc.toNat : Int))) := hide (fun ob w5 hg =>
          ⟨(hg.cell_far ⟨w4.heap.size, 0, none⟩ (by simp; omega) (Ne.symm net)).trans (cl_al wr ob _ et), (hg.cell_far ⟨w4.heap.size + 1, 0, none⟩ (by simp; omega) (Ne.symm nea)).trans (cl_al wr ob _ ea), (hg.cell_far ⟨gS, at' * 2, none⟩ (by simp; omega) (Ne.symm neg)).trans (cl_al wr ob _ r0), (hg.cell_far ⟨gS, at' * 2 + 1, none⟩ (by simp; omega) (Ne.symm neg)).trans (cl_al wr ob _ r1), (hg.cell_far ⟨Bx, 0, none⟩ (by simp; omega) (Ne.symm nex)).trans (cl_al wr ob _ c0'), (hg.cell_far ⟨Bx, 1, none⟩ (by simp; omega) (Ne.symm nex)).trans (cl_al wr ob _ c1')⟩)
        have ALC : Hid (∀ ob : Obj, (wr.alloc ob).drew.cell? ⟨w4.heap.size, 0, none⟩ = some (.slice (some ⟨gS, 0, none⟩) (stL lb).length cS) ∧ (wr.alloc ob).drew.cell? ⟨w4.heap.size + 1, 0, none⟩ = some (.int .i64 (at' : Int)) ∧ (wr.alloc ob).drew.cell? ⟨gS, at' * 2, none⟩ = some (.int .i64 (yk : Int)) ∧ (wr.alloc ob).drew.cell? ⟨gS, at' * 2 + 1, none⟩ = some (.int .u8 (yc.toNat : Int)) ∧ (wr.alloc ob).drew.cell? ⟨Bx, 0, none⟩ = some (.int .i64 (xk : Int)) ∧ (wr.alloc ob).drew.cell? ⟨Bx, 1, none⟩ = some (.int .u8 (xc.toNat : Int))) := hide (fun ob => ⟨cl_al wr ob _ et, cl_al wr ob _ ea, cl_al wr ob _ r0, cl_al wr ob _ r1, cl_al wr ob _ c0', cl_al wr ob _ c1'⟩)
        have SET : Hid (∀ (w5 : World) (v : Value), (fun w' => w'.cell? ⟨w4.heap.size, 0, none⟩ = some (.slice (some ⟨gS, 0, none⟩) (stL lb).length cS) ∧ w'.cell? ⟨w4.heap.size + 1, 0, none⟩ = some (.int .i64 (at' : Int)) ∧ w'.cell? ⟨gS, at' * 2, none⟩ = some (.int .i64 (yk : Int)) ∧ w'.cell? ⟨gS, at' * 2 + 1, none⟩ = some (.int .u8 (yc.toNat : Int)) ∧ w'.cell? ⟨Bx, 0, none⟩ = some (.int .i64 (xk : Int)) ∧ w'.cell? ⟨Bx, 1, none⟩ = some (.int .u8 (xc.toNat : Int))) w5 → (fun w' => w'.cell? ⟨w4.heap.size, 0, none⟩ = some (.slice (some ⟨gS, 0, none⟩) (stL lb).length cS) ∧ w'.cell? ⟨w4.heap.size + 1, 0, none⟩ = some (.int .i64 (at' : Int)) ∧ w'.cell? ⟨gS, at' * 2, none⟩ = some (.int .i64 (yk : Int)) ∧ w'.cell? ⟨gS, at' * 2 + 1, none⟩ = some (.int .u8 (yc.toNat : Int)) ∧ w'.cell? ⟨Bx, 0, none⟩ = some (.int .i64 (xk : Int)) ∧ w'.cell? ⟨Bx, 1, none⟩ = some (.int .u8 (xc.toNat : Int))) (w5.setCell ⟨w2.heap.size, 0, none⟩ v)) := hide (fun w5 v h => by
          obtain ⟨h1, h2, h3, h4, h5, h6⟩ := h
          have o : ∀ b i, b ≠ w2.heap.size → (w5.setCell ⟨w2.heap.size, 0, none⟩ v).cell? ⟨b, i, none⟩ = w5.cell? ⟨b, i, none⟩ := fun b i hb => World.cell?_of_block (Below.heap_setCell _ _ _ _ hb)
          exact ⟨(o _ _ (by omega)).trans h1, (o _ _ (by omega)).trans h2, (o _ _ ng0).trans h3, (o _ _ ng0).trans h4, (o _ _ nb0).trans h5, (o _ _ nb0).trans h6⟩)
        have hS : (fun w' => w'.cell? ⟨w4.heap.size, 0, none⟩ = some (.slice (some ⟨gS, 0, none⟩) (stL lb).length cS) ∧ w'.cell? ⟨w4.heap.size + 1, 0, none⟩ = some (.int .i64 (at' : Int)) ∧ w'.cell? ⟨gS, at' * 2, none⟩ = some (.int .i64 (yk : Int)) ∧ w'.cell? ⟨gS, at' * 2 + 1, none⟩ = some (.int .u8 (yc.toNat : Int)) ∧ w'.cell? ⟨Bx, 0, none⟩ = some (.int .i64 (xk : Int)) ∧ w'.cell? ⟨Bx, 1, none⟩ = some (.int .u8 (xc.toNat : Int))) wr.drew := ⟨et, ea, r0, r1, c0', c1'⟩
        by_cases hlt : j < n
        · obtain ⟨hq1, hq2⟩ := HPUT.out j hlt
          rw [List.getElem_drop, hy] at hq2
          simp only at hq2
          have hyk2 : ((yk : Int) == 2) = true := by rw [hq2]; rfl
          clear hq2
          have HS := hide hS
          have REL : Hid (∀ (v' : Value) (W' : World), PKo w2.heap.size w4.heap.size (w4.heap.size + 1) (.slice (some ⟨gS, 0, none⟩) (stL lb).length cS) (stL lb) (out ++ [(z0s, (⟨yk, yc⟩ : St))]) (at' + 1) v' W' → Moves (PO w2.heap.size w4.heap.size (w4.heap.size + 1) vo1 (.slice (some ⟨gS, 0, none⟩) (stL lb).length cS)) wr (PO w2.heap.size w4.heap.size (w4.heap.size + 1) v' (.slice (some ⟨gS, 0, none⟩) (stL lb).length cS)) W' → ∃ (j : Nat) (O' : Nat → Prop), j ≤ n ∧ PK w2.heap.size w4.heap.size (w4.heap.size + 1) (.slice (some ⟨gS, 0, none⟩) (stL lb).length cS) (stL lb) (out0 ++ (((stL lb).drop at0).take j).map (fun y => (z0s, y))) (at0 + j) O' W' ∧ Moves (PO w2.heap.size w4.heap.size (w4.heap.size + 1) vo (.slice (some ⟨gS, 0, none⟩) (stL lb).length cS)) W O' W') := hide (fun v' W' h m => by
            refine ⟨j + 1, _, by omega, ⟨v', ?_, rfl⟩, mv.trans m⟩
            have e1 : out0 ++ (((stL lb).drop at0).take (j + 1)).map (fun y => (z0s, y)) = out ++ [(z0s, (⟨yk, yc⟩ : St))] := by
              rw [hout1, List.take_succ_eq_append_getElem (by rw [List.length_drop]; omega), List.map_append, List.getElem_drop, hy, List.append_assoc]; rfl
            rw [e1, show at0 + (j + 1) = at' + 1 by omega]
            exact h)
          have MEA : Hid (∀ (v' : Value) (W' : World), PKo w2.heap.size w4.heap.size (w4.heap.size + 1) (.slice (some ⟨gS, 0, none⟩) (stL lb).length cS) (stL lb) (out ++ [(z0s, (⟨yk, yc⟩ : St))]) (at' + 1) v' W' → n - (atOf W' (w4.heap.size + 1) - at0) < n - (atOf wr (w4.heap.size + 1) - at0)) := hide (fun v' W' h => by
            have e1 : atOf W' (w4.heap.size + 1) = at' + 1 := by unfold atOf; rw [h.ba.cell]; simp [intOf]
            have e2 : atOf wr (w4.heap.size + 1) = at' := by unfold atOf; rw [HP.out.ba.cell]; simp [intOf]
            rw [e1, e2]; omega)
          clear hout1 hat1 hns hrow hP hbx nBx hS hy
          gi_wp2_with fail
          have hS := HS.out
          generalize vo1 = vo at *
          refine regionIn_any hmix (by kernel_rfl) (fun _ _ h => h) ?_
          refine wpAny_of_held (S := (fun w' => w'.cell? ⟨w4.heap.size, 0, none⟩ = some (.slice (some ⟨gS, 0, none⟩) (stL lb).length cS) ∧ w'.cell? ⟨w4.heap.size + 1, 0, none⟩ = some (.int .i64 (at' : Int)) ∧ w'.cell? ⟨gS, at' * 2, none⟩ = some (.int .i64 (yk : Int)) ∧ w'.cell? ⟨gS, at' * 2 + 1, none⟩ = some (.int .u8 (yc.toNat : Int)) ∧ w'.cell? ⟨Bx, 0, none⟩ = some (.int .i64 (xk : Int)) ∧ w'.cell? ⟨Bx, 1, none⟩ = some (.int .u8 (xc.toNat : Int)))) _ _ _ _ ?_
          refine wpAnyH_take (i := 1) (v := .slice (some ⟨gS, 0, none⟩) (stL lb).length cS) rfl (by kernel_rfl) (by kernel_rfl) (by kernel_rfl) (fun _ _ _ h => h) (Or.inl ⟨by rfl, fun w' hw => by obtain ⟨x1, x2, x3, x4, x5, x6⟩ := hw; go_simp⟩) hS ?_
          refine wpAnyH_take (i := 2) (v := .int .i64 (at' : Int)) rfl (by kernel_rfl) (by kernel_rfl) (by kernel_rfl) (fun _ _ _ h => h) (Or.inl ⟨by rfl, fun w' hw => by obtain ⟨x1, x2, x3, x4, x5, x6⟩ := hw; go_simp⟩) hS ?_
          refine wpAnyH_take (i := 3) (v := .pointer (some ⟨gS, at' * 2, none⟩)) rfl (by kernel_rfl) (by kernel_rfl) (by kernel_rfl) (fun _ _ _ h => h) (Or.inl ⟨by rfl, fun w' hw => by obtain ⟨x1, x2, x3, x4, x5, x6⟩ := hw; go_simp⟩) hS ?_
          refine wpAnyH_take (i := 4) (v := .agg #[.int .i64 (yk : Int), .int .u8 (yc.toNat : Int)]) rfl (by kernel_rfl) (by kernel_rfl) (by kernel_rfl) (fun _ _ _ h => h) (Or.inl ⟨by rfl, fun w' hw => by obtain ⟨x1, x2, x3, x4, x5, x6⟩ := hw; go_simp⟩) hS ?_
          refine wpAnyH_take (i := 5) (v := .agg #[.int .i64 0, .int .u8 0, .int .i64 (yk : Int), .int .u8 (yc.toNat : Int)]) rfl (by kernel_rfl) (by kernel_rfl) (by kernel_rfl) (fun _ _ _ h => h) (Or.inl ⟨by rfl, fun w' hw => by obtain ⟨x1, x2, x3, x4, x5, x6⟩ := hw; go_simp⟩) hS ?_
          refine wpAnyH_ready (rs := [0, 6]) (by kernel_rfl) (by simp) ?_
          refine AllReadyH.cons rfl (fun K hK => ?_) (AllReadyH.cons rfl (fun K hK => ?_) AllReadyH.nil)
          · go_simp
            refine hK.out _ _ hS (fun hS1 => ?_)
            clear hK K
            refine wpAnyH_ready (rs := [6]) (by kernel_rfl) (by simp) ?_
            refine AllReadyH.cons rfl (fun K hK => ?_) AllReadyH.nil
            go_simp
            refine hK.out _ _ (ALC.out _) (fun hS1 => ?_)
            clear hK K
            refine wpAnyH_ready (rs := [7]) (by kernel_rfl) (by simp) ?_
            refine AllReadyH.cons rfl (fun K hK => ?_) AllReadyH.nil
            refine step_append_lies _ (by rfl) _ _ _ (by rfl) w2.heap.size 53 u0 _ 4 32 Tryd.underlying41 hu0 hz0 hz1 hz2 rfl (by omega) vo out.length (prC out) (by rfl) ((HP.out.ow.alloc _).drew) ⟨wr.heap.size, 0, none⟩ 1 1 [.int .i64 0, .int .u8 0, .int .i64 (yk : Int), .int .u8 (yc.toNat : Int)] (by rfl) (by rfl) (World.news_of_block (cs := #[.int .i64 0, .int .u8 0, .int .i64 (yk : Int), .int .u8 (yc.toNat : Int)]) (t := 53) (fr := (0, 0)) (heap_alloc_new wr _)) (by simp [Value.oneCell']) (by omega) (by unfold maxLen; omega) (by omega) (by show _ ≤ (wr.alloc _).heap.size; simp; omega) (wr.heap.size + 1) (by simp) ?_
            intro gg cap' w5 hown1 hgrow hat2 hlt2
            have hcz := (hgrow.cell_far ⟨w2.heap.size, 0, none⟩ (by simp; omega) (Ne.symm ne0)).trans (cl_al wr _ _ e0)
            have hfz := (hgrow.frozen_far ⟨w2.heap.size, 0, none⟩ (by simp; omega) (Ne.symm ne0)).trans (fz_al wr _ _ lt0 f0)
            have hS5 := FAR.out _ _ hgrow
            refine hK.out _ _ hS5 (fun hS2 => ?_)
            clear hK K
            obtain ⟨A1, A2⟩ := HP.out.out (p := (z0s, (⟨yk, yc⟩ : St))) hd hown1 (grown_alp hgrow) (hat2.imp id (fun e => by omega))
            have hS6 := SET.out _ (.slice (some ⟨gg, 0, none⟩) (out.length + 1) cap') hS5
            have g5 := A1.ba.cell
            have z5 := A1.ba.fz
            have B1 := hide (A1.on hd)
            have HA2 := hide A2
            clear hgrow hown1 A1 A2 hat2 hlt2
            refine wpAnyH_ready (rs := [8]) (by kernel_rfl) (by simp) ?_
            refine AllReadyH.cons rfl (fun K hK => ?_) AllReadyH.nil
            go_simp
            refine hK.out _ _ hS6 (fun hS3 => ?_)
            clear hK K
            refine wpAnyH_done (by kernel_rfl) ?_ _
            clear hcz hfz hS5 hS6 hS2 hS3
            gi_wp2
            go_roundw
            case rel => exact REL.out _ _ B1.out.1 (HA2.out.trans B1.out.2)
            case measure => exact MEA.out _ _ B1.out.1
          · go_simp
            refine hK.out _ _ (ALC.out _) (fun hS1 => ?_)
            clear hK K
            have e4a : ∀ ob : Obj, (wr.alloc ob).drew.cell? ⟨w2.heap.size, 0, none⟩ = some vo := fun ob => cl_al wr ob _ e0
            refine wpAnyH_ready (rs := [0]) (by kernel_rfl) (by simp) ?_
            refine AllReadyH.cons rfl (fun K hK => ?_) AllReadyH.nil
            go_simp
            refine hK.out _ _ (ALC.out _) (fun hS1 => ?_)
            clear hK K e4a
            refine wpAnyH_ready (rs := [7]) (by kernel_rfl) (by simp) ?_
            refine AllReadyH.cons rfl (fun K hK => ?_) AllReadyH.nil
            refine step_append_lies _ (by rfl) _ _ _ (by rfl) w2.heap.size 53 u0 _ 4 32 Tryd.underlying41 hu0 hz0 hz1 hz2 rfl (by omega) vo out.length (prC out) (by rfl) ((HP.out.ow.alloc _).drew) ⟨wr.heap.size, 0, none⟩ 1 1 [.int .i64 0, .int .u8 0, .int .i64 (yk : Int), .int .u8 (yc.toNat : Int)] (by rfl) (by rfl) (World.news_of_block (cs := #[.int .i64 0, .int .u8 0, .int .i64 (yk : Int), .int .u8 (yc.toNat : Int)]) (t := 53) (fr := (0, 0)) (heap_alloc_new wr _)) (by simp [Value.oneCell']) (by omega) (by unfold maxLen; omega) (by omega) (by show _ ≤ (wr.alloc _).heap.size; simp; omega) (wr.heap.size + 1) (by simp) ?_
            intro gg cap' w5 hown1 hgrow hat2 hlt2
            have hcz := (hgrow.cell_far ⟨w2.heap.size, 0, none⟩ (by simp; omega) (Ne.symm ne0)).trans (cl_al wr _ _ e0)
            have hfz := (hgrow.frozen_far ⟨w2.heap.size, 0, none⟩ (by simp; omega) (Ne.symm ne0)).trans (fz_al wr _ _ lt0 f0)
            have hS5 := FAR.out _ _ hgrow
            refine hK.out _ _ hS5 (fun hS2 => ?_)
            clear hK K
            obtain ⟨A1, A2⟩ := HP.out.out (p := (z0s, (⟨yk, yc⟩ : St))) hd hown1 (grown_alp hgrow) (hat2.imp id (fun e => by omega))
            have hS6 := SET.out _ (.slice (some ⟨gg, 0, none⟩) (out.length + 1) cap') hS5
            have g5 := A1.ba.cell
            have z5 := A1.ba.fz
            have B1 := hide (A1.on hd)
            have HA2 := hide A2
            clear hgrow hown1 A1 A2 hat2 hlt2
            refine wpAnyH_ready (rs := [8]) (by kernel_rfl) (by simp) ?_
            refine AllReadyH.cons rfl (fun K hK => ?_) AllReadyH.nil
            go_simp
            refine hK.out _ _ hS6 (fun hS3 => ?_)
            clear hK K
            refine wpAnyH_done (by kernel_rfl) ?_ _
            clear hcz hfz hS5 hS6 hS2 hS3
            gi_wp2
            go_roundw
            case rel => exact REL.out _ _ B1.out.1 (HA2.out.trans B1.out.2)
            case measure => exact MEA.out _ _ B1.out.1
        · obtain rfl : j = n := by omega
          have hyk : yk ≠ 2 := fun c => HNY.out (by rw [hy]; exact c)
          have hyk2 : ((yk : Int) == 2) = false := by rw [beq_eq_false_iff_ne]; omega
          have HS := hide hS
          have END : Hid (∀ (v' : Value) (W' : World), PKo w2.heap.size w4.heap.size (w4.heap.size + 1) (.slice (some ⟨gS, 0, none⟩) (stL lb).length cS) (stL lb) (out ++ [((⟨xk, xc⟩ : St), (⟨yk, yc⟩ : St))]) (at' + 1) v' W' → Moves (PO w2.heap.size w4.heap.size (w4.heap.size + 1) vo1 (.slice (some ⟨gS, 0, none⟩) (stL lb).length cS)) wr (PO w2.heap.size w4.heap.size (w4.heap.size + 1) v' (.slice (some ⟨gS, 0, none⟩) (stL lb).length cS)) W' → ∃ O', Moves O W O' W' ∧ PK w2.heap.size w4.heap.size (w4.heap.size + 1) (.slice (some ⟨gS, 0, none⟩) (stL lb).length cS) (stL lb) (prS (stL lb) (pre ++ [(⟨xk, xc⟩ : St)])).1 (prS (stL lb) (pre ++ [(⟨xk, xc⟩ : St)])).2 O' W') := hide (fun v' W' h m => by
            refine ⟨_, MV.out _ _ (mv.trans m), v', ?_, rfl⟩
            rw [HE.out, hy]
            simp only
            rw [← hout1, ← hat1]
            exact h)
          clear hout1 hat1 hns hrow hP hbx nBx hS hy hyk
          gi_wp2_with fail
          have hS := HS.out
          generalize vo1 = vo at *
          refine regionIn_any hmix (by kernel_rfl) (fun _ _ h => h) ?_
          refine wpAny_of_held (S := (fun w' => w'.cell? ⟨w4.heap.size, 0, none⟩ = some (.slice (some ⟨gS, 0, none⟩) (stL lb).length cS) ∧ w'.cell? ⟨w4.heap.size + 1, 0, none⟩ = some (.int .i64 (at' : Int)) ∧ w'.cell? ⟨gS, at' * 2, none⟩ = some (.int .i64 (yk : Int)) ∧ w'.cell? ⟨gS, at' * 2 + 1, none⟩ = some (.int .u8 (yc.toNat : Int)) ∧ w'.cell? ⟨Bx, 0, none⟩ = some (.int .i64 (xk : Int)) ∧ w'.cell? ⟨Bx, 1, none⟩ = some (.int .u8 (xc.toNat : Int)))) _ _ _ _ ?_
          refine wpAnyH_take (i := 1) (v := .agg #[.int .i64 (xk : Int), .int .u8 (xc.toNat : Int)]) rfl (by kernel_rfl) (by kernel_rfl) (by kernel_rfl) (fun _ _ _ h => h) (Or.inl ⟨by rfl, fun w' hw => by obtain ⟨x1, x2, x3, x4, x5, x6⟩ := hw; go_simp⟩) hS ?_
          refine wpAnyH_take (i := 2) (v := .slice (some ⟨gS, 0, none⟩) (stL lb).length cS) rfl (by kernel_rfl) (by kernel_rfl) (by kernel_rfl) (fun _ _ _ h => h) (Or.inl ⟨by rfl, fun w' hw => by obtain ⟨x1, x2, x3, x4, x5, x6⟩ := hw; go_simp⟩) hS ?_
          refine wpAnyH_take (i := 3) (v := .int .i64 (at' : Int)) rfl (by kernel_rfl) (by kernel_rfl) (by kernel_rfl) (fun _ _ _ h => h) (Or.inl ⟨by rfl, fun w' hw => by obtain ⟨x1, x2, x3, x4, x5, x6⟩ := hw; go_simp⟩) hS ?_
          refine wpAnyH_take (i := 4) (v := .pointer (some ⟨gS, at' * 2, none⟩)) rfl (by kernel_rfl) (by kernel_rfl) (by kernel_rfl) (fun _ _ _ h => h) (Or.inl ⟨by rfl, fun w' hw => by obtain ⟨x1, x2, x3, x4, x5, x6⟩ := hw; go_simp⟩) hS ?_
          refine wpAnyH_take (i := 5) (v := .agg #[.int .i64 (yk : Int), .int .u8 (yc.toNat : Int)]) rfl (by kernel_rfl) (by kernel_rfl) (by kernel_rfl) (fun _ _ _ h => h) (Or.inl ⟨by rfl, fun w' hw => by obtain ⟨x1, x2, x3, x4, x5, x6⟩ := hw; go_simp⟩) hS ?_
          refine wpAnyH_take (i := 6) (v := .agg #[.int .i64 (xk : Int), .int .u8 (xc.toNat : Int), .int .i64 (yk : Int), .int .u8 (yc.toNat : Int)]) rfl (by kernel_rfl) (by kernel_rfl) (by kernel_rfl) (fun _ _ _ h => h) (Or.inl ⟨by rfl, fun w' hw => by obtain ⟨x1, x2, x3, x4, x5, x6⟩ := hw; go_simp⟩) hS ?_
          refine wpAnyH_ready (rs := [0, 7]) (by kernel_rfl) (by simp) ?_
          refine AllReadyH.cons rfl (fun K hK => ?_) (AllReadyH.cons rfl (fun K hK => ?_) AllReadyH.nil)
          · go_simp
            refine hK.out _ _ hS (fun hS1 => ?_)
            clear hK K
            refine wpAnyH_ready (rs := [7]) (by kernel_rfl) (by simp) ?_
            refine AllReadyH.cons rfl (fun K hK => ?_) AllReadyH.nil
            go_simp
            refine hK.out _ _ (ALC.out _) (fun hS1 => ?_)
            clear hK K
            refine wpAnyH_ready (rs := [8]) (by kernel_rfl) (by simp) ?_
            refine AllReadyH.cons rfl (fun K hK => ?_) AllReadyH.nil
            refine step_append_lies _ (by rfl) _ _ _ (by rfl) w2.heap.size 53 u0 _ 4 32 Tryd.underlying41 hu0 hz0 hz1 hz2 rfl (by omega) vo out.length (prC out) (by rfl) ((HP.out.ow.alloc _).drew) ⟨wr.heap.size, 0, none⟩ 1 1 [.int .i64 (xk : Int), .int .u8 (xc.toNat : Int), .int .i64 (yk : Int), .int .u8 (yc.toNat : Int)] (by rfl) (by rfl) (World.news_of_block (cs := #[.int .i64 (xk : Int), .int .u8 (xc.toNat : Int), .int .i64 (yk : Int), .int .u8 (yc.toNat : Int)]) (t := 53) (fr := (0, 0)) (heap_alloc_new wr _)) (by simp [Value.oneCell']) (by omega) (by unfold maxLen; omega) (by omega) (by show _ ≤ (wr.alloc _).heap.size; simp; omega) (wr.heap.size + 1) (by simp) ?_
            intro gg cap' w5 hown1 hgrow hat2 hlt2
            have hcz := (hgrow.cell_far ⟨w2.heap.size, 0, none⟩ (by simp; omega) (Ne.symm ne0)).trans (cl_al wr _ _ e0)
            have hfz := (hgrow.frozen_far ⟨w2.heap.size, 0, none⟩ (by simp; omega) (Ne.symm ne0)).trans (fz_al wr _ _ lt0 f0)
            have hS5 := FAR.out _ _ hgrow
            refine hK.out _ _ hS5 (fun hS2 => ?_)
            clear hK K
            obtain ⟨A1, A2⟩ := HP.out.out (p := ((⟨xk, xc⟩ : St), (⟨yk, yc⟩ : St))) hd hown1 (grown_alp hgrow) (hat2.imp id (fun e => by omega))
            have hS6 := SET.out _ (.slice (some ⟨gg, 0, none⟩) (out.length + 1) cap') hS5
            have g5 := A1.ba.cell
            have z5 := A1.ba.fz
            have B1 := hide (A1.on hd)
            have HA2 := hide A2
            clear hgrow hown1 A1 A2 hat2 hlt2
            refine wpAnyH_ready (rs := [9]) (by kernel_rfl) (by simp) ?_
            refine AllReadyH.cons rfl (fun K hK => ?_) AllReadyH.nil
            go_simp
            refine hK.out _ _ hS6 (fun hS3 => ?_)
            clear hK K
            refine wpAnyH_done (by kernel_rfl) ?_ _
            clear hcz hfz hS5 hS6 hS2 hS3
            gi_wp2
            exact END.out _ _ B1.out.1 (HA2.out.trans B1.out.2)
          · go_simp
            refine hK.out _ _ (ALC.out _) (fun hS1 => ?_)
            clear hK K
            have e4a : ∀ ob : Obj, (wr.alloc ob).drew.cell? ⟨w2.heap.size, 0, none⟩ = some vo := fun ob => cl_al wr ob _ e0
            refine wpAnyH_ready (rs := [0]) (by kernel_rfl) (by simp) ?_
            refine AllReadyH.cons rfl (fun K hK => ?_) AllReadyH.nil
            go_simp
            refine hK.out _ _ (ALC.out _) (fun hS1 => ?_)
            clear hK K e4a
            refine wpAnyH_ready (rs := [8]) (by kernel_rfl) (by simp) ?_
            refine AllReadyH.cons rfl (fun K hK => ?_) AllReadyH.nil
            refine step_append_lies _ (by rfl) _ _ _ (by rfl) w2.heap.size 53 u0 _ 4 32 Tryd.underlying41 hu0 hz0 hz1 hz2 rfl (by omega) vo out.length (prC out) (by rfl) ((HP.out.ow.alloc _).drew) ⟨wr.heap.size, 0, none⟩ 1 1 [.int .i64 (xk : Int), .int .u8 (xc.toNat : Int), .int .i64 (yk : Int), .int .u8 (yc.toNat : Int)] (by rfl) (by rfl) (World.news_of_block (cs := #[.int .i64 (xk : Int), .int .u8 (xc.toNat : Int), .int .i64 (yk : Int), .int .u8 (yc.toNat : Int)]) (t := 53) (fr := (0, 0)) (heap_alloc_new wr _)) (by simp [Value.oneCell']) (by omega) (by unfold maxLen; omega) (by omega) (by show _ ≤ (wr.alloc _).heap.size; simp; omega) (wr.heap.size + 1) (by simp) ?_
            intro gg cap' w5 hown1 hgrow hat2 hlt2
            have hcz := (hgrow.cell_far ⟨w2.heap.size, 0, none⟩ (by simp; omega) (Ne.symm ne0)).trans (cl_al wr _ _ e0)
            have hfz := (hgrow.frozen_far ⟨w2.heap.size, 0, none⟩ (by simp; omega) (Ne.symm ne0)).trans (fz_al wr _ _ lt0 f0)
            have hS5 := FAR.out _ _ hgrow
            refine hK.out _ _ hS5 (fun hS2 => ?_)
            clear hK K
            obtain ⟨A1, A2⟩ := HP.out.out (p := ((⟨xk, xc⟩ : St), (⟨yk, yc⟩ : St))) hd hown1 (grown_alp hgrow) (hat2.imp id (fun e => by omega))
            have hS6 := SET.out _ (.slice (some ⟨gg, 0, none⟩) (out.length + 1) cap') hS5
            have g5 := A1.ba.cell
            have z5 := A1.ba.fz
            have B1 := hide (A1.on hd)
            have HA2 := hide A2
            clear hgrow hown1 A1 A2 hat2 hlt2
            refine wpAnyH_ready (rs := [9]) (by kernel_rfl) (by simp) ?_
            refine AllReadyH.cons rfl (fun K hK => ?_) AllReadyH.nil
            go_simp
            refine hK.out _ _ hS6 (fun hS3 => ?_)
            clear hK K
            refine wpAnyH_done (by kernel_rfl) ?_ _
            clear hcz hfz hS5 hS6 hS2 hS3
            gi_wp2
            exact END.out _ _ B1.out.1 (HA2.out.trans B1.out.2)
  case done =>
    rintro D O' W hD hnD ⟨vo, hP, rfl⟩ mv hK
    have hI := prI_of (ys := stL lb) (pre := stL la) (by omega)
    have hAt := hI.le
    have hout : (prS (stL lb) (stL la)).1.length ≤ 1200 := by have := hI.sz; omega
    have hF := HF0.out
    unfold prF at hF
    generalize prS (stL lb) (stL la) = pr at *
    obtain ⟨out0, at0⟩ := pr
    simp only at hAt hout hP hF
    have HF := hide hF
    clear hI hF
    obtain ⟨u0, hu0, hz0, hz1, hz2⟩ := info_parts Tryd.infoPair
    have et := hP.bt.cell
    have ea := hP.ba.cell
    have hDl : D < W.heap.size := (Array.getElem?_eq_some_iff.1 hK).1
    have HPS := hide hP
    have HBE : Hid (∀ (O2 : Nat → Prop) (W' : World), Moves (PO w2.heap.size w4.heap.size (w4.heap.size + 1) vo (.slice aS (stL lb).length cS)) W O2 W' → Below w.heap.size w W') := hide (fun O2 W' m => hbW.trans ((mv.trans m).below (by omega) (fun k hk c => by
      rcases c with c | c | c
      · simp at c; omega
      · cases c
      · have := hSb k c; omega)))
    clear hP mv
    rcases Nat.lt_or_ge at0 (stL lb).length with hlt0 | hge0
    · obtain ⟨gS, cS', ev, -, hcm, -⟩ := steps_row HPS.out.os (by omega)
      cases ev
      have hne : ¬ cS = at0 := by omega
      have hI0 : (0 : Int) ≤ (at0 : Int) := by omega
      have hI1 : (at0 : Int) ≤ ((stL lb).length : Int) := by omega
      gi_wp2
      clear et ea
      gi_loopw [86] (fun i wr => ∃ (j : Nat) (O2 : Nat → Prop), j ≤ (stL lb).length - at0 ∧ i = .int .i64 j ∧ PK w2.heap.size w4.heap.size (w4.heap.size + 1) (.slice (some ⟨gS, 0, none⟩) (stL lb).length cS) (stL lb) (out0 ++ (((stL lb).drop at0).take j).map (fun y => (z0s, y))) at0 O2 wr ∧ Moves (PO w2.heap.size w4.heap.size (w4.heap.size + 1) vo (.slice (some ⟨gS, 0, none⟩) (stL lb).length cS)) W O2 wr) (fun i _ => (stL lb).length - at0 - (intOf i).toNat)
      case atStart => exact ⟨0, _, by omega, rfl, ⟨vo, by simpa using HPS.out, rfl⟩, Moves.refl _ _⟩
      case round =>
        obtain ⟨j, O2, hj, rfl, ⟨vo1, hP2, rfl⟩, m2⟩ := hrel
        by_cases hlt : j < (stL lb).length - at0
        · have hjl : at0 + j < (stL lb).length := by omega
          obtain ⟨gS', cS'', ev, -, -, hrow⟩ := steps_row hP2.os (by omega)
          cases ev
          obtain ⟨r0, r1⟩ := hrow (at0 + j) hjl
          rw [show (at0 + j) * 2 = at0 * 2 + j * 2 by omega] at r0 r1
          have hy : ∃ y, (stL lb)[at0 + j] = y := ⟨_, rfl⟩
          obtain ⟨⟨yk, yc⟩, hy⟩ := hy
          rw [hy] at r0 r1
          simp only at r0 r1
          have e1 : out0 ++ (((stL lb).drop at0).take (j + 1)).map (fun y => (z0s, y)) = (out0 ++ (((stL lb).drop at0).take j).map (fun y => (z0s, y))) ++ [(z0s, (⟨yk, yc⟩ : St))] := by
            rw [List.take_succ_eq_append_getElem (by rw [List.length_drop]; omega), List.map_append, List.getElem_drop, hy, List.append_assoc]; rfl
          have HE1 := hide e1
          have hol : (out0 ++ (((stL lb).drop at0).take j).map (fun y => (z0s, y))).length ≤ 2000 := by simp; omega
          generalize out0 ++ (((stL lb).drop at0).take j).map (fun y => (z0s, y)) = out at *
          have hPa := hP2.kept (W' := wr.alloc (.cells #[.int .i64 (yk : Int), .int .u8 (yc.toNat : Int)] 51)) (fun k hk => Below.heap_alloc _ _ _ (hP2.lt k hk))
          have m3 : Moves (PO w2.heap.size w4.heap.size (w4.heap.size + 1) vo1 (.slice (some ⟨gS, 0, none⟩) (stL lb).length cS)) wr (PO w2.heap.size w4.heap.size (w4.heap.size + 1) vo1 (.slice (some ⟨gS, 0, none⟩) (stL lb).length cS)) (wr.alloc (.cells #[.int .i64 (yk : Int), .int .u8 (yc.toNat : Int)] 51)) := ((Moves.refl _ _).alloc _).wider (fun _ _ c => c) (fun _ _ c => c)
          have HM := hide (m2.trans m3)
          have HP := hide hPa
          have e0 := hPa.bo.cell
          have f0 := hPa.bo.fz
          have lt0 := hPa.bo.lt
          have ne0 : vo1.ownBlock ≠ some w2.heap.size := fun c => hPa.no _ c (by simp)
          have e0' := hP2.bo.cell
          have lt0' := hP2.bo.lt
          have f0' := hP2.bo.fz
          clear hrow hy e1 hP2 m2 m3 hPa
          have NEW : Hid (∀ j u, [Value.int .i64 0, .int .u8 0, .int .i64 (yk : Int), .int .u8 (yc.toNat : Int)][j]? = some u → ((wr.alloc (.cells #[.int .i64 (yk : Int), .int .u8 (yc.toNat : Int)] 51)).alloc (.cells #[.int .i64 0, .int .u8 0, .int .i64 (yk : Int), .int .u8 (yc.toNat : Int)] 53)).cell? ((⟨wr.heap.size + 1, 0, none⟩ : Addr).add j) = some u) := hide (World.news_of_block (cs := #[.int .i64 0, .int .u8 0, .int .i64 (yk : Int), .int .u8 (yc.toNat : Int)]) (t := 53) (fr := (0, 0)) (by have := heap_alloc_new (wr.alloc (.cells #[.int .i64 (yk : Int), .int .u8 (yc.toNat : Int)] 51)) (.cells #[.int .i64 0, .int .u8 0, .int .i64 (yk : Int), .int .u8 (yc.toNat : Int)] 53); rw [World.size_alloc] at this; exact this))
          gi_wp2_with (gi_at_builtin; refine listWide_app _ rfl _ _ 41 rfl w2.heap.size 53 u0 _ 4 32 Tryd.underlying41 hu0 hz0 hz1 hz2 rfl (by omega) vo1 out.length (prC out) rfl (HP.out.ow.alloc _) ⟨wr.heap.size + 1, 0, none⟩ 1 1 [.int .i64 0, .int .u8 0, .int .i64 (yk : Int), .int .u8 (yc.toNat : Int)] rfl rfl NEW.out (by simp [Value.oneCell']) (by omega) (by unfold maxLen; omega) (by omega) (by simp; omega) (wr.heap.size + 2) (by simp) ?_; intro gg cap' w5 hown1 hgrow hat; have hcz := (hgrow.cell_far ⟨w2.heap.size, 0, none⟩ (by simp at lt0 ⊢; omega) (Ne.symm ne0)).trans (World.cell?_of_block (Below.heap_alloc _ _ _ lt0) |>.trans e0); have hfz := (hgrow.frozen_far ⟨w2.heap.size, 0, none⟩ (by simp at lt0 ⊢; omega) (Ne.symm ne0)).trans (World.frozen?_of_block (Below.heap_alloc _ _ _ lt0) |>.trans f0))
          obtain ⟨A1, A2⟩ := HP.out.out (p := (z0s, (⟨yk, yc⟩ : St))) hd hown1 (grownBy_al hgrow) (hat.imp id (fun e => by rw [e]; simp))
          have HA1 := hide A1
          have HA2 := hide (HM.out.trans A2)
          clear A1 A2 hgrow hown1 hat hcz hfz
          gi_wp2
          go_roundw
          case rel => exact ⟨j + 1, _, by omega, by go_num, ⟨_, by rw [HE1.out]; exact HA1.out, rfl⟩, HA2.out⟩
          case measure => simp [intOf]; omega
        · obtain rfl : j = (stL lb).length - at0 := by omega
          rw [List.take_of_length_le (by rw [List.length_drop]; omega)] at hP2
          have e0 := hP2.bo.cell
          have hKr : wr.heap[D]? = some (.deferred (some [])) := (m2.same D hDl hnD).trans hK
          have HO := hide (own_stays (w2 := wr.putObj D (.deferred none)) (own_mono hP2.ow hs2) (fun x hx => World.putObj_heap_other (fun e => hnD (m2.own D hDl (.inr (.inl (e ▸ hx)))))))
          have HBf := hide ((HBE.out _ _ m2).trans (⟨rfl, rfl, rfl, by simp, fun k hk => World.putObj_heap_other (by omega)⟩ : Below w.heap.size wr (wr.putObj D (.deferred none))))
          clear hP2 m2 hK hnD
          gi_wp2
          refine ⟨by simp, .inl ⟨_, _, rfl, run_takeDeferred hKr, ?_⟩⟩
          refine ⟨.tuple #[vo1, .bool true], ?_, vo1, rfl, ?_, HBf.out⟩
          · simp [results, Tryd.f16, go_sem]
          · rw [HF.out]; exact HO.out
    · obtain rfl : at0 = (stL lb).length := by omega
      rw [List.drop_length, List.map_nil, List.append_nil] at HF
      gi_wp2
      all_goals
        gi_loopw [86] (fun i wr => i = .int .i64 0 ∧ wr = W) (fun _ _ => 0)
        case atStart => exact ⟨rfl, rfl⟩
        case round =>
          obtain ⟨rfl, rfl⟩ := hrel
          have hP2 := HPS.out
          have m2 := Moves.refl (PO w2.heap.size w4.heap.size (w4.heap.size + 1) vo (.slice aS (stL lb).length cS)) wr
          have e0 := hP2.bo.cell
          have hKr : wr.heap[D]? = some (.deferred (some [])) := (m2.same D hDl hnD).trans hK
          have HO := hide (own_stays (w2 := wr.putObj D (.deferred none)) (own_mono hP2.ow hs2) (fun x hx => World.putObj_heap_other (fun e => hnD (m2.own D hDl (.inr (.inl (e ▸ hx)))))))
          have HBf := hide ((HBE.out _ _ m2).trans (⟨rfl, rfl, rfl, by simp, fun k hk => World.putObj_heap_other (by omega)⟩ : Below w.heap.size wr (wr.putObj D (.deferred none))))
          clear hP2 m2 hK hnD
          gi_wp2
          refine ⟨by simp, .inl ⟨_, _, rfl, run_takeDeferred hKr, ?_⟩⟩
          refine ⟨.tuple #[vo, .bool true], ?_, vo, rfl, ?_, HBf.out⟩
          · simp [results, Tryd.f16, go_sem]
          · rw [HF.out]; exact HO.out
  case stop => exact fun _ _ _ _ _ _ _ _ h => h.elim
end Go.Proofs.YtojlnnlcbpjdlabDoor
