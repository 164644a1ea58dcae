/- The program's functions over ropes: GoodRope, TextIn, RopeOf, JoinRopes, Rebalance. -/
import Derived.Test.YtgacajnljplmiabDoorRopa
set_option linter.unusedVariables false
namespace Go.Proofs.YtgacajnljplmiabDoor
open Go.RowKit
open Doc1

/-- A rope that comes in. -/
structure RIn (w : World) (a : Option Addr) (cap : Nat) (l : List Bg) : Prop where
  inn : BoIn w a cap l
  len : l.length ≤ 1048576
  txt : ∀ i (hi : i < l.length), l[i].text.size ≤ 1048576

theorem RIn.later {w w1 : World} {a : Option Addr} {cap : Nat} {l : List Bg} (h : RIn w a cap l) (hb : Below w.heap.size w w1) : RIn w1 a cap l := ⟨h.inn.later hb, h.len, h.txt⟩

theorem root_of {w : World} {a : Option Addr} {cap : Nat} {l : List Bg} (h : RIn w a cap l) (hT : Tab w) : Calls Tryd.prog 70 #[.agg #[.slice a l.length cap]] w (RtPost (rtO l) (rtB l) w) := rootOf_any a cap l w h.inn hT h.len h.txt

theorem rt_ok (l : List Bg) : gdO (rtO l) ∧ nbO (rtO l) ≤ 200 ∧ szO (rtO l) ≤ 300 := by
  unfold rtO
  cases h : dc l with
  | none => exact ⟨(fun s hs => by cases hs), (by simp [nbO]), (by simp [szO])⟩
  | some o => exact (RO_bo (dc_ro h)).2

theorem pcO_len (o : Option Lm) : (pcO o).length ≤ nbO o := by
  cases o with
  | none => exact Nat.le_refl _
  | some t => have := Lm.nb_pcs t; simp only [pcO, nbO]; have := Lm.nb_pos t; omega

theorem pcO_tot (o : Option Lm) : tot (pcO o) = szO o := (szO_pc o).symm

/-- A result that lies in a block of one cell. -/
def CellR (w : World) (c : Nat) (x : Value) : Prop := w.heap[c]? = some (.cells #[x] 41)

theorem CellR.later {w w1 : World} {c : Nat} {x : Value} (h : CellR w c x) (hb : Below w.heap.size w w1) : CellR w1 c x := by
  have hc : c < w.heap.size := (Array.getElem?_eq_some_iff.1 h).1
  unfold CellR; rw [hb.block c hc]; exact h

theorem CellR.cell {w : World} {c : Nat} {x : Value} (h : CellR w c x) : w.cell? ⟨c, 0, none⟩ = some x := by rw [cell_of_row _ _ 0 _ _ (0, 0) h]; rfl

theorem CellR.fz {w : World} {c : Nat} {x : Value} (h : CellR w c x) : w.frozen? ⟨c, 0, none⟩ = false := frozen_of_row h 0

theorem CellR.lt {w : World} {c : Nat} {x : Value} (h : CellR w c x) : c < w.heap.size := (Array.getElem?_eq_some_iff.1 h).1

theorem CellR.put {w : World} {c : Nat} {x : Value} (h : CellR w c x) (y : Value) : CellR (w.setCell ⟨c, 0, none⟩ y) c y := cell_put h 0 y

theorem CellR.new (w : World) (x : Value) : CellR (w.alloc (.cells #[x] 41)) w.heap.size x := heap_alloc_new w _

theorem boxes2 (w : World) (x y : Value) : ((w.alloc (.cells #[x] 41)).alloc (.cells #[y] 41)).heap.size = w.heap.size + 2 ∧ Below w.heap.size w ((w.alloc (.cells #[x] 41)).alloc (.cells #[y] 41)) ∧ CellR ((w.alloc (.cells #[x] 41)).alloc (.cells #[y] 41)) w.heap.size x ∧ CellR ((w.alloc (.cells #[x] 41)).alloc (.cells #[y] 41)) (w.heap.size + 1) y := by
  refine ⟨by simp, ((Below.refl _ _).alloc (Nat.le_refl _) _).alloc (by simp) _, (CellR.new w x).later ((Below.refl _ _).alloc (Nat.le_refl _) _), ?_⟩
  have := CellR.new (w.alloc (.cells #[x] 41)) y
  rwa [show (w.alloc (.cells #[x] 41)).heap.size = w.heap.size + 1 by simp] at this

theorem boxes3 (w : World) (x y z : Value) : (((w.alloc (.cells #[x] 41)).alloc (.cells #[y] 41)).alloc (.cells #[z] 41)).heap.size = w.heap.size + 3 ∧ Below w.heap.size w (((w.alloc (.cells #[x] 41)).alloc (.cells #[y] 41)).alloc (.cells #[z] 41)) ∧ CellR (((w.alloc (.cells #[x] 41)).alloc (.cells #[y] 41)).alloc (.cells #[z] 41)) w.heap.size x ∧ CellR (((w.alloc (.cells #[x] 41)).alloc (.cells #[y] 41)).alloc (.cells #[z] 41)) (w.heap.size + 1) y ∧ CellR (((w.alloc (.cells #[x] 41)).alloc (.cells #[y] 41)).alloc (.cells #[z] 41)) (w.heap.size + 2) z := by
  obtain ⟨h1, h2, h3, h4⟩ := boxes2 w x y
  have hb := (Below.refl ((w.alloc (.cells #[x] 41)).alloc (.cells #[y] 41)).heap.size ((w.alloc (.cells #[x] 41)).alloc (.cells #[y] 41))).alloc (Nat.le_refl _) (.cells #[z] 41)
  refine ⟨by simp, h2.trans (hb.mono h2.size), h3.later hb, h4.later hb, ?_⟩
  have := CellR.new ((w.alloc (.cells #[x] 41)).alloc (.cells #[y] 41)) z
  rwa [h1] at this

set_option maxRecDepth 100000 in
set_option maxHeartbeats 4000000 in
theorem goodRopeI {w : World} {a : Option Addr} {cap : Nat} {l : List Bg} (h : RIn w a cap l) (hT : Tab w) :
    Calls Tryd.prog 35 #[.agg #[.slice a l.length cap]] w fun e w' => e = .returned (.bool (rtB l)) ∧ Below w.heap.size w w' := by
  have hb1 : Below w.heap.size w (w.alloc (.cells #[.slice a l.length cap] 41)) := (Below.refl _ _).alloc (Nat.le_refl _) _
  have R := hide (root_of (h.later hb1) (hT.below hb1))
  have HB1 := hide hb1
  unfold RtPost at R
  obtain ⟨vo, hvo⟩ : ∃ vo, lvO (rtO l) = vo := ⟨_, rfl⟩
  rw [hvo] at R
  clear hb1 h hT hvo
  go_enter Tryd.func35, Tryd.ntmps35
  go_wp2_with fail
  refine R.out.mono ?_
  rintro e w2 ⟨rfl, hb2⟩
  go_wp2
  go_ret
  exact ⟨rfl, HB1.out.trans (hb2.mono (by simp))⟩

set_option maxRecDepth 100000 in
set_option maxHeartbeats 4000000 in
theorem addPieces_opt (o : Option Lm) (w : World) (hn : nbO o ≤ 10000) (hz : szO o ≤ 100000) : Calls Tryd.prog 87 #[.slice none 0 0, lvO o] w fun e w' => ∃ v, e = .returned v ∧ PcOwn w' w.heap.size v (pcO o) ∧ Below w.heap.size w w' := by
  cases o with
  | none => exact (addPieces_none w.heap.size _ [] w (PcOwn.nil _ _) (Nat.le_refl _)).mono (fun e w' ⟨v, h1, h2, h3, _⟩ => ⟨v, h1, h2, h3.b⟩)
  | some t => exact (addPieces_any t w.heap.size _ [] w (PcOwn.nil _ _) (Nat.le_refl _) (by simp only [nbO] at hn; simp; omega) (by simp only [szO] at hz; omega)).mono (fun e w' ⟨v, h1, h2, h3, _⟩ => ⟨v, h1, h2, h3.b⟩)

set_option maxRecDepth 100000 in
set_option maxHeartbeats 4000000 in
theorem textInI {w : World} {a : Option Addr} {cap : Nat} {l : List Bg} (h : RIn w a cap l) (hT : Tab w) :
    Calls Tryd.prog 34 #[.agg #[.slice a l.length cap]] w fun e w' => e = .returned (.tuple #[.string (catB (pcO (rtO l))), .bool (rtB l)]) ∧ Below w.heap.size w w' := by
  have hb1 : Below w.heap.size w (w.alloc (.cells #[.slice a l.length cap] 41)) := (Below.refl _ _).alloc (Nat.le_refl _) _
  have R := hide (root_of (h.later hb1) (hT.below hb1))
  have HB1 := hide hb1
  unfold RtPost at R
  have hok := rt_ok l
  have A1 := hide (fun w => addPieces_opt (rtO l) w (by omega) (by omega))
  have hp := pcO_len (rtO l)
  have ht := pcO_tot (rtO l)
  have T1 := hide (fun (w : World) (B : Nat) (v : Value) (h : PcOwn w B v (pcO (rtO l))) => textOfPieces_own h (by omega) (by omega))
  obtain ⟨vo, hvo⟩ : ∃ vo, lvO (rtO l) = vo := ⟨_, rfl⟩
  rw [hvo] at R A1
  clear hb1 h hT hvo hok hp ht
  go_enter Tryd.func34, Tryd.ntmps34
  go_wp2_with fail
  refine R.out.mono ?_
  rintro e w2 ⟨rfl, hb2⟩
  have HB2 : Hid (Below w.heap.size w w2) := hide (HB1.out.trans (hb2.mono (by simp)))
  clear hb2
  go_wp2_with fail
  refine (A1.out w2).mono ?_
  rintro e w3 ⟨v3, rfl, own3, hb3⟩
  have HB3 : Hid (Below w.heap.size w w3) := hide (HB2.out.trans (hb3.mono HB2.out.size))
  have T2 := hide (T1.out w3 _ v3 own3)
  clear hb3 own3 T1
  go_wp2_with fail
  refine T2.out.mono ?_
  rintro e w4 ⟨rfl, hb4⟩
  have HB4 : Hid (Below w.heap.size w w4) := hide (HB3.out.trans (hb4.mono HB3.out.size))
  clear hb4
  go_wp2
  go_ret2
  exact ⟨rfl, HB4.out⟩

/-- A rope of a text. -/
noncomputable def roL (s : ByteArray) : List Bg := if good s.data.toList then okB (evn (cutL s)) else []

noncomputable def roB (s : ByteArray) : Bool := good s.data.toList && fit (evn (cutL s))

theorem cutP_app (s : ByteArray) (k : Nat) : catB ((List.range k).map (cutP s)) = s.extract 0 (min (8 * k) s.size) := by
  induction k with
  | zero => simp [catB]; rfl
  | succ k ih =>
    rw [List.range_succ, List.map_append, List.map_singleton, catB_snoc, ih]
    unfold cutP
    apply Doc1.ba_eq
    rw [apdB]
    simp only [ByteArray.data_extract, Array.toList_extract, List.extract_eq_take_drop]
    rw [List.drop_zero, Nat.sub_zero, Nat.sub_zero, show 8 * (k + 1) = 8 * k + 8 by omega]
    have hs : s.size = s.data.toList.length := szB s
    by_cases h : 8 * k ≤ s.size
    · rw [Nat.min_eq_left h]
      have : min (8 * k + 8) s.size = 8 * k + (min (8 * k + 8) s.size - 8 * k) := by omega
      rw [this, List.take_add, ← this]
    · rw [Nat.min_eq_right (by omega), Nat.min_eq_right (by omega), List.drop_eq_nil_of_le (by omega)]
      simp

theorem catB_cut (s : ByteArray) : catB (cutL s) = s := by
  unfold cutL
  rw [cutP_app, Nat.min_eq_right (by unfold cutN; omega), ByteArray.extract_zero_size]

theorem tot_cut (s : ByteArray) : tot (cutL s) = s.size := by rw [← catB_size, catB_cut]

theorem cutL_le (s : ByteArray) (hs : s.size ≤ 300) : (cutL s).length ≤ 38 := by rw [cutL_len]; unfold cutN; omega

theorem fit_cut (s : ByteArray) (hs : s.size ≤ 300) : fit (evn (cutL s)) = true := by
  unfold fit
  rw [nbO_evn, szO_evn, tot_cut]
  have := cutL_le s hs
  simp; omega

set_option maxRecDepth 100000 in
set_option maxHeartbeats 4000000 in
theorem ropeOfI (s : ByteArray) (w : World) (hs : s.size ≤ 1048576) (hT : Tab w) :
    Calls Tryd.prog 32 #[.string s] w (RpPost w (roL s) (roB s)) := by
  have hb1 : Below w.heap.size w (w.alloc (.cells #[.slice none 0 0] 41)) := (Below.refl _ _).alloc (Nat.le_refl _) _
  have G := hide (goodTextI_any s (w.alloc (.cells #[.slice none 0 0] 41)) hs (hT.below hb1))
  have hcr := CellR.new w (.slice none 0 0)
  have HB1 := hide hb1
  unfold RpPost
  cases hg : good s.data.toList with
  | false =>
    have e1 : roL s = [] := by unfold roL; rw [hg]; rfl
    have e2 : roB s = false := by unfold roB; rw [hg]; rfl
    rw [e1, e2]
    rw [hg] at G
    have hc := hcr.cell
    have hf := hcr.fz
    have HC := hide hcr
    clear hb1 hT hg hcr
    go_enter Tryd.func32, Tryd.ntmps32
    go_wp2_with fail
    refine G.out.mono ?_
    rintro e w1 ⟨rfl, hw⟩
    replace hw := hw.symm
    subst hw
    go_wp2
    refine bodyPost_ret (results_cell_tmp rfl _ _ w.heap.size 41 #[.slice none 0 0] (0, 0) _ (.bool false) rfl rfl (by first | exact HC.out | exact HC.out.put _) Tryd.underlying41 rfl Tryd.sizeRope) rfl ?_
    exact ⟨_, rfl, World.ownsRow_nil _ _ _ _, by first | exact HB1.out.setCell (Nat.le_refl _) _ | exact HB1.out⟩
  | true =>
    have h3 := good_len hg
    rw [← szB] at h3
    have hfit := fit_cut s h3
    have e1 : roL s = okB (evn (cutL s)) := by unfold roL; rw [hg]; rfl
    have e2 : roB s = fit (evn (cutL s)) := by unfold roB; rw [hg]; rfl
    rw [e1, e2]
    rw [hg] at G
    have hll := cutL_le s h3
    have htt := tot_cut s
    have C := hide (fun w => cutInPieces_any s w (by omega))
    have J := hide (fun (w : World) (B : Nat) (v : Value) (h : PcOwn w B v (cutL s)) => joinEvenly_own h (by omega) (by omega))
    have RW := hide (fun w => ropeWith_any (evn (cutL s)) w (by rw [szO_evn]; omega) (by rw [nbO_evn]; omega))
    obtain ⟨L, hL⟩ : ∃ L, okB (evn (cutL s)) = L := ⟨_, rfl⟩
    obtain ⟨bb, hbb⟩ : ∃ bb, fit (evn (cutL s)) = bb := ⟨_, rfl⟩
    obtain ⟨vo, hvo⟩ : ∃ vo, lvO (evn (cutL s)) = vo := ⟨_, rfl⟩
    rw [hL, hbb] at RW ⊢
    rw [hvo] at RW J
    have HC := hide hcr
    clear hb1 hT hg hcr hL hbb hvo hfit e1 e2 hll htt
    go_enter Tryd.func32, Tryd.ntmps32
    go_wp2_with fail
    refine G.out.mono ?_
    rintro e w1 ⟨rfl, hw⟩
    obtain ⟨w2, hw2⟩ : ∃ w2, w2 = w1 := ⟨_, rfl⟩
    rw [← hw2] at hw ⊢
    rw [← hw] at HC HB1
    clear hw hw2 G
    go_wp2_with fail
    refine (C.out w2).mono ?_
    rintro e w3 ⟨v3, rfl, own3, hb3⟩
    have J2 := hide (J.out w3 _ v3 own3)
    have HC3 := hide (HC.out.later hb3)
    have HB3 : Hid (Below w.heap.size w w3) := hide (HB1.out.trans (hb3.mono HB1.out.size))
    clear own3 hb3 HC HB1 J
    go_wp2_with fail
    refine J2.out.mono ?_
    rintro e w4 ⟨rfl, hb4⟩
    have HC4 := hide (HC3.out.later hb4)
    have HB4 : Hid (Below w.heap.size w w4) := hide (HB3.out.trans (hb4.mono HB3.out.size))
    clear hb4 HC3 HB3
    go_wp2_with fail
    refine (RW.out w4).mono ?_
    rintro e w5 ⟨v5, rfl, own5, hb5⟩
    obtain ⟨a5, c5, rfl, -⟩ := own_shp own5
    have HC5 := hide (HC4.out.later hb5)
    have hc := HC5.out.cell
    have hf := HC5.out.fz
    have HB5 : Hid (Below w.heap.size w w5) := hide (HB4.out.trans (hb5.mono HB4.out.size))
    have HO5 := hide (own_aside own5 HC4.out.lt 0 (.slice a5 L.length c5))
    have HS4 := hide HB4.out.size
    clear hb5 own5 HC4 HB4
    go_wp2
    refine bodyPost_ret (results_cell_tmp rfl _ _ w.heap.size 41 _ (0, 0) _ (.bool bb) rfl rfl (HC5.out.put _) Tryd.underlying41 rfl Tryd.sizeRope) rfl ?_
    exact ⟨_, rfl, own_mono HO5.out HS4.out, HB5.out.setCell (Nat.le_refl _) _⟩

/-- Two ropes joined. -/
noncomputable def jnL (l m : List Bg) : List Bg := if rtB l && rtB m then okB (jo (rtO l) (rtO m)) else []

noncomputable def jnB (l m : List Bg) : Bool := (rtB l && rtB m) && fit (jo (rtO l) (rtO m))

theorem jo_nb (a b : Option Lm) : nbO (jo a b) ≤ nbO a + nbO b + 1 := by
  cases a <;> cases b <;> simp [jo, nbO, Lm.nb]

set_option maxRecDepth 100000 in
set_option maxHeartbeats 4000000 in
theorem joinRopesI {w : World} {a a2 : Option Addr} {cap cap2 : Nat} {l m : List Bg} (h : RIn w a cap l) (h2 : RIn w a2 cap2 m) (hT : Tab w) :
    Calls Tryd.prog 40 #[.agg #[.slice a l.length cap], .agg #[.slice a2 m.length cap2]] w (RpPost w (jnL l m) (jnB l m)) := by
  obtain ⟨w1, hw1⟩ : ∃ w1, w1 = ((w.alloc (.cells #[.slice a l.length cap] 41)).alloc (.cells #[.slice a2 m.length cap2] 41)).alloc (.cells #[.slice none 0 0] 41) := ⟨_, rfl⟩
  obtain ⟨hs1, hb1, -, hc2, hc1⟩ := boxes3 w (.slice a l.length cap) (.slice a2 m.length cap2) (.slice none 0 0)
  rw [← hw1] at hs1 hb1 hc1 hc2
  have R1 := hide (root_of (h.later hb1) (hT.below hb1))
  have R2 := hide (fun w' (hb : Below w1.heap.size w1 w') => root_of (h2.later (hb1.trans (hb.mono hb1.size))) (hT.below (hb1.trans (hb.mono hb1.size))))
  unfold RtPost at R1 R2
  have ok1 := rt_ok l
  have ok2 := rt_ok m
  have J := hide (fun w => joinLimbs_any (rtO l) (rtO m) w (by omega) (by omega))
  have hjs := jo_sz (rtO l) (rtO m)
  have hjn := jo_nb (rtO l) (rtO m)
  have RW := hide (fun w => ropeWith_any (jo (rtO l) (rtO m)) w (by omega) (by omega))
  unfold RpPost at RW ⊢
  obtain ⟨L, hL⟩ : ∃ L, jnL l m = L := ⟨_, rfl⟩
  obtain ⟨bb, hbb⟩ : ∃ bb, jnB l m = bb := ⟨_, rfl⟩
  have HN : Hid ((rtB l && rtB m) = false → L = [] ∧ bb = false) := hide (fun c => by rw [← hL, ← hbb]; unfold jnL jnB; rw [c]; exact ⟨rfl, rfl⟩)
  have HY : Hid ((rtB l && rtB m) = true → L = okB (jo (rtO l) (rtO m)) ∧ bb = fit (jo (rtO l) (rtO m))) := hide (fun c => by rw [← hL, ← hbb]; unfold jnL jnB; rw [c]; exact ⟨rfl, rfl⟩)
  rw [hL, hbb]
  obtain ⟨v1, hv1⟩ : ∃ vo, lvO (rtO l) = vo := ⟨_, rfl⟩
  obtain ⟨v2, hv2⟩ : ∃ vo, lvO (rtO m) = vo := ⟨_, rfl⟩
  obtain ⟨v3, hv3⟩ : ∃ vo, lvO (jo (rtO l) (rtO m)) = vo := ⟨_, rfl⟩
  obtain ⟨L3, hL3⟩ : ∃ L3, okB (jo (rtO l) (rtO m)) = L3 := ⟨_, rfl⟩
  obtain ⟨b3, hb3⟩ : ∃ b3, fit (jo (rtO l) (rtO m)) = b3 := ⟨_, rfl⟩
  obtain ⟨bl, hbl⟩ : ∃ bl, rtB l = bl := ⟨_, rfl⟩
  obtain ⟨bm, hbm⟩ : ∃ bm, rtB m = bm := ⟨_, rfl⟩
  simp only [hv1, hv2, hv3, hL3, hb3, hbl, hbm] at R1 R2 J RW HN HY
  have HB1 := hide hb1
  have HC1 := hide hc1
  have HC2 := hide hc2
  clear hv1 hv2 hv3 hL3 hb3 hL hbb hbl hbm hjs hjn ok1 ok2 h h2 hT hb1 hc1 hc2
  go_enter Tryd.func40, Tryd.ntmps40
  go_wp2_with fail
  rw [← hw1]
  clear hw1
  refine R1.out.mono ?_
  rintro e w2 ⟨rfl, hb2⟩
  have HB2 : Hid (Below w.heap.size w w2) := hide (HB1.out.trans (hb2.mono HB1.out.size))
  have HC12 := hide (HC1.out.later hb2)
  have cc := (HC2.out.later hb2).cell
  have R3 := hide (R2.out w2 hb2)
  clear hb2 R2 HC1 HC2 HB1
  go_wp2_with fail
  refine R3.out.mono ?_
  rintro e w3 ⟨rfl, hb3⟩
  have HB3 : Hid (Below w.heap.size w w3) := hide (HB2.out.trans (hb3.mono HB2.out.size))
  have HC3 := hide (HC12.out.later hb3)
  clear hb3 HC12 HB2 cc
  cases hq : (bl && bm) with
  | false =>
    obtain ⟨rfl, rfl⟩ := HN.out hq
    have hc := HC3.out.cell
    have hf := HC3.out.fz
    have hq2 : bl = false ∨ (bl = true ∧ bm = false) := by cases bl <;> cases bm <;> simp_all
    clear HN HY hq
    rcases hq2 with rfl | ⟨rfl, rfl⟩
    all_goals
      go_wp2
      refine bodyPost_ret (results_cell_tmp rfl _ _ (w.heap.size + 2) 41 _ (0, 0) _ (.bool false) rfl rfl (HC3.out.put _) Tryd.underlying41 rfl Tryd.sizeRope) rfl ?_
      exact ⟨_, rfl, World.ownsRow_nil _ _ _ _, HB3.out.setCell (by show w.heap.size ≤ w.heap.size + 2; omega) _⟩
  | true =>
    obtain ⟨rfl, rfl⟩ := HY.out hq
    rw [Bool.and_eq_true] at hq
    obtain ⟨rfl, rfl⟩ := hq
    clear HN HY
    go_wp2_with fail
    refine (J.out w3).mono ?_
    rintro e w4 ⟨rfl, hb4⟩
    have HC4 := hide (HC3.out.later hb4)
    have HB4 : Hid (Below w.heap.size w w4) := hide (HB3.out.trans (hb4.mono HB3.out.size))
    clear hb4 HC3 HB3
    go_wp2_with fail
    refine (RW.out w4).mono ?_
    rintro e w5 ⟨v5, rfl, own5, hb5⟩
    obtain ⟨a5, c5, rfl, -⟩ := own_shp own5
    have HC5 := hide (HC4.out.later hb5)
    have hc := HC5.out.cell
    have hf := HC5.out.fz
    have HB5 : Hid (Below w.heap.size w w5) := hide (HB4.out.trans (hb5.mono HB4.out.size))
    have HO5 := hide (own_aside own5 HC4.out.lt 0 (.slice a5 L.length c5))
    have HS4 := hide HB4.out.size
    clear hb5 own5 HC4 HB4
    go_wp2
    refine bodyPost_ret (results_cell_tmp rfl _ _ (w.heap.size + 2) 41 _ (0, 0) _ (.bool bb) rfl rfl (HC5.out.put _) Tryd.underlying41 rfl Tryd.sizeRope) rfl ?_
    exact ⟨_, rfl, own_mono HO5.out HS4.out, HB5.out.setCell (by show w.heap.size ≤ w.heap.size + 2; omega) _⟩
end Go.Proofs.YtgacajnljplmiabDoor
