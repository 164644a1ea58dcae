/- The model's functions over ropes, on: RopeOf, Rebalance, JoinRopes. -/
import Derived.Test.YtgacajnljplmiabDoorRpt6
set_option linter.unusedVariables false
namespace Go.Proofs.YtgacajnljplmiabDoor
open Go.RowKit
open Doc1

set_option maxRecDepth 100000 in
set_option maxHeartbeats 4000000 in
theorem ropeOfS (s : ByteArray) (w : World) (hs : s.size ≤ 1048576) :
    Calls Tryd.prog 33 #[.string s] w (RpPost w (roL s) (roB s)) := by
  have hb1 : Below w.heap.size w (w.alloc (.cells #[.slice none 0 0] 41)) := (Below.refl _ _).alloc (Nat.le_refl _) _
  have G := hide (goodTextS_any s (w.alloc (.cells #[.slice none 0 0] 41)) hs)
  have hcr := CellR.new w (.slice none 0 0)
  have HB1 := hide hb1
  unfold RpPost
  cases hg : good s.data.toList with
  | false =>
    have e1 : roL s = [] := by unfold roL; rw [hg]; rfl
    have e2 : roB s = false := by unfold roB; rw [hg]; rfl
    rw [e1, e2]
    rw [hg] at G
    have hc := hcr.cell
    have hf := hcr.fz
    have HC := hide hcr
    clear hb1 hg hcr
    go_enter Tryd.func33, Tryd.ntmps33
    go_wp2_with fail
    refine G.out.mono ?_
    rintro e w1 ⟨rfl, hw⟩
    replace hw := hw.symm
    subst hw
    go_wp2
    refine bodyPost_ret (results_cell_tmp rfl _ _ w.heap.size 41 #[.slice none 0 0] (0, 0) _ (.bool false) rfl rfl (by first | exact HC.out | exact HC.out.put _) Tryd.underlying41 rfl Tryd.sizeRope) rfl ?_
    exact ⟨_, rfl, World.ownsRow_nil _ _ _ _, by first | exact HB1.out.setCell (Nat.le_refl _) _ | exact HB1.out⟩
  | true =>
    have h3 := good_len hg
    rw [← szB] at h3
    have hfit := fit_cut s h3
    have e1 : roL s = bo (evn (cutL s)) := by unfold roL okB; rw [hg, hfit]; rfl
    have e2 : roB s = true := by unfold roB; rw [hg, hfit]; rfl
    rw [e1, e2]
    rw [hg] at G
    have hll := cutL_le s h3
    have htt := tot_cut s
    have C := hide (fun w => l12Cut_any s w (by omega))
    have J := hide (fun (w : World) (B : Nat) (v : Value) (h : TxOwn w B v (cutL s)) => l12Build_own h (by omega) (by omega))
    unfold OwPost at J
    obtain ⟨L, hL⟩ : ∃ L, bo (evn (cutL s)) = L := ⟨_, rfl⟩
    rw [hL] at J ⊢
    have HC := hide hcr
    clear hb1 hg hcr hL hfit e1 e2 hll htt
    go_enter Tryd.func33, Tryd.ntmps33
    go_wp2_with fail
    refine G.out.mono ?_
    rintro e w1 ⟨rfl, hw⟩
    obtain ⟨w2, hw2⟩ : ∃ w2, w2 = w1 := ⟨_, rfl⟩
    rw [← hw2] at hw ⊢
    rw [← hw] at HC HB1
    clear hw hw2 G
    go_wp2_with fail
    refine (C.out w2).mono ?_
    rintro e w3 ⟨v3, rfl, own3, hb3⟩
    have J2 := hide (J.out w3 _ v3 own3)
    have HC3 := hide (HC.out.later hb3)
    have HB3 : Hid (Below w.heap.size w w3) := hide (HB1.out.trans (hb3.mono HB1.out.size))
    clear own3 hb3 HC HB1 J
    go_wp2_with fail
    refine J2.out.mono ?_
    rintro e w5 ⟨v5, rfl, own5, hb5⟩
    obtain ⟨a5, c5, rfl, -⟩ := own_shp own5
    have HC5 := hide (HC3.out.later hb5)
    have hc := HC5.out.cell
    have hf := HC5.out.fz
    have HB5 : Hid (Below w.heap.size w w5) := hide (HB3.out.trans (hb5.mono HB3.out.size))
    have HO5 := hide (own_aside own5 HC3.out.lt 0 (.slice a5 L.length c5))
    have HS4 := hide HB3.out.size
    clear hb5 own5 HC3 HB3
    go_wp2
    refine bodyPost_ret (results_cell_tmp rfl _ _ w.heap.size 41 _ (0, 0) _ (.bool true) rfl rfl (HC5.out.put _) Tryd.underlying41 rfl Tryd.sizeRope) rfl ?_
    exact ⟨_, rfl, own_mono HO5.out HS4.out, HB5.out.setCell (Nat.le_refl _) _⟩

theorem rb_fit (l : List Bg) : fit (evn (pcO (rtO l))) = true := by
  have ok := rt_ok l
  have h1 := nbO_pc (rtO l)
  unfold fit
  rw [nbO_evn, szO_evn, pcO_tot]
  simp; omega

set_option maxRecDepth 100000 in
set_option maxHeartbeats 4000000 in
theorem rebalanceS {w : World} {a : Option Addr} {cap : Nat} {l : List Bg} (h : RIn w a cap l) :
    Calls Tryd.prog 47 #[.agg #[.slice a l.length cap]] w (RpPost w (rbL l) (rbB l)) := by
  obtain ⟨w1, hw1⟩ : ∃ w1, w1 = (w.alloc (.cells #[.slice a l.length cap] 41)).alloc (.cells #[.slice none 0 0] 41) := ⟨_, rfl⟩
  obtain ⟨hs1, hb1, hc0, hc1⟩ := boxes2 w (.slice a l.length cap) (.slice none 0 0)
  rw [← hw1] at hs1 hb1 hc0 hc1
  have G := hide (goodRopeS (h.later hb1))
  have HB1 := hide hb1
  have HC0 := hide hc0
  have HC1 := hide hc1
  unfold RpPost
  cases hr : rtB l with
  | false =>
    have e1 : rbL l = [] := by unfold rbL; rw [hr]; rfl
    have e2 : rbB l = false := by unfold rbB; rw [hr]; rfl
    rw [e1, e2]
    rw [hr] at G
    clear hr h hb1 hc0 hc1 e1 e2
    go_enter Tryd.func47, Tryd.ntmps47
    go_wp2_with fail
    rw [← hw1]
    clear hw1
    refine G.out.mono ?_
    rintro e w2 ⟨rfl, hb2⟩
    have HB2 : Hid (Below w.heap.size w w2) := hide (HB1.out.trans (hb2.mono HB1.out.size))
    have HC2 := hide (HC1.out.later hb2)
    have hc := HC2.out.cell
    have hf := HC2.out.fz
    clear hb2
    go_wp2
    refine bodyPost_ret (results_cell_tmp rfl _ _ (w.heap.size + 1) 41 _ (0, 0) _ (.bool false) rfl rfl (HC2.out.put _) Tryd.underlying41 rfl Tryd.sizeRope) rfl ?_
    exact ⟨_, rfl, World.ownsRow_nil _ _ _ _, HB2.out.setCell (by show w.heap.size ≤ w.heap.size + 1; omega) _⟩
  | true =>
    have hfit := rb_fit l
    have e1 : rbL l = bo (evn (pcO (rtO l))) := by unfold rbL okB; rw [hr, hfit]; rfl
    have e2 : rbB l = true := by unfold rbB; rw [hr, hfit]; rfl
    rw [e1, e2]
    rw [hr] at G
    have hl := rt_len hr
    have ok := rt_ok l
    have hp := pcO_len (rtO l)
    have ht := pcO_tot (rtO l)
    have P := hide (fun w' (hb : Below w.heap.size w w') => l12Pieces_any (h.inn.later hb) (by omega))
    rw [rt_pcs hr] at P
    have J := hide (fun (w : World) (B : Nat) (v : Value) (h : TxOwn w B v (pcO (rtO l))) => l12Build_own h (by omega) (by omega))
    unfold OwPost at J
    obtain ⟨L, hL⟩ : ∃ L, bo (evn (pcO (rtO l))) = L := ⟨_, rfl⟩
    rw [hL] at J ⊢
    clear hr h hb1 hc0 hc1 e1 e2 ok hp ht hL hfit
    go_enter Tryd.func47, Tryd.ntmps47
    go_wp2_with fail
    rw [← hw1]
    clear hw1
    refine G.out.mono ?_
    rintro e w2 ⟨rfl, hb2⟩
    have HB2 : Hid (Below w.heap.size w w2) := hide (HB1.out.trans (hb2.mono HB1.out.size))
    have HC2 := hide (HC1.out.later hb2)
    have cc := (HC0.out.later hb2).cell
    have P2 := hide (P.out w2 HB2.out)
    clear hb2 HC0 HC1 HB1
    go_wp2_with fail
    refine P2.out.mono ?_
    rintro e w3 ⟨v3, rfl, own3, hb3⟩
    have J2 := hide (J.out w3 _ v3 own3)
    have HC3 := hide (HC2.out.later hb3)
    have HB3 : Hid (Below w.heap.size w w3) := hide (HB2.out.trans (hb3.mono HB2.out.size))
    clear own3 hb3 HC2 HB2 J cc
    go_wp2_with fail
    refine J2.out.mono ?_
    rintro e w5 ⟨v5, rfl, own5, hb5⟩
    obtain ⟨a5, c5, rfl, -⟩ := own_shp own5
    have HC5 := hide (HC3.out.later hb5)
    have hc := HC5.out.cell
    have hf := HC5.out.fz
    have HB5 : Hid (Below w.heap.size w w5) := hide (HB3.out.trans (hb5.mono HB3.out.size))
    have HO5 := hide (own_aside own5 HC3.out.lt 0 (.slice a5 L.length c5))
    have HS4 := hide HB3.out.size
    clear hb5 own5 HC3 HB3
    go_wp2
    refine bodyPost_ret (results_cell_tmp rfl _ _ (w.heap.size + 1) 41 _ (0, 0) _ (.bool true) rfl rfl (HC5.out.put _) Tryd.underlying41 rfl Tryd.sizeRope) rfl ?_
    exact ⟨_, rfl, own_mono HO5.out HS4.out, HB5.out.setCell (by show w.heap.size ≤ w.heap.size + 1; omega) _⟩
end Go.Proofs.YtgacajnljplmiabDoor
