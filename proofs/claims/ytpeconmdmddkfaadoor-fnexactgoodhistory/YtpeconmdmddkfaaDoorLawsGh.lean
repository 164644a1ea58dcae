/- The walk of the exact law of GoodHistory. -/
import Derived.Test.YtpeconmdmddkfaaDoorHist4
set_option linter.unusedVariables false
namespace Go.Proofs.YtpeconmdmddkfaaDoor
open Go.RowKit
open Doc1

set_option maxRecDepth 100000 in
set_option maxHeartbeats 8000000 in
theorem law_goodHistory (th : ByteArray) (vuh vrh : Value) (uh rh : List (List Pt)) (w : World) (hauh : ArgC w vuh uh) (harh : ArgC w vrh rh) (htth : th.size ≤ 9223372036854775807) (hsuh : ∀ i (hi : i < uh.length), ThinP uh[i]) (hsrh : ∀ i (hi : i < rh.length), ThinP rh[i]) (hT : Tab w) :
    Calls Tryd.prog 4 #[.agg #[.string th, vuh, vrh]] w fun e w' => e = .returned (.bool true) ∧ Below w.heap.size w w' := by
  obtain ⟨auh, cuh, rfl⟩ := argC_shp hauh
  obtain ⟨arh, crh, rfl⟩ := argC_shp harh
  by_cases fsh : szHn th uh rh ≤ 1048576
  · skip
    have hcuh : szCn uh ≤ 1048576 := by have q0 := fsh; unfold szHn at q0; omega
    have hcrh : szCn rh ≤ 1048576 := by have q0 := fsh; unfold szHn at q0; omega
    have hcth : th.size ≤ 1048576 := by have q0 := fsh; unfold szHn at q0; omega
    have HAUh := hide hauh
    have HARh := hide harh
    have SZh := hide (fun w' (hb : Below w.heap.size w w') => szH_from (hauh.later hb) (harh.later hb) htth hsuh hsrh (1048576) (by omega))
    simp only [if_pos fsh] at SZh
    have TCh := hide (fun w' (hb : Below w.heap.size w w') => toX (t := th) (hauh.later hb) (harh.later hb) hcuh hcrh)
    have BUh := hide (bdC_of hcuh)
    have BRh := hide (bdC_of hcrh)
    have MUh := mkN_sz uh
    have MRh := mkN_sz rh
    have HTb := hide hT
    have hB := hide (Below.refl w.heap.size w)
    clear hT
    have HS := hide (fun w' {lo hi : Nat} {vu vr : Value} (h : HX lo hi w' vu vr uh rh) => goodHS (t := th) h hcth (smC_of hcuh) (smC_of hcrh))
    have HI := hide (fun w' {lo hi : Nat} {vu vr : Value} (h : HX lo hi w' vu vr uh rh) hT (hlo : 0 < lo) => goodHI (t := th) h hcth (smC_of hcuh) (smC_of hcrh) hT hlo)
    obtain ⟨R0, hR0⟩ : ∃ R, goodH th uh rh = R := ⟨_, rfl⟩
    simp only [hR0] at HS HI
    clear hR0
    obtain ⟨Kh, hKh⟩ : ∃ K : Nat, 1048576 - szHn th uh rh = K := ⟨_, rfl⟩
    rw [hKh] at SZh
    have e0h : decide ((Kh : Int) < 0) = false := by rw [decide_eq_false_iff_not]; omega
    have HMUh : Hid (mkN uh + mkN rh ≤ 10000000) := hide (by omega)
    clear hauh harh htth hsuh hsrh hcuh hcrh hcth MUh MRh  hKh fsh
    go_enter Tryd.func4, Tryd.ntmps4
    obtain ⟨w1, hw2⟩ : ∃ wq0, wq0 = w.alloc (.cells #[.string th, .slice auh uh.length cuh, .slice arh rh.length crh] 32) := ⟨_, rfl⟩
    have hb3 : Below w.heap.size w w1 := by rw [hw2]; exact (Below.refl _ _).alloc (Nat.le_refl _) _
    have e4 : Hid (w1.heap.size = w.heap.size + 1) := hide (by rw [hw2]; simp)
    have X5 : Hid (CB w1 w.heap.size #[.string th, .slice auh uh.length cuh, .slice arh rh.length crh]) := hide (by rw [hw2]; exact CB.new _ _ _)
    have z6 := hide hb3.size
    replace hB := hide (hB.out.trans (hb3.mono hB.out.size))
    clear hb3
    have SZ9 := hide (SZh.out w1 hB.out)
    go_wp2_with fail
    rw [← hw2]
    clear hw2
    refine (SZ9.out).mono ?_
    rintro e w7 ⟨rfl, hb8⟩
    clear SZ9
    replace X5 := hide (X5.out.later hb8)
    have z10 := hide hb8.size
    replace hB := hide (hB.out.trans (hb8.mono hB.out.size))
    clear hb8
    have T16 := hide (TCh.out w7 hB.out)
    have k17 : w7.cell? ⟨w.heap.size, 0, none⟩ = some (.string th) := X5.out.cell 0 rfl
    have k18 : w7.cell? ⟨w.heap.size, 1, none⟩ = some (.slice auh uh.length cuh) := X5.out.cell 1 rfl
    have k19 : w7.cell? ⟨w.heap.size, 2, none⟩ = some (.slice arh rh.length crh) := X5.out.cell 2 rfl
    go_wp2_with fail
    refine (T16.out).mono ?_
    rintro e w11 ⟨xu13, xr14, rfl, hx15, hb12⟩
    clear T16 k17 k18 k19
    obtain ⟨axu13, cxu13, axr14, cxr14, rfl, rfl⟩ := hx15.shp
    have P20 := hide hx15
    clear hx15
    replace X5 := hide (X5.out.later hb12)
    have z21 := hide hb12.size
    replace hB := hide (hB.out.trans (hb12.mono hB.out.size))
    clear hb12
    have H24 := hide (HS.out w11 P20.out)
    go_wp2_with fail
    refine (H24.out).mono ?_
    rintro e w22 ⟨rfl, hb23⟩
    clear H24
    replace X5 := hide (X5.out.later hb23)
    replace P20 := hide (P20.out.later hb23)
    have z25 := hide hb23.size
    replace hB := hide (hB.out.trans (hb23.mono hB.out.size))
    clear hb23
    clear P20
    have T31 := hide (TCh.out w22 hB.out)
    have k32 : w22.cell? ⟨w.heap.size, 0, none⟩ = some (.string th) := X5.out.cell 0 rfl
    have k33 : w22.cell? ⟨w.heap.size, 1, none⟩ = some (.slice auh uh.length cuh) := X5.out.cell 1 rfl
    have k34 : w22.cell? ⟨w.heap.size, 2, none⟩ = some (.slice arh rh.length crh) := X5.out.cell 2 rfl
    go_wp2_with fail
    refine (T31.out).mono ?_
    rintro e w26 ⟨xu28, xr29, rfl, hx30, hb27⟩
    clear T31 k32 k33 k34
    obtain ⟨axu28, cxu28, axr29, cxr29, rfl, rfl⟩ := hx30.shp
    have P35 := hide hx30
    clear hx30
    replace X5 := hide (X5.out.later hb27)
    have z36 := hide hb27.size
    replace hB := hide (hB.out.trans (hb27.mono hB.out.size))
    clear hb27
    obtain ⟨w37, hw38⟩ : ∃ wq0, wq0 = w26.alloc (.cells #[.string th, .slice axu28 uh.length cxu28, .slice axr29 rh.length cxr29] 24) := ⟨_, rfl⟩
    have hb39 : Below w26.heap.size w26 w37 := by rw [hw38]; exact (Below.refl _ _).alloc (Nat.le_refl _) _
    have e40 : Hid (w37.heap.size = w26.heap.size + 1) := hide (by rw [hw38]; simp)
    have X41 : Hid (CB w37 w26.heap.size #[.string th, .slice axu28 uh.length cxu28, .slice axr29 rh.length cxr29]) := hide (by rw [hw38]; exact CB.new _ _ _)
    replace X5 := hide (X5.out.later hb39)
    replace P35 := hide (P35.out.later hb39)
    have z42 := hide hb39.size
    replace hB := hide (hB.out.trans (hb39.mono hB.out.size))
    clear hb39
    have k43 : w37.cell? ⟨w26.heap.size, 0, none⟩ = some (.string th) := X41.out.cell 0 rfl
    rw [hw38] at k43
    have k44 : w37.cell? ⟨w26.heap.size, 1, none⟩ = some (.slice axu28 uh.length cxu28) := X41.out.cell 1 rfl
    rw [hw38] at k44
    have k45 : w37.cell? ⟨w26.heap.size, 2, none⟩ = some (.slice axr29 rh.length cxr29) := X41.out.cell 2 rfl
    rw [hw38] at k45
    have H48 := hide (HI.out w37 P35.out (HTb.out.below hB.out) (by have q0 := HTb.out.lt; have q0 := z6.out; have q1 := e4.out; have q2 := z10.out; have q3 := z21.out; have q4 := z25.out; have q5 := z36.out; have q6 := z42.out; have q7 := e40.out; omega))
    go_wp2_with fail
    rw [← hw38]
    clear hw38
    refine (H48.out).mono ?_
    rintro e w46 ⟨rfl, hb47⟩
    clear H48
    replace X5 := hide (X5.out.later hb47)
    replace X41 := hide (X41.out.later hb47)
    replace P35 := hide (P35.out.later hb47)
    have z49 := hide hb47.size
    replace hB := hide (hB.out.trans (hb47.mono hB.out.size))
    clear hb47
    clear k43 k44 k45
    have KC50 : Hid (∀ w', Below w46.heap.size w46 w' → w'.cell? ⟨w26.heap.size, 0, none⟩ = some (.string th) ∧ w'.cell? ⟨w26.heap.size, 1, none⟩ = some (.slice axu28 uh.length cxu28) ∧ w'.cell? ⟨w26.heap.size, 2, none⟩ = some (.slice axr29 rh.length cxr29) ∧ w'.cell? ⟨w.heap.size, 0, none⟩ = some (.string th) ∧ w'.cell? ⟨w.heap.size, 1, none⟩ = some (.slice auh uh.length cuh) ∧ w'.cell? ⟨w.heap.size, 2, none⟩ = some (.slice arh rh.length crh)) := hide (fun w' hb => ⟨(X41.out.later hb).cell 0 rfl, (X41.out.later hb).cell 1 rfl, (X41.out.later hb).cell 2 rfl, (X5.out.later hb).cell 0 rfl, (X5.out.later hb).cell 1 rfl, (X5.out.later hb).cell 2 rfl⟩)
    have CT51 := hide (fun w' (hb : Below w46.heap.size w46 w') => TCh.out w' (hB.out.trans (hb.mono hB.out.size)))
    have CX52 := hide (fun w' (hb : Below w46.heap.size w46 w') => P35.out.later hb)
    go_wp2_with fail
    go_region_held3 (fun w' => w'.cell? ⟨w26.heap.size, 0, none⟩ = some (.string th) ∧ w'.cell? ⟨w26.heap.size, 1, none⟩ = some (.slice axu28 uh.length cxu28) ∧ w'.cell? ⟨w26.heap.size, 2, none⟩ = some (.slice axr29 rh.length cxr29) ∧ w'.cell? ⟨w.heap.size, 0, none⟩ = some (.string th) ∧ w'.cell? ⟨w.heap.size, 1, none⟩ = some (.slice auh uh.length cuh) ∧ w'.cell? ⟨w.heap.size, 2, none⟩ = some (.slice arh rh.length crh))
      (first | assumption | exact KC50.out _ (Below.refl _ _) | exact KC50.out _ (Below.refl _ _).drew | exact KC50.out _ hbq2 | exact KC50.out _ hbq1)
      (first
        | (go_at_call 11; refine (eqX (t := th) (CX52.out wq1 hbq1) cpq.out BUh.out BRh.out).mono ?_; rintro e wq2 ⟨rfl, hq2⟩; have hbq2 : Below w46.heap.size w46 wq2 := hbq1.trans (hq2.mono hbq1.size); clear hq2)
        | (go_at_call 16; refine (CT51.out _ (Below.refl _ _).drew).mono ?_; rintro e wq1 ⟨xuq, xrq, rfl, cpq0, hq1⟩; obtain ⟨axuq, cxuq, axrq, cxrq, rfl, rfl⟩ := cpq0.shp; have cpq := hide cpq0; have hbq1 : Below w46.heap.size w46 wq1 := (Below.refl _ _).drew.trans hq1; clear hq1 cpq0))
    clear cpq hbq1 KC50 CT51 CX52
    replace X5 := hide (X5.out.later hbq2)
    replace X41 := hide (X41.out.later hbq2)
    replace P35 := hide (P35.out.later hbq2)
    have z53 := hide hbq2.size
    replace hB := hide (hB.out.trans (hbq2.mono hB.out.size))
    clear hbq2
    go_wp2
    go_ret
    exact ⟨rfl, hB.out⟩
  · skip
    have Zh := hide (fun w' (hb : Below w.heap.size w w') => szH_from (hauh.later hb) (harh.later hb) htth hsuh hsrh (1048576) (by omega))
    simp only [if_neg fsh] at Zh
    have HB0 : Hid (Below w.heap.size w (w.alloc (.cells #[.string th, .slice auh uh.length cuh, .slice arh rh.length crh] 32))) := hide ((Below.refl _ _).alloc (Nat.le_refl _) _)
    clear hauh harh htth hsuh hsrh  fsh
    go_enter Tryd.func4, Tryd.ntmps4
    go_wp2_with fail
    refine (Zh.out _ HB0.out).mono ?_
    rintro e zh ⟨rfl, hzh⟩
    have HZh : Hid (Below w.heap.size w zh) := hide (HB0.out.trans (hzh.mono HB0.out.size))
    clear hzh
    go_wp2
    go_ret
    exact ⟨rfl, HZh.out⟩
end Go.Proofs.YtpeconmdmddkfaaDoor
