/- The walks of the exact laws of chapter 12. -/
import Derived.Test.YtpdngncioblibacDoorLawRpA
import Derived.Test.YtpdngncioblibacDoorRwStr
set_option linter.unusedVariables false
namespace Go.Proofs.YtpdngncioblibacDoor
open Go.RowKit
open Doc1

set_option maxRecDepth 100000 in
set_option maxHeartbeats 8000000 in
theorem law_piecesOf (vl : Value) (l : List Bg) (w : World) (hal : ArgBo w vl l) (hrl : ∀ i (hi : i < l.length), l[i].text.size ≤ 9223372036854775807) (hT : Tab w) :
    Calls Tryd.prog 3 #[.agg #[vl]] w fun e w' => e = .returned (.bool true) ∧ Below w.heap.size w w' := by
  obtain ⟨al, cl, ml, rfl⟩ := arg_shape hal
  by_cases fsl : szBon l ≤ 1048576
  · skip
    have hll : l.length ≤ 1048576 := by have := fsl; unfold szBon at this; omega
    have htl : ∀ i (hi : i < l.length), l[i].text.size ≤ 1048576 := fun i hi => Nat.le_trans (szBon_txt l i hi) fsl
    have HA := hide hal
    have SZ := hide (fun w' (h : ArgBo w' (.slice al ml cl) l) => szRope_from h hrl 1048576 (by omega))
    rw [if_pos fsl] at SZ
    have TC := hide (fun w' (h : ArgBo w' (.slice al ml cl) l) => toRope_cp h (by omega))
    obtain ⟨K0, hK0⟩ : ∃ K : Nat, 1048576 - szBon l = K := ⟨_, rfl⟩
    rw [hK0] at SZ
    have e00 : decide ((K0 : Int) < 0) = false := by rw [decide_eq_false_iff_not]; omega
    have HTX := hide htl
    clear hal hrl htl hK0 fsl
    have HTb := hide hT
    have hB := hide (Below.refl w.heap.size w)
    clear hT
    have HS := hide (fun w' {g : Option Addr} {c : Nat} (h : RIn w' g c l) => piecesOfS h)
    have HI := hide (fun w' {g : Option Addr} {c : Nat} (h : RIn w' g c l) hT => piecesOfI h hT)
    obtain ⟨R0, hR0⟩ : ∃ R, pcO (rtO l) = R := ⟨_, rfl⟩
    obtain ⟨R1, hR1⟩ : ∃ R, rtB l = R := ⟨_, rfl⟩
    simp only [hR0, hR1] at HS HI
    have hlr0 : R0.length ≤ 1000000 := by rw [← hR0]; exact pcR_len _
    clear hR0 hR1
    go_enter Tryd.func3, Tryd.ntmps3
    obtain ⟨w1, hw2⟩ : ∃ wq0, wq0 = w.alloc (.cells #[.slice al ml cl] 24) := ⟨_, rfl⟩
    have hb3 : Below w.heap.size w w1 := by rw [hw2]; exact (Below.refl _ _).alloc (Nat.le_refl _) _
    have e4 : Hid (w1.heap.size = w.heap.size + 1) := hide (by rw [hw2]; simp)
    have X5 : Hid (CellT 24 w1 w.heap.size (.slice al ml cl)) := hide (by rw [hw2]; exact CellT.new _ _ _)
    have z6 := hide hb3.size
    replace hB := hide (hB.out.trans (hb3.mono hB.out.size))
    clear hb3
    have SZ2 := hide (SZ.out w1 (HA.out.later hB.out))
    go_wp2_with fail
    rw [← hw2]
    clear hw2
    refine (SZ2.out).mono ?_
    rintro e w7 ⟨rfl, hb8⟩
    replace X5 := hide (X5.out.later hb8)
    have z9 := hide hb8.size
    replace hB := hide (hB.out.trans (hb8.mono hB.out.size))
    clear hb8
    have T15 := hide (TC.out w7 (HA.out.later hB.out))
    have k16 := X5.out.cell
    go_wp2_with fail
    refine (T15.out).mono ?_
    rintro e w10 ⟨g12, rfl, hg13, C14, hb11⟩
    clear T15 k16
    have I17 : Hid (w7.heap.size ≤ g12 ∧ g12 < w10.heap.size) := hide ⟨hg13, C14.lt⟩
    have P18 := hide C14
    clear C14 hg13
    replace X5 := hide (X5.out.later hb11)
    have z19 := hide hb11.size
    replace hB := hide (hB.out.trans (hb11.mono hB.out.size))
    clear hb11
    have H22 := hide (HS.out w10 ⟨P18.out.inn (by omega), hll, HTX.out⟩)
    go_wp2_with fail
    refine (H22.out).mono ?_
    rintro e w20 ⟨x0, rfl, ox0, hb21⟩
    clear H22
    obtain ⟨ax0, cx0, rfl, -⟩ := own_shp ox0
    have Lx0 : Hid (∀ y, (Value.slice ax0 R0.length cx0).ownBlock = some y → w10.heap.size ≤ y ∧ y < w20.heap.size) := hide (fun y hy => World.ownsRow.lt ox0 y hy)
    have Ox0 := hide ox0
    clear ox0
    replace X5 := hide (X5.out.later hb21)
    replace P18 := hide (P18.out.later hb21)
    have z23 := hide hb21.size
    replace hB := hide (hB.out.trans (hb21.mono hB.out.size))
    clear hb21
    clear P18
    have T29 := hide (TC.out w20 (HA.out.later hB.out))
    have k30 := X5.out.cell
    go_wp2_with fail
    refine (T29.out).mono ?_
    rintro e w24 ⟨g26, rfl, hg27, C28, hb25⟩
    clear T29 k30
    have I31 : Hid (w20.heap.size ≤ g26 ∧ g26 < w24.heap.size) := hide ⟨hg27, C28.lt⟩
    have P32 := hide C28
    clear C28 hg27
    replace X5 := hide (X5.out.later hb25)
    replace Ox0 := hide (own_below Ox0.out hb25)
    have z33 := hide hb25.size
    replace hB := hide (hB.out.trans (hb25.mono hB.out.size))
    clear hb25
    obtain ⟨w34, hw35⟩ : ∃ wq0, wq0 = w24.alloc (.cells #[.slice (some ⟨g26, 0, none⟩) l.length l.length] 31) := ⟨_, rfl⟩
    have hb36 : Below w24.heap.size w24 w34 := by rw [hw35]; exact (Below.refl _ _).alloc (Nat.le_refl _) _
    have e37 : Hid (w34.heap.size = w24.heap.size + 1) := hide (by rw [hw35]; simp)
    have X38 : Hid (CellT 31 w34 w24.heap.size (.slice (some ⟨g26, 0, none⟩) l.length l.length)) := hide (by rw [hw35]; exact CellT.new _ _ _)
    replace X5 := hide (X5.out.later hb36)
    replace P32 := hide (P32.out.later hb36)
    replace Ox0 := hide (own_below Ox0.out hb36)
    have z39 := hide hb36.size
    replace hB := hide (hB.out.trans (hb36.mono hB.out.size))
    clear hb36
    have k40 := X38.out.cell
    rw [hw35] at k40
    have H43 := hide (HI.out w34 ⟨P32.out.inn (by omega), hll, HTX.out⟩ (HTb.out.below hB.out))
    go_wp2_with fail
    rw [← hw35]
    clear hw35
    refine (H43.out).mono ?_
    rintro e w41 ⟨y0, rfl, oy0, hb42⟩
    clear H43
    obtain ⟨ay0, cy0, rfl, -⟩ := own_shp oy0
    have Ly0 : Hid (∀ y, (Value.slice ay0 R0.length cy0).ownBlock = some y → w34.heap.size ≤ y ∧ y < w41.heap.size) := hide (fun y hy => World.ownsRow.lt oy0 y hy)
    have Oy0 := hide oy0
    clear oy0
    replace X5 := hide (X5.out.later hb42)
    replace X38 := hide (X38.out.later hb42)
    replace P32 := hide (P32.out.later hb42)
    replace Ox0 := hide (own_below Ox0.out hb42)
    have z44 := hide hb42.size
    replace hB := hide (hB.out.trans (hb42.mono hB.out.size))
    clear hb42
    clear k40
    have E47 := hide (eqS_own Oy0.out Ox0.out (by omega))
    go_wp2_with fail
    refine (E47.out).mono ?_
    rintro e w45 ⟨rfl, hb46⟩
    clear E47
    replace X5 := hide (X5.out.later hb46)
    replace X38 := hide (X38.out.later hb46)
    replace P32 := hide (P32.out.later hb46)
    replace Ox0 := hide (own_below Ox0.out hb46)
    replace Oy0 := hide (own_below Oy0.out hb46)
    have z48 := hide hb46.size
    replace hB := hide (hB.out.trans (hb46.mono hB.out.size))
    clear hb46
    have KC49 : Hid (∀ w', Below w45.heap.size w45 w' → w'.cell? ⟨w24.heap.size, 0, none⟩ = some (.slice (some ⟨g26, 0, none⟩) l.length l.length) ∧ w'.cell? ⟨w.heap.size, 0, none⟩ = some (.slice al ml cl)) := hide (fun w' hb => ⟨(X38.out.later hb).cell, (X5.out.later hb).cell⟩)
    have CT50 := hide (fun w' (hb : Below w45.heap.size w45 w') => TC.out w' (HA.out.later (hB.out.trans (hb.mono hB.out.size))))
    have CX51 := hide (fun w' (hb : Below w45.heap.size w45 w') => P32.out.later hb)
    go_wp2_with fail
    go_region_held3 (fun w' => w'.cell? ⟨w24.heap.size, 0, none⟩ = some (.slice (some ⟨g26, 0, none⟩) l.length l.length) ∧ w'.cell? ⟨w.heap.size, 0, none⟩ = some (.slice al ml cl))
      (first | assumption | exact KC49.out _ (Below.refl _ _) | exact KC49.out _ (Below.refl _ _).drew | exact KC49.out _ hbq2 | exact KC49.out _ hbq1)
      (first
        | (go_at_call 9; refine (eqRope_cp (CX51.out wq1 hbq1) cpq.out (by omega)).mono ?_; rintro e wq2 ⟨rfl, hq2⟩; have hbq2 : Below w45.heap.size w45 wq2 := hbq1.trans (hq2.mono hbq1.size); clear hq2)
        | (go_at_call 6; refine (CT50.out _ (Below.refl _ _).drew).mono ?_; rintro e wq1 ⟨gq, rfl, hgq, cpq0, hq1⟩; have cpq := hide cpq0; have hbq1 : Below w45.heap.size w45 wq1 := (Below.refl _ _).drew.trans hq1; clear hq1 cpq0))
    clear cpq hbq1 KC49 CT50 CX51 hgq
    replace X5 := hide (X5.out.later hbq2)
    replace X38 := hide (X38.out.later hbq2)
    replace P32 := hide (P32.out.later hbq2)
    replace Ox0 := hide (own_below Ox0.out hbq2)
    replace Oy0 := hide (own_below Oy0.out hbq2)
    have z52 := hide hbq2.size
    replace hB := hide (hB.out.trans (hbq2.mono hB.out.size))
    clear hbq2
    have k56 := X38.out.cell
    have M55 := hide (markRope_cp P32.out (by omega))
    have ek0 : decide (((1 + l.length * 5 : Nat) : Int) < 0) = false := by rw [decide_eq_false_iff_not]; omega
    obtain ⟨KK, hKK⟩ : ∃ KK : Int, ((1 + l.length * 5 : Nat) : Int) = KK := ⟨_, rfl⟩
    rw [hKK] at ek0 M55
    clear hKK
    go_wp2_with fail
    refine (M55.out).mono ?_
    rintro e w53 ⟨rfl, hg54⟩
    clear M55 k56
    clear P32
    replace X5 := hide (X5.out.grown hg54 (fun e => by have u0 := Option.some.inj e; have ui := I31.out; have q0 := z6.out; have q1 := e4.out; have q2 := z9.out; have q3 := z19.out; have q4 := z23.out; have q5 := z33.out; have q6 := z39.out; have q7 := e37.out; have q8 := z44.out; have q9 := z48.out; have q10 := z52.out; omega))
    replace X38 := hide (X38.out.grown hg54 (fun e => by have u0 := Option.some.inj e; have ui := I31.out; have q0 := z6.out; have q1 := e4.out; have q2 := z9.out; have q3 := z19.out; have q4 := z23.out; have q5 := z33.out; have q6 := z39.out; have q7 := e37.out; have q8 := z44.out; have q9 := z48.out; have q10 := z52.out; omega))
    replace Ox0 := hide (own_grown Ox0.out hg54 (fun y hy e => by have u0 := Option.some.inj e; have ui := I31.out; have u2 := Lx0.out y hy; have q0 := z6.out; have q1 := e4.out; have q2 := z9.out; have q3 := z19.out; have q4 := z23.out; have q5 := z33.out; have q6 := z39.out; have q7 := e37.out; have q8 := z44.out; have q9 := z48.out; have q10 := z52.out; omega))
    replace Oy0 := hide (own_grown Oy0.out hg54 (fun y hy e => by have u0 := Option.some.inj e; have ui := I31.out; have u2 := Ly0.out y hy; have q0 := z6.out; have q1 := e4.out; have q2 := z9.out; have q3 := z19.out; have q4 := z23.out; have q5 := z33.out; have q6 := z39.out; have q7 := e37.out; have q8 := z44.out; have q9 := z48.out; have q10 := z52.out; omega))
    have z57 := hide hg54.size
    replace hB := hide (hB.out.grown hg54 hB.out.size (fun y e => by have u0 := Option.some.inj e; have ui := I31.out; have q0 := z6.out; have q1 := e4.out; have q2 := z9.out; have q3 := z19.out; have q4 := z23.out; have q5 := z33.out; have q6 := z39.out; have q7 := e37.out; have q8 := z44.out; have q9 := z48.out; have q10 := z52.out; omega))
    clear hg54
    have E60 := hide (eqS_own Oy0.out Ox0.out (by omega))
    go_wp2_with fail
    refine (E60.out).mono ?_
    rintro e w58 ⟨rfl, hb59⟩
    clear E60
    replace X5 := hide (X5.out.later hb59)
    replace X38 := hide (X38.out.later hb59)
    replace Ox0 := hide (own_below Ox0.out hb59)
    replace Oy0 := hide (own_below Oy0.out hb59)
    have z61 := hide hb59.size
    replace hB := hide (hB.out.trans (hb59.mono hB.out.size))
    clear hb59
    have M64 := hide (markS_own Oy0.out (by omega))
    have em0 : decide (((1 + R0.length : Nat) : Int) < 0) = false := by rw [decide_eq_false_iff_not]; omega
    obtain ⟨KM, hKM⟩ : ∃ KM : Int, ((1 + R0.length : Nat) : Int) = KM := ⟨_, rfl⟩
    rw [hKM] at em0 M64
    have HKM := hide hKM
    clear hKM
    have em1 : (KM != KM) = false := by simp
    go_wp2_with fail
    refine (M64.out).mono ?_
    rintro e w62 ⟨rfl, hg63, mk65⟩
    clear M64
    clear Oy0
    replace X5 := hide (X5.out.grown hg63 (fun e => by have u0 := Ly0.out _ e; have q0 := z6.out; have q1 := e4.out; have q2 := z9.out; have q3 := z19.out; have q4 := z23.out; have q5 := z33.out; have q6 := z39.out; have q7 := e37.out; have q8 := z44.out; have q9 := z48.out; have q10 := z52.out; have q11 := z57.out; have q12 := z61.out; omega))
    replace X38 := hide (X38.out.grown hg63 (fun e => by have u0 := Ly0.out _ e; have q0 := z6.out; have q1 := e4.out; have q2 := z9.out; have q3 := z19.out; have q4 := z23.out; have q5 := z33.out; have q6 := z39.out; have q7 := e37.out; have q8 := z44.out; have q9 := z48.out; have q10 := z52.out; have q11 := z57.out; have q12 := z61.out; omega))
    replace Ox0 := hide (own_grown Ox0.out hg63 (fun y hy e => by have u0 := Ly0.out _ e; have u2 := Lx0.out y hy; have q0 := z6.out; have q1 := e4.out; have q2 := z9.out; have q3 := z19.out; have q4 := z23.out; have q5 := z33.out; have q6 := z39.out; have q7 := e37.out; have q8 := z44.out; have q9 := z48.out; have q10 := z52.out; have q11 := z57.out; have q12 := z61.out; omega))
    have z66 := hide hg63.size
    replace hB := hide (hB.out.grown hg63 hB.out.size (fun y e => by have u0 := Ly0.out _ e; have q0 := z6.out; have q1 := e4.out; have q2 := z9.out; have q3 := z19.out; have q4 := z23.out; have q5 := z33.out; have q6 := z39.out; have q7 := e37.out; have q8 := z44.out; have q9 := z48.out; have q10 := z52.out; have q11 := z57.out; have q12 := z61.out; omega))
    clear hg63
    have Y67 := hide mk65
    clear mk65
    have D70 := hide (heldS_own Y67.out (by omega))
    rw [HKM.out] at D70
    go_wp2_with fail
    refine (D70.out).mono ?_
    rintro e w68 ⟨rfl, hb69⟩
    clear D70
    replace X5 := hide (X5.out.later hb69)
    replace X38 := hide (X38.out.later hb69)
    replace Y67 := hide (Y67.out.later hb69)
    replace Ox0 := hide (own_below Ox0.out hb69)
    have z71 := hide hb69.size
    replace hB := hide (hB.out.trans (hb69.mono hB.out.size))
    clear hb69
    have T77 := hide (TC.out w68 (HA.out.later hB.out))
    have k78 := X5.out.cell
    go_wp2_with fail
    refine (T77.out).mono ?_
    rintro e w72 ⟨g74, rfl, hg75, C76, hb73⟩
    clear T77 k78
    have I79 : Hid (w68.heap.size ≤ g74 ∧ g74 < w72.heap.size) := hide ⟨hg75, C76.lt⟩
    have P80 := hide C76
    clear C76 hg75
    replace X5 := hide (X5.out.later hb73)
    replace X38 := hide (X38.out.later hb73)
    replace Y67 := hide (Y67.out.later hb73)
    replace Ox0 := hide (own_below Ox0.out hb73)
    have z81 := hide hb73.size
    replace hB := hide (hB.out.trans (hb73.mono hB.out.size))
    clear hb73
    have H84 := hide (HI.out w72 ⟨P80.out.inn (by omega), hll, HTX.out⟩ (HTb.out.below hB.out))
    go_wp2_with fail
    refine (H84.out).mono ?_
    rintro e w82 ⟨z0, rfl, oz0, hb83⟩
    clear H84
    obtain ⟨az0, cz0, rfl, -⟩ := own_shp oz0
    have Lz0 : Hid (∀ y, (Value.slice az0 R0.length cz0).ownBlock = some y → w72.heap.size ≤ y ∧ y < w82.heap.size) := hide (fun y hy => World.ownsRow.lt oz0 y hy)
    have Oz0 := hide oz0
    clear oz0
    replace X5 := hide (X5.out.later hb83)
    replace X38 := hide (X38.out.later hb83)
    replace P80 := hide (P80.out.later hb83)
    replace Y67 := hide (Y67.out.later hb83)
    replace Ox0 := hide (own_below Ox0.out hb83)
    have z85 := hide hb83.size
    replace hB := hide (hB.out.trans (hb83.mono hB.out.size))
    clear hb83
    have E88 := hide (eqS_own Oz0.out Ox0.out (by omega))
    go_wp2_with fail
    refine (E88.out).mono ?_
    rintro e w86 ⟨rfl, hb87⟩
    clear E88
    replace X5 := hide (X5.out.later hb87)
    replace X38 := hide (X38.out.later hb87)
    replace P80 := hide (P80.out.later hb87)
    replace Y67 := hide (Y67.out.later hb87)
    replace Ox0 := hide (own_below Ox0.out hb87)
    replace Oz0 := hide (own_below Oz0.out hb87)
    have z89 := hide hb87.size
    replace hB := hide (hB.out.trans (hb87.mono hB.out.size))
    clear hb87
    have D92 := hide (heldS_own Y67.out (by omega))
    rw [HKM.out] at D92
    go_wp2_with fail
    refine (D92.out).mono ?_
    rintro e w90 ⟨rfl, hb91⟩
    clear D92
    replace X5 := hide (X5.out.later hb91)
    replace X38 := hide (X38.out.later hb91)
    replace P80 := hide (P80.out.later hb91)
    replace Y67 := hide (Y67.out.later hb91)
    replace Ox0 := hide (own_below Ox0.out hb91)
    replace Oz0 := hide (own_below Oz0.out hb91)
    have z93 := hide hb91.size
    replace hB := hide (hB.out.trans (hb91.mono hB.out.size))
    clear hb91
    go_wp2
    go_ret
    exact ⟨rfl, hB.out⟩
  · have hb0 : Below w.heap.size w (w.alloc (.cells #[.slice al ml cl] 24)) := (Below.refl _ _).alloc (Nat.le_refl _) _
    have Z := hide (szRope_from (hal.later hb0) hrl 1048576 (by omega))
    rw [if_neg fsl] at Z
    have HB0 := hide hb0
    clear hb0 hal hrl fsl
    go_enter Tryd.func3, Tryd.ntmps3
    go_wp2_with fail
    refine Z.out.mono ?_
    rintro e z ⟨rfl, hz⟩
    go_wp2
    go_ret
    exact ⟨rfl, HB0.out.trans (hz.mono (by simp))⟩
end Go.Proofs.YtpdngncioblibacDoor
