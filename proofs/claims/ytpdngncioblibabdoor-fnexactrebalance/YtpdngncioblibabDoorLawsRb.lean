/- The walks of the exact laws of chapter 12. -/
import Derived.Test.YtpdngncioblibabDoorLawRpA
set_option linter.unusedVariables false
namespace Go.Proofs.YtpdngncioblibabDoor
open Go.RowKit
open Doc1

set_option maxRecDepth 100000 in
set_option maxHeartbeats 8000000 in
theorem law_rebalance (vl : Value) (l : List Bg) (w : World) (hal : ArgBo w vl l) (hrl : ∀ i (hi : i < l.length), l[i].text.size ≤ 9223372036854775807) (hT : Tab w) :
    Calls Tryd.prog 8 #[.agg #[vl]] w fun e w' => e = .returned (.bool true) ∧ Below w.heap.size w w' := by
  obtain ⟨al, cl, ml, rfl⟩ := arg_shape hal
  by_cases fsl : szBon l ≤ 1048576
  · skip
    have hll : l.length ≤ 1048576 := by have := fsl; unfold szBon at this; omega
    have htl : ∀ i (hi : i < l.length), l[i].text.size ≤ 1048576 := fun i hi => Nat.le_trans (szBon_txt l i hi) fsl
    have HA := hide hal
    have SZ := hide (fun w' (h : ArgBo w' (.slice al ml cl) l) => szRope_from h hrl 1048576 (by omega))
    rw [if_pos fsl] at SZ
    have TC := hide (fun w' (h : ArgBo w' (.slice al ml cl) l) => toRope_cp h (by omega))
    obtain ⟨K0, hK0⟩ : ∃ K : Nat, 1048576 - szBon l = K := ⟨_, rfl⟩
    rw [hK0] at SZ
    have e00 : decide ((K0 : Int) < 0) = false := by rw [decide_eq_false_iff_not]; omega
    have HTX := hide htl
    clear hal hrl htl hK0 fsl
    have HTb := hide hT
    have hB := hide (Below.refl w.heap.size w)
    clear hT
    have HS := hide (fun w' {g : Option Addr} {c : Nat} (h : RIn w' g c l) => rebalanceS h)
    have HI := hide (fun w' {g : Option Addr} {c : Nat} (h : RIn w' g c l) hT => rebalanceI h hT)
    obtain ⟨R0, hR0⟩ : ∃ R, rbL l = R := ⟨_, rfl⟩
    obtain ⟨R1, hR1⟩ : ∃ R, rbB l = R := ⟨_, rfl⟩
    simp only [hR0, hR1] at HS HI
    have hlr0 : R0.length ≤ 1000000 := by rw [← hR0]; exact rbL_len _
    clear hR0 hR1
    go_enter Tryd.func8, Tryd.ntmps8
    obtain ⟨w1, hw2⟩ : ∃ wq0, wq0 = w.alloc (.cells #[.slice al ml cl] 24) := ⟨_, rfl⟩
    have hb3 : Below w.heap.size w w1 := by rw [hw2]; exact (Below.refl _ _).alloc (Nat.le_refl _) _
    have e4 : Hid (w1.heap.size = w.heap.size + 1) := hide (by rw [hw2]; simp)
    have X5 : Hid (CellT 24 w1 w.heap.size (.slice al ml cl)) := hide (by rw [hw2]; exact CellT.new _ _ _)
    have z6 := hide hb3.size
    replace hB := hide (hB.out.trans (hb3.mono hB.out.size))
    clear hb3
    have SZ2 := hide (SZ.out w1 (HA.out.later hB.out))
    go_wp2_with fail
    rw [← hw2]
    clear hw2
    refine (SZ2.out).mono ?_
    rintro e w7 ⟨rfl, hb8⟩
    replace X5 := hide (X5.out.later hb8)
    have z9 := hide hb8.size
    replace hB := hide (hB.out.trans (hb8.mono hB.out.size))
    clear hb8
    have T15 := hide (TC.out w7 (HA.out.later hB.out))
    have k16 := X5.out.cell
    go_wp2_with fail
    refine (T15.out).mono ?_
    rintro e w10 ⟨g12, rfl, hg13, C14, hb11⟩
    clear T15 k16
    have I17 : Hid (w7.heap.size ≤ g12 ∧ g12 < w10.heap.size) := hide ⟨hg13, C14.lt⟩
    have P18 := hide C14
    clear C14 hg13
    replace X5 := hide (X5.out.later hb11)
    have z19 := hide hb11.size
    replace hB := hide (hB.out.trans (hb11.mono hB.out.size))
    clear hb11
    have H22 := hide (HS.out w10 ⟨P18.out.inn (by omega), hll, HTX.out⟩)
    go_wp2_with fail
    refine (H22.out).mono ?_
    rintro e w20 ⟨x0, rfl, ox0, hb21⟩
    clear H22
    obtain ⟨ax0, cx0, rfl, -⟩ := own_shp ox0
    have Lx0 : Hid (∀ y, (Value.slice ax0 R0.length cx0).ownBlock = some y → w10.heap.size ≤ y ∧ y < w20.heap.size) := hide (fun y hy => World.ownsRow.lt ox0 y hy)
    have Ox0 := hide ox0
    clear ox0
    replace X5 := hide (X5.out.later hb21)
    replace P18 := hide (P18.out.later hb21)
    have z23 := hide hb21.size
    replace hB := hide (hB.out.trans (hb21.mono hB.out.size))
    clear hb21
    obtain ⟨w24, hw25⟩ : ∃ wq0, wq0 = w20.alloc (.cells #[.slice ax0 R0.length cx0] 30) := ⟨_, rfl⟩
    have hb26 : Below w20.heap.size w20 w24 := by rw [hw25]; exact (Below.refl _ _).alloc (Nat.le_refl _) _
    have e27 : Hid (w24.heap.size = w20.heap.size + 1) := hide (by rw [hw25]; simp)
    have X28 : Hid (CellT 30 w24 w20.heap.size (.slice ax0 R0.length cx0)) := hide (by rw [hw25]; exact CellT.new _ _ _)
    replace X5 := hide (X5.out.later hb26)
    replace P18 := hide (P18.out.later hb26)
    replace Ox0 := hide (own_below Ox0.out hb26)
    have z29 := hide hb26.size
    replace hB := hide (hB.out.trans (hb26.mono hB.out.size))
    clear hb26
    clear P18
    have T35 := hide (TC.out w24 (HA.out.later hB.out))
    have k36 := X5.out.cell
    rw [hw25] at k36
    go_wp2_with fail
    rw [← hw25]
    clear hw25
    refine (T35.out).mono ?_
    rintro e w30 ⟨g32, rfl, hg33, C34, hb31⟩
    clear T35 k36
    have I37 : Hid (w24.heap.size ≤ g32 ∧ g32 < w30.heap.size) := hide ⟨hg33, C34.lt⟩
    have P38 := hide C34
    clear C34 hg33
    replace X5 := hide (X5.out.later hb31)
    replace X28 := hide (X28.out.later hb31)
    replace Ox0 := hide (own_below Ox0.out hb31)
    have z39 := hide hb31.size
    replace hB := hide (hB.out.trans (hb31.mono hB.out.size))
    clear hb31
    obtain ⟨w40, hw41⟩ : ∃ wq0, wq0 = w30.alloc (.cells #[.slice (some ⟨g32, 0, none⟩) l.length l.length] 30) := ⟨_, rfl⟩
    have hb42 : Below w30.heap.size w30 w40 := by rw [hw41]; exact (Below.refl _ _).alloc (Nat.le_refl _) _
    have e43 : Hid (w40.heap.size = w30.heap.size + 1) := hide (by rw [hw41]; simp)
    have X44 : Hid (CellT 30 w40 w30.heap.size (.slice (some ⟨g32, 0, none⟩) l.length l.length)) := hide (by rw [hw41]; exact CellT.new _ _ _)
    replace X5 := hide (X5.out.later hb42)
    replace X28 := hide (X28.out.later hb42)
    replace P38 := hide (P38.out.later hb42)
    replace Ox0 := hide (own_below Ox0.out hb42)
    have z45 := hide hb42.size
    replace hB := hide (hB.out.trans (hb42.mono hB.out.size))
    clear hb42
    have k46 := X44.out.cell
    rw [hw41] at k46
    have H49 := hide (HI.out w40 ⟨P38.out.inn (by omega), hll, HTX.out⟩ (HTb.out.below hB.out))
    go_wp2_with fail
    rw [← hw41]
    clear hw41
    refine (H49.out).mono ?_
    rintro e w47 ⟨y0, rfl, oy0, hb48⟩
    clear H49
    obtain ⟨ay0, cy0, rfl, -⟩ := own_shp oy0
    have Ly0 : Hid (∀ y, (Value.slice ay0 R0.length cy0).ownBlock = some y → w40.heap.size ≤ y ∧ y < w47.heap.size) := hide (fun y hy => World.ownsRow.lt oy0 y hy)
    have Oy0 := hide oy0
    clear oy0
    replace X5 := hide (X5.out.later hb48)
    replace X28 := hide (X28.out.later hb48)
    replace X44 := hide (X44.out.later hb48)
    replace P38 := hide (P38.out.later hb48)
    replace Ox0 := hide (own_below Ox0.out hb48)
    have z50 := hide hb48.size
    replace hB := hide (hB.out.trans (hb48.mono hB.out.size))
    clear hb48
    obtain ⟨w51, hw52⟩ : ∃ wq0, wq0 = w47.alloc (.cells #[.slice ay0 R0.length cy0] 30) := ⟨_, rfl⟩
    have hb53 : Below w47.heap.size w47 w51 := by rw [hw52]; exact (Below.refl _ _).alloc (Nat.le_refl _) _
    have e54 : Hid (w51.heap.size = w47.heap.size + 1) := hide (by rw [hw52]; simp)
    have X55 : Hid (CellT 30 w51 w47.heap.size (.slice ay0 R0.length cy0)) := hide (by rw [hw52]; exact CellT.new _ _ _)
    replace X5 := hide (X5.out.later hb53)
    replace X28 := hide (X28.out.later hb53)
    replace X44 := hide (X44.out.later hb53)
    replace P38 := hide (P38.out.later hb53)
    replace Ox0 := hide (own_below Ox0.out hb53)
    replace Oy0 := hide (own_below Oy0.out hb53)
    have z56 := hide hb53.size
    replace hB := hide (hB.out.trans (hb53.mono hB.out.size))
    clear hb53
    clear k46
    have k60 := X55.out.cell
    rw [hw52] at k60
    have k61 := X28.out.cell
    rw [hw52] at k61
    have E59 := hide (eqRope_own Oy0.out Ox0.out (by omega))
    go_wp2_with fail
    rw [← hw52]
    clear hw52
    refine (E59.out).mono ?_
    rintro e w57 ⟨rfl, hb58⟩
    clear E59 k60 k61
    replace X5 := hide (X5.out.later hb58)
    replace X28 := hide (X28.out.later hb58)
    replace X44 := hide (X44.out.later hb58)
    replace X55 := hide (X55.out.later hb58)
    replace P38 := hide (P38.out.later hb58)
    replace Ox0 := hide (own_below Ox0.out hb58)
    replace Oy0 := hide (own_below Oy0.out hb58)
    have z62 := hide hb58.size
    replace hB := hide (hB.out.trans (hb58.mono hB.out.size))
    clear hb58
    have KC63 : Hid (∀ w', Below w57.heap.size w57 w' → w'.cell? ⟨w30.heap.size, 0, none⟩ = some (.slice (some ⟨g32, 0, none⟩) l.length l.length) ∧ w'.cell? ⟨w.heap.size, 0, none⟩ = some (.slice al ml cl)) := hide (fun w' hb => ⟨(X44.out.later hb).cell, (X5.out.later hb).cell⟩)
    have CT64 := hide (fun w' (hb : Below w57.heap.size w57 w') => TC.out w' (HA.out.later (hB.out.trans (hb.mono hB.out.size))))
    have CX65 := hide (fun w' (hb : Below w57.heap.size w57 w') => P38.out.later hb)
    go_wp2_with fail
    go_region_held3 (fun w' => w'.cell? ⟨w30.heap.size, 0, none⟩ = some (.slice (some ⟨g32, 0, none⟩) l.length l.length) ∧ w'.cell? ⟨w.heap.size, 0, none⟩ = some (.slice al ml cl))
      (first | assumption | exact KC63.out _ (Below.refl _ _) | exact KC63.out _ (Below.refl _ _).drew | exact KC63.out _ hbq2 | exact KC63.out _ hbq1)
      (first
        | (go_at_call 13; refine (eqRope_cp (CX65.out wq1 hbq1) cpq.out (by omega)).mono ?_; rintro e wq2 ⟨rfl, hq2⟩; have hbq2 : Below w57.heap.size w57 wq2 := hbq1.trans (hq2.mono hbq1.size); clear hq2)
        | (go_at_call 11; refine (CT64.out _ (Below.refl _ _).drew).mono ?_; rintro e wq1 ⟨gq, rfl, hgq, cpq0, hq1⟩; have cpq := hide cpq0; have hbq1 : Below w57.heap.size w57 wq1 := (Below.refl _ _).drew.trans hq1; clear hq1 cpq0))
    clear cpq hbq1 KC63 CT64 CX65 hgq
    replace X5 := hide (X5.out.later hbq2)
    replace X28 := hide (X28.out.later hbq2)
    replace X44 := hide (X44.out.later hbq2)
    replace X55 := hide (X55.out.later hbq2)
    replace P38 := hide (P38.out.later hbq2)
    replace Ox0 := hide (own_below Ox0.out hbq2)
    replace Oy0 := hide (own_below Oy0.out hbq2)
    have z66 := hide hbq2.size
    replace hB := hide (hB.out.trans (hbq2.mono hB.out.size))
    clear hbq2
    have k70 := X44.out.cell
    have M69 := hide (markRope_cp P38.out (by omega))
    have ek0 : decide (((1 + l.length * 5 : Nat) : Int) < 0) = false := by rw [decide_eq_false_iff_not]; omega
    obtain ⟨KK, hKK⟩ : ∃ KK : Int, ((1 + l.length * 5 : Nat) : Int) = KK := ⟨_, rfl⟩
    rw [hKK] at ek0 M69
    clear hKK
    go_wp2_with fail
    refine (M69.out).mono ?_
    rintro e w67 ⟨rfl, hg68⟩
    clear M69 k70
    clear P38
    replace X5 := hide (X5.out.grown hg68 (fun e => by have u0 := Option.some.inj e; have ui := I37.out; have q0 := z6.out; have q1 := e4.out; have q2 := z9.out; have q3 := z19.out; have q4 := z23.out; have q5 := z29.out; have q6 := e27.out; have q7 := z39.out; have q8 := z45.out; have q9 := e43.out; have q10 := z50.out; have q11 := z56.out; have q12 := e54.out; have q13 := z62.out; have q14 := z66.out; omega))
    replace X28 := hide (X28.out.grown hg68 (fun e => by have u0 := Option.some.inj e; have ui := I37.out; have q0 := z6.out; have q1 := e4.out; have q2 := z9.out; have q3 := z19.out; have q4 := z23.out; have q5 := z29.out; have q6 := e27.out; have q7 := z39.out; have q8 := z45.out; have q9 := e43.out; have q10 := z50.out; have q11 := z56.out; have q12 := e54.out; have q13 := z62.out; have q14 := z66.out; omega))
    replace X44 := hide (X44.out.grown hg68 (fun e => by have u0 := Option.some.inj e; have ui := I37.out; have q0 := z6.out; have q1 := e4.out; have q2 := z9.out; have q3 := z19.out; have q4 := z23.out; have q5 := z29.out; have q6 := e27.out; have q7 := z39.out; have q8 := z45.out; have q9 := e43.out; have q10 := z50.out; have q11 := z56.out; have q12 := e54.out; have q13 := z62.out; have q14 := z66.out; omega))
    replace X55 := hide (X55.out.grown hg68 (fun e => by have u0 := Option.some.inj e; have ui := I37.out; have q0 := z6.out; have q1 := e4.out; have q2 := z9.out; have q3 := z19.out; have q4 := z23.out; have q5 := z29.out; have q6 := e27.out; have q7 := z39.out; have q8 := z45.out; have q9 := e43.out; have q10 := z50.out; have q11 := z56.out; have q12 := e54.out; have q13 := z62.out; have q14 := z66.out; omega))
    replace Ox0 := hide (own_grown Ox0.out hg68 (fun y hy e => by have u0 := Option.some.inj e; have ui := I37.out; have u2 := Lx0.out y hy; have q0 := z6.out; have q1 := e4.out; have q2 := z9.out; have q3 := z19.out; have q4 := z23.out; have q5 := z29.out; have q6 := e27.out; have q7 := z39.out; have q8 := z45.out; have q9 := e43.out; have q10 := z50.out; have q11 := z56.out; have q12 := e54.out; have q13 := z62.out; have q14 := z66.out; omega))
    replace Oy0 := hide (own_grown Oy0.out hg68 (fun y hy e => by have u0 := Option.some.inj e; have ui := I37.out; have u2 := Ly0.out y hy; have q0 := z6.out; have q1 := e4.out; have q2 := z9.out; have q3 := z19.out; have q4 := z23.out; have q5 := z29.out; have q6 := e27.out; have q7 := z39.out; have q8 := z45.out; have q9 := e43.out; have q10 := z50.out; have q11 := z56.out; have q12 := e54.out; have q13 := z62.out; have q14 := z66.out; omega))
    have z71 := hide hg68.size
    replace hB := hide (hB.out.grown hg68 hB.out.size (fun y e => by have u0 := Option.some.inj e; have ui := I37.out; have q0 := z6.out; have q1 := e4.out; have q2 := z9.out; have q3 := z19.out; have q4 := z23.out; have q5 := z29.out; have q6 := e27.out; have q7 := z39.out; have q8 := z45.out; have q9 := e43.out; have q10 := z50.out; have q11 := z56.out; have q12 := e54.out; have q13 := z62.out; have q14 := z66.out; omega))
    clear hg68
    have k75 := X55.out.cell
    have k76 := X28.out.cell
    have E74 := hide (eqRope_own Oy0.out Ox0.out (by omega))
    go_wp2_with fail
    refine (E74.out).mono ?_
    rintro e w72 ⟨rfl, hb73⟩
    clear E74 k75 k76
    replace X5 := hide (X5.out.later hb73)
    replace X28 := hide (X28.out.later hb73)
    replace X44 := hide (X44.out.later hb73)
    replace X55 := hide (X55.out.later hb73)
    replace Ox0 := hide (own_below Ox0.out hb73)
    replace Oy0 := hide (own_below Oy0.out hb73)
    have z77 := hide hb73.size
    replace hB := hide (hB.out.trans (hb73.mono hB.out.size))
    clear hb73
    have k82 := X55.out.cell
    have M80 := hide (markRope_own Oy0.out (by omega))
    have em0 : decide (((1 + R0.length * 5 : Nat) : Int) < 0) = false := by rw [decide_eq_false_iff_not]; omega
    obtain ⟨KM, hKM⟩ : ∃ KM : Int, ((1 + R0.length * 5 : Nat) : Int) = KM := ⟨_, rfl⟩
    rw [hKM] at em0 M80
    have HKM := hide hKM
    clear hKM
    have em1 : (KM != KM) = false := by simp
    go_wp2_with fail
    refine (M80.out).mono ?_
    rintro e w78 ⟨rfl, hg79, mk81⟩
    clear M80 k82
    clear Oy0
    replace X5 := hide (X5.out.grown hg79 (fun e => by have u0 := Ly0.out _ e; have q0 := z6.out; have q1 := e4.out; have q2 := z9.out; have q3 := z19.out; have q4 := z23.out; have q5 := z29.out; have q6 := e27.out; have q7 := z39.out; have q8 := z45.out; have q9 := e43.out; have q10 := z50.out; have q11 := z56.out; have q12 := e54.out; have q13 := z62.out; have q14 := z66.out; have q15 := z71.out; have q16 := z77.out; omega))
    replace X28 := hide (X28.out.grown hg79 (fun e => by have u0 := Ly0.out _ e; have q0 := z6.out; have q1 := e4.out; have q2 := z9.out; have q3 := z19.out; have q4 := z23.out; have q5 := z29.out; have q6 := e27.out; have q7 := z39.out; have q8 := z45.out; have q9 := e43.out; have q10 := z50.out; have q11 := z56.out; have q12 := e54.out; have q13 := z62.out; have q14 := z66.out; have q15 := z71.out; have q16 := z77.out; omega))
    replace X44 := hide (X44.out.grown hg79 (fun e => by have u0 := Ly0.out _ e; have q0 := z6.out; have q1 := e4.out; have q2 := z9.out; have q3 := z19.out; have q4 := z23.out; have q5 := z29.out; have q6 := e27.out; have q7 := z39.out; have q8 := z45.out; have q9 := e43.out; have q10 := z50.out; have q11 := z56.out; have q12 := e54.out; have q13 := z62.out; have q14 := z66.out; have q15 := z71.out; have q16 := z77.out; omega))
    replace X55 := hide (X55.out.grown hg79 (fun e => by have u0 := Ly0.out _ e; have q0 := z6.out; have q1 := e4.out; have q2 := z9.out; have q3 := z19.out; have q4 := z23.out; have q5 := z29.out; have q6 := e27.out; have q7 := z39.out; have q8 := z45.out; have q9 := e43.out; have q10 := z50.out; have q11 := z56.out; have q12 := e54.out; have q13 := z62.out; have q14 := z66.out; have q15 := z71.out; have q16 := z77.out; omega))
    replace Ox0 := hide (own_grown Ox0.out hg79 (fun y hy e => by have u0 := Ly0.out _ e; have u2 := Lx0.out y hy; have q0 := z6.out; have q1 := e4.out; have q2 := z9.out; have q3 := z19.out; have q4 := z23.out; have q5 := z29.out; have q6 := e27.out; have q7 := z39.out; have q8 := z45.out; have q9 := e43.out; have q10 := z50.out; have q11 := z56.out; have q12 := e54.out; have q13 := z62.out; have q14 := z66.out; have q15 := z71.out; have q16 := z77.out; omega))
    have z83 := hide hg79.size
    replace hB := hide (hB.out.grown hg79 hB.out.size (fun y e => by have u0 := Ly0.out _ e; have q0 := z6.out; have q1 := e4.out; have q2 := z9.out; have q3 := z19.out; have q4 := z23.out; have q5 := z29.out; have q6 := e27.out; have q7 := z39.out; have q8 := z45.out; have q9 := e43.out; have q10 := z50.out; have q11 := z56.out; have q12 := e54.out; have q13 := z62.out; have q14 := z66.out; have q15 := z71.out; have q16 := z77.out; omega))
    clear hg79
    have Y84 := hide mk81
    clear mk81
    have k88 := X55.out.cell
    have D87 := hide (heldRope_of Y84.out (by omega))
    rw [HKM.out] at D87
    go_wp2_with fail
    refine (D87.out).mono ?_
    rintro e w85 ⟨rfl, hb86⟩
    clear D87 k88
    replace X5 := hide (X5.out.later hb86)
    replace X28 := hide (X28.out.later hb86)
    replace X44 := hide (X44.out.later hb86)
    replace X55 := hide (X55.out.later hb86)
    replace Y84 := hide (Y84.out.later hb86)
    replace Ox0 := hide (own_below Ox0.out hb86)
    have z89 := hide hb86.size
    replace hB := hide (hB.out.trans (hb86.mono hB.out.size))
    clear hb86
    have T95 := hide (TC.out w85 (HA.out.later hB.out))
    have k96 := X5.out.cell
    go_wp2_with fail
    refine (T95.out).mono ?_
    rintro e w90 ⟨g92, rfl, hg93, C94, hb91⟩
    clear T95 k96
    have I97 : Hid (w85.heap.size ≤ g92 ∧ g92 < w90.heap.size) := hide ⟨hg93, C94.lt⟩
    have P98 := hide C94
    clear C94 hg93
    replace X5 := hide (X5.out.later hb91)
    replace X28 := hide (X28.out.later hb91)
    replace X44 := hide (X44.out.later hb91)
    replace X55 := hide (X55.out.later hb91)
    replace Y84 := hide (Y84.out.later hb91)
    replace Ox0 := hide (own_below Ox0.out hb91)
    have z99 := hide hb91.size
    replace hB := hide (hB.out.trans (hb91.mono hB.out.size))
    clear hb91
    have H102 := hide (HI.out w90 ⟨P98.out.inn (by omega), hll, HTX.out⟩ (HTb.out.below hB.out))
    go_wp2_with fail
    refine (H102.out).mono ?_
    rintro e w100 ⟨z0, rfl, oz0, hb101⟩
    clear H102
    obtain ⟨az0, cz0, rfl, -⟩ := own_shp oz0
    have Lz0 : Hid (∀ y, (Value.slice az0 R0.length cz0).ownBlock = some y → w90.heap.size ≤ y ∧ y < w100.heap.size) := hide (fun y hy => World.ownsRow.lt oz0 y hy)
    have Oz0 := hide oz0
    clear oz0
    replace X5 := hide (X5.out.later hb101)
    replace X28 := hide (X28.out.later hb101)
    replace X44 := hide (X44.out.later hb101)
    replace X55 := hide (X55.out.later hb101)
    replace P98 := hide (P98.out.later hb101)
    replace Y84 := hide (Y84.out.later hb101)
    replace Ox0 := hide (own_below Ox0.out hb101)
    have z103 := hide hb101.size
    replace hB := hide (hB.out.trans (hb101.mono hB.out.size))
    clear hb101
    obtain ⟨w104, hw105⟩ : ∃ wq0, wq0 = w100.alloc (.cells #[.slice az0 R0.length cz0] 30) := ⟨_, rfl⟩
    have hb106 : Below w100.heap.size w100 w104 := by rw [hw105]; exact (Below.refl _ _).alloc (Nat.le_refl _) _
    have e107 : Hid (w104.heap.size = w100.heap.size + 1) := hide (by rw [hw105]; simp)
    have X108 : Hid (CellT 30 w104 w100.heap.size (.slice az0 R0.length cz0)) := hide (by rw [hw105]; exact CellT.new _ _ _)
    replace X5 := hide (X5.out.later hb106)
    replace X28 := hide (X28.out.later hb106)
    replace X44 := hide (X44.out.later hb106)
    replace X55 := hide (X55.out.later hb106)
    replace P98 := hide (P98.out.later hb106)
    replace Y84 := hide (Y84.out.later hb106)
    replace Ox0 := hide (own_below Ox0.out hb106)
    replace Oz0 := hide (own_below Oz0.out hb106)
    have z109 := hide hb106.size
    replace hB := hide (hB.out.trans (hb106.mono hB.out.size))
    clear hb106
    have k113 := X108.out.cell
    rw [hw105] at k113
    have k114 := X28.out.cell
    rw [hw105] at k114
    have E112 := hide (eqRope_own Oz0.out Ox0.out (by omega))
    go_wp2_with fail
    rw [← hw105]
    clear hw105
    refine (E112.out).mono ?_
    rintro e w110 ⟨rfl, hb111⟩
    clear E112 k113 k114
    replace X5 := hide (X5.out.later hb111)
    replace X28 := hide (X28.out.later hb111)
    replace X44 := hide (X44.out.later hb111)
    replace X55 := hide (X55.out.later hb111)
    replace X108 := hide (X108.out.later hb111)
    replace P98 := hide (P98.out.later hb111)
    replace Y84 := hide (Y84.out.later hb111)
    replace Ox0 := hide (own_below Ox0.out hb111)
    replace Oz0 := hide (own_below Oz0.out hb111)
    have z115 := hide hb111.size
    replace hB := hide (hB.out.trans (hb111.mono hB.out.size))
    clear hb111
    have k119 := X55.out.cell
    have D118 := hide (heldRope_of Y84.out (by omega))
    rw [HKM.out] at D118
    go_wp2_with fail
    refine (D118.out).mono ?_
    rintro e w116 ⟨rfl, hb117⟩
    clear D118 k119
    replace X5 := hide (X5.out.later hb117)
    replace X28 := hide (X28.out.later hb117)
    replace X44 := hide (X44.out.later hb117)
    replace X55 := hide (X55.out.later hb117)
    replace X108 := hide (X108.out.later hb117)
    replace P98 := hide (P98.out.later hb117)
    replace Y84 := hide (Y84.out.later hb117)
    replace Ox0 := hide (own_below Ox0.out hb117)
    replace Oz0 := hide (own_below Oz0.out hb117)
    have z120 := hide hb117.size
    replace hB := hide (hB.out.trans (hb117.mono hB.out.size))
    clear hb117
    go_wp2
    go_ret
    exact ⟨rfl, hB.out⟩
  · have hb0 : Below w.heap.size w (w.alloc (.cells #[.slice al ml cl] 24)) := (Below.refl _ _).alloc (Nat.le_refl _) _
    have Z := hide (szRope_from (hal.later hb0) hrl 1048576 (by omega))
    rw [if_neg fsl] at Z
    have HB0 := hide hb0
    clear hb0 hal hrl fsl
    go_enter Tryd.func8, Tryd.ntmps8
    go_wp2_with fail
    refine Z.out.mono ?_
    rintro e z ⟨rfl, hz⟩
    go_wp2
    go_ret
    exact ⟨rfl, HB0.out.trans (hz.mono (by simp))⟩
end Go.Proofs.YtpdngncioblibabDoor
