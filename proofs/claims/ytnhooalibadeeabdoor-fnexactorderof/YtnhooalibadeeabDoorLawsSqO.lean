/- The walk of the exact law of OrderOf. -/
import Derived.Test.YtnhooalibadeeabDoorSeqLaw
import Derived.Test.YtnhooalibadeeabDoorSqO4
import Derived.Deep.RegionHeld3
import Derived.Deep.Cut
import Derived.Deep.CutRange
set_option linter.unusedVariables false
namespace Go.Proofs.YtnhooalibadeeabDoor
open Go.RowKit
open Doc1

set_option maxRecDepth 100000 in
set_option maxHeartbeats 8000000 in
theorem law_orderOf (vl : Value) (l : List Am) (w : World) (hal : ArgAm w vl l) (hrl : ∀ i (hi : i < l.length), l[i].byte.size ≤ 9223372036854775807) (hT : Tab w) :
    Calls Tryd.prog 4 #[.agg #[vl]] w fun e w' => e = .returned (.bool true) ∧ Below w.heap.size w w' := by
  obtain ⟨al, cl, ml, rfl⟩ := arg_shape hal
  by_cases fsl : szAmn l ≤ 1048576
  · skip
    have hll : l.length ≤ 1048576 := by have q0 := fsl; unfold szAmn at q0; omega
    have htl : ∀ i (hi : i < l.length), l[i].byte.size ≤ 1048576 := fun i hi => Nat.le_trans (szAmn_txt l i hi) (by omega)
    have HAl := hide hal
    have SZl := hide (fun w' (h : ArgAm w' (.slice al ml cl) l) => szSeq_from h hrl (1048576) (by omega))
    rw [if_pos fsl] at SZl
    have TCl := hide (fun w' (h : ArgAm w' (.slice al ml cl) l) => toSeq_cp h (by omega))
    obtain ⟨Kl, hKl⟩ : ∃ K : Nat, 1048576 - szAmn l = K := ⟨_, rfl⟩
    rw [hKl] at SZl
    have e0l : decide ((Kl : Int) < 0) = false := by rw [decide_eq_false_iff_not]; omega
    have HTXl := hide htl
    clear hal hrl htl hKl fsl
    have HTb := hide hT
    have hB := hide (Below.refl w.heap.size w)
    clear hT
    have HS := hide (fun w' {g : Option Addr} {c : Nat} (h : SIn w' g c l) => orderOfS h)
    have HI := hide (fun w' {g : Option Addr} {c : Nat} (h : SIn w' g c l) hT => orderOfI h hT)
    obtain ⟨R0, hR0⟩ : ∃ R, ordR l = R := ⟨_, rfl⟩
    obtain ⟨R1, hR1⟩ : ∃ R, goodQ l = R := ⟨_, rfl⟩
    simp only [hR0, hR1] at HS HI
    have hlr0 : R0.length ≤ 1000000 := by rw [← hR0]; exact ordR_len l
    clear hR0 hR1
    go_enter Tryd.func4, Tryd.ntmps4
    obtain ⟨w1, hw2⟩ : ∃ wq0, wq0 = w.alloc (.cells #[.slice al ml cl] 24) := ⟨_, rfl⟩
    have hb3 : Below w.heap.size w w1 := by rw [hw2]; exact (Below.refl _ _).alloc (Nat.le_refl _) _
    have e4 : Hid (w1.heap.size = w.heap.size + 1) := hide (by rw [hw2]; simp)
    have X5 : Hid (CellT 24 w1 w.heap.size (.slice al ml cl)) := hide (by rw [hw2]; exact CellT.new _ _ _)
    have z6 := hide hb3.size
    replace hB := hide (hB.out.trans (hb3.mono hB.out.size))
    clear hb3
    have SZ9 := hide (SZl.out w1 (HAl.out.later hB.out))
    go_wp2_with fail
    rw [← hw2]
    clear hw2
    refine (SZ9.out).mono ?_
    rintro e w7 ⟨rfl, hb8⟩
    clear SZ9
    replace X5 := hide (X5.out.later hb8)
    have z10 := hide hb8.size
    replace hB := hide (hB.out.trans (hb8.mono hB.out.size))
    clear hb8
    have T16 := hide (TCl.out w7 (HAl.out.later hB.out))
    have k17 := X5.out.cell
    go_wp2_with fail
    refine (T16.out).mono ?_
    rintro e w11 ⟨g13, rfl, hg14, C15, hb12⟩
    clear T16 k17
    have I18 : Hid (w7.heap.size ≤ g13 ∧ g13 < w11.heap.size) := hide ⟨hg14, C15.lt⟩
    have P19 := hide C15
    clear C15 hg14
    replace X5 := hide (X5.out.later hb12)
    have z20 := hide hb12.size
    replace hB := hide (hB.out.trans (hb12.mono hB.out.size))
    clear hb12
    have H23 := hide (HS.out w11 ⟨P19.out.inn2 (by omega), hll, HTXl.out⟩)
    go_wp2_with fail
    refine (H23.out).mono ?_
    rintro e w21 ⟨x0, rfl, ox0, hb22⟩
    clear H23
    obtain ⟨ax0, cx0, rfl, -⟩ := own_shp ox0
    have Lx0 : Hid (∀ y, (Value.slice ax0 R0.length cx0).ownBlock = some y → w11.heap.size ≤ y ∧ y < w21.heap.size) := hide (fun y hy => World.ownsRow.lt ox0 y hy)
    have Ox0 := hide ox0
    clear ox0
    replace X5 := hide (X5.out.later hb22)
    replace P19 := hide (P19.out.later hb22)
    have z24 := hide hb22.size
    replace hB := hide (hB.out.trans (hb22.mono hB.out.size))
    clear hb22
    clear P19
    have T30 := hide (TCl.out w21 (HAl.out.later hB.out))
    have k31 := X5.out.cell
    go_wp2_with fail
    refine (T30.out).mono ?_
    rintro e w25 ⟨g27, rfl, hg28, C29, hb26⟩
    clear T30 k31
    have I32 : Hid (w21.heap.size ≤ g27 ∧ g27 < w25.heap.size) := hide ⟨hg28, C29.lt⟩
    have P33 := hide C29
    clear C29 hg28
    replace X5 := hide (X5.out.later hb26)
    replace Ox0 := hide (own_below Ox0.out hb26)
    have z34 := hide hb26.size
    replace hB := hide (hB.out.trans (hb26.mono hB.out.size))
    clear hb26
    obtain ⟨w35, hw36⟩ : ∃ wq0, wq0 = w25.alloc (.cells #[.slice (some ⟨g27, 0, none⟩) l.length l.length] 28) := ⟨_, rfl⟩
    have hb37 : Below w25.heap.size w25 w35 := by rw [hw36]; exact (Below.refl _ _).alloc (Nat.le_refl _) _
    have e38 : Hid (w35.heap.size = w25.heap.size + 1) := hide (by rw [hw36]; simp)
    have X39 : Hid (CellT 28 w35 w25.heap.size (.slice (some ⟨g27, 0, none⟩) l.length l.length)) := hide (by rw [hw36]; exact CellT.new _ _ _)
    replace X5 := hide (X5.out.later hb37)
    replace P33 := hide (P33.out.later hb37)
    replace Ox0 := hide (own_below Ox0.out hb37)
    have z40 := hide hb37.size
    replace hB := hide (hB.out.trans (hb37.mono hB.out.size))
    clear hb37
    have k41 := X39.out.cell
    rw [hw36] at k41
    have H44 := hide (HI.out w35 ⟨P33.out.inn2 (by omega), hll, HTXl.out⟩ (HTb.out.below hB.out))
    go_wp2_with fail
    rw [← hw36]
    clear hw36
    refine (H44.out).mono ?_
    rintro e w42 ⟨y0, rfl, oy0, hb43⟩
    clear H44
    obtain ⟨ay0, cy0, rfl, -⟩ := own_shp oy0
    have Ly0 : Hid (∀ y, (Value.slice ay0 R0.length cy0).ownBlock = some y → w35.heap.size ≤ y ∧ y < w42.heap.size) := hide (fun y hy => World.ownsRow.lt oy0 y hy)
    have Oy0 := hide oy0
    clear oy0
    replace X5 := hide (X5.out.later hb43)
    replace X39 := hide (X39.out.later hb43)
    replace P33 := hide (P33.out.later hb43)
    replace Ox0 := hide (own_below Ox0.out hb43)
    have z45 := hide hb43.size
    replace hB := hide (hB.out.trans (hb43.mono hB.out.size))
    clear hb43
    clear k41
    have E48 := hide (eqI_own Oy0.out Ox0.out (by omega))
    go_wp2_with fail
    refine (E48.out).mono ?_
    rintro e w46 ⟨rfl, hb47⟩
    clear E48
    replace X5 := hide (X5.out.later hb47)
    replace X39 := hide (X39.out.later hb47)
    replace P33 := hide (P33.out.later hb47)
    replace Ox0 := hide (own_below Ox0.out hb47)
    replace Oy0 := hide (own_below Oy0.out hb47)
    have z49 := hide hb47.size
    replace hB := hide (hB.out.trans (hb47.mono hB.out.size))
    clear hb47
    have KC50 : Hid (∀ w', Below w46.heap.size w46 w' → w'.cell? ⟨w25.heap.size, 0, none⟩ = some (.slice (some ⟨g27, 0, none⟩) l.length l.length) ∧ w'.cell? ⟨w.heap.size, 0, none⟩ = some (.slice al ml cl)) := hide (fun w' hb => ⟨(X39.out.later hb).cell, (X5.out.later hb).cell⟩)
    have CT51 := hide (fun w' (hb : Below w46.heap.size w46 w') => TCl.out w' (HAl.out.later (hB.out.trans (hb.mono hB.out.size))))
    have CX52 := hide (fun w' (hb : Below w46.heap.size w46 w') => P33.out.later hb)
    go_wp2_with fail
    go_region_held3 (fun w' => w'.cell? ⟨w25.heap.size, 0, none⟩ = some (.slice (some ⟨g27, 0, none⟩) l.length l.length) ∧ w'.cell? ⟨w.heap.size, 0, none⟩ = some (.slice al ml cl))
      (first | assumption | exact KC50.out _ (Below.refl _ _) | exact KC50.out _ (Below.refl _ _).drew | exact KC50.out _ hbq2 | exact KC50.out _ hbq1)
      (first
        | (go_at_call 10; refine (eqSeq_cp (CX52.out wq1 hbq1) cpq.out (by omega)).mono ?_; rintro e wq2 ⟨rfl, hq2⟩; have hbq2 : Below w46.heap.size w46 wq2 := hbq1.trans (hq2.mono hbq1.size); clear hq2)
        | (go_at_call 8; refine (CT51.out _ (Below.refl _ _).drew).mono ?_; rintro e wq1 ⟨gq, rfl, hgq, cpq0, hq1⟩; have cpq := hide cpq0; have hbq1 : Below w46.heap.size w46 wq1 := (Below.refl _ _).drew.trans hq1; clear hq1 cpq0))
    clear cpq hbq1 KC50 CT51 CX52 hgq
    replace X5 := hide (X5.out.later hbq2)
    replace X39 := hide (X39.out.later hbq2)
    replace P33 := hide (P33.out.later hbq2)
    replace Ox0 := hide (own_below Ox0.out hbq2)
    replace Oy0 := hide (own_below Oy0.out hbq2)
    have z53 := hide hbq2.size
    replace hB := hide (hB.out.trans (hbq2.mono hB.out.size))
    clear hbq2
    have k57 := X39.out.cell
    have M56 := hide (markSeq_on P33.out (by omega) 1 (by omega))
    have ek0 : decide (((1 + l.length * 6 : Nat) : Int) < 0) = false := by rw [decide_eq_false_iff_not]; omega
    obtain ⟨KK0, hKK0⟩ : ∃ KK : Nat, 1 + l.length * 6 = KK := ⟨_, rfl⟩
    rw [hKK0] at M56 ek0
    have hKb0 : 0 < KK0 ∧ KK0 ≤ 20000000 := by omega
    clear hKK0
    go_wp2_with fail
    refine (M56.out).mono ?_
    rintro e w54 ⟨rfl, hg55⟩
    clear M56 k57
    clear P33
    replace X5 := hide (X5.out.grown hg55 (fun e => by have u0 := Option.some.inj e; have ui := I32.out; have q0 := z6.out; have q1 := e4.out; have q2 := z10.out; have q3 := z20.out; have q4 := z24.out; have q5 := z34.out; have q6 := z40.out; have q7 := e38.out; have q8 := z45.out; have q9 := z49.out; have q10 := z53.out; omega))
    replace X39 := hide (X39.out.grown hg55 (fun e => by have u0 := Option.some.inj e; have ui := I32.out; have q0 := z6.out; have q1 := e4.out; have q2 := z10.out; have q3 := z20.out; have q4 := z24.out; have q5 := z34.out; have q6 := z40.out; have q7 := e38.out; have q8 := z45.out; have q9 := z49.out; have q10 := z53.out; omega))
    replace Ox0 := hide (own_grown Ox0.out hg55 (fun y hy e => by have u0 := Option.some.inj e; have ui := I32.out; have u2 := Lx0.out y hy; have q0 := z6.out; have q1 := e4.out; have q2 := z10.out; have q3 := z20.out; have q4 := z24.out; have q5 := z34.out; have q6 := z40.out; have q7 := e38.out; have q8 := z45.out; have q9 := z49.out; have q10 := z53.out; omega))
    replace Oy0 := hide (own_grown Oy0.out hg55 (fun y hy e => by have u0 := Option.some.inj e; have ui := I32.out; have u2 := Ly0.out y hy; have q0 := z6.out; have q1 := e4.out; have q2 := z10.out; have q3 := z20.out; have q4 := z24.out; have q5 := z34.out; have q6 := z40.out; have q7 := e38.out; have q8 := z45.out; have q9 := z49.out; have q10 := z53.out; omega))
    have z58 := hide hg55.size
    replace hB := hide (hB.out.grown hg55 hB.out.size (fun y e => by have u0 := Option.some.inj e; have ui := I32.out; have q0 := z6.out; have q1 := e4.out; have q2 := z10.out; have q3 := z20.out; have q4 := z24.out; have q5 := z34.out; have q6 := z40.out; have q7 := e38.out; have q8 := z45.out; have q9 := z49.out; have q10 := z53.out; omega))
    clear hg55
    have E61 := hide (eqI_own Oy0.out Ox0.out (by omega))
    go_wp2_with fail
    refine (E61.out).mono ?_
    rintro e w59 ⟨rfl, hb60⟩
    clear E61
    replace X5 := hide (X5.out.later hb60)
    replace X39 := hide (X39.out.later hb60)
    replace Ox0 := hide (own_below Ox0.out hb60)
    replace Oy0 := hide (own_below Oy0.out hb60)
    have z62 := hide hb60.size
    replace hB := hide (hB.out.trans (hb60.mono hB.out.size))
    clear hb60
    have M65 := hide (markI_own Oy0.out (by omega))
    have em0 : decide (((1 + R0.length : Nat) : Int) < 0) = false := by rw [decide_eq_false_iff_not]; omega
    obtain ⟨KM, hKM⟩ : ∃ KM : Int, ((1 + R0.length : Nat) : Int) = KM := ⟨_, rfl⟩
    rw [hKM] at em0 M65
    have HKM := hide hKM
    clear hKM
    have em1 : (KM != KM) = false := by simp
    go_wp2_with fail
    refine (M65.out).mono ?_
    rintro e w63 ⟨rfl, hg64, mk66⟩
    clear M65
    clear Oy0
    replace X5 := hide (X5.out.grown hg64 (fun e => by have u0 := Ly0.out _ e; have q0 := z6.out; have q1 := e4.out; have q2 := z10.out; have q3 := z20.out; have q4 := z24.out; have q5 := z34.out; have q6 := z40.out; have q7 := e38.out; have q8 := z45.out; have q9 := z49.out; have q10 := z53.out; have q11 := z58.out; have q12 := z62.out; omega))
    replace X39 := hide (X39.out.grown hg64 (fun e => by have u0 := Ly0.out _ e; have q0 := z6.out; have q1 := e4.out; have q2 := z10.out; have q3 := z20.out; have q4 := z24.out; have q5 := z34.out; have q6 := z40.out; have q7 := e38.out; have q8 := z45.out; have q9 := z49.out; have q10 := z53.out; have q11 := z58.out; have q12 := z62.out; omega))
    replace Ox0 := hide (own_grown Ox0.out hg64 (fun y hy e => by have u0 := Ly0.out _ e; have u2 := Lx0.out y hy; have q0 := z6.out; have q1 := e4.out; have q2 := z10.out; have q3 := z20.out; have q4 := z24.out; have q5 := z34.out; have q6 := z40.out; have q7 := e38.out; have q8 := z45.out; have q9 := z49.out; have q10 := z53.out; have q11 := z58.out; have q12 := z62.out; omega))
    have z67 := hide hg64.size
    replace hB := hide (hB.out.grown hg64 hB.out.size (fun y e => by have u0 := Ly0.out _ e; have q0 := z6.out; have q1 := e4.out; have q2 := z10.out; have q3 := z20.out; have q4 := z24.out; have q5 := z34.out; have q6 := z40.out; have q7 := e38.out; have q8 := z45.out; have q9 := z49.out; have q10 := z53.out; have q11 := z58.out; have q12 := z62.out; omega))
    clear hg64
    have Y68 := hide mk66
    clear mk66
    have D71 := hide (heldI_own Y68.out (by omega))
    rw [HKM.out] at D71
    go_wp2_with fail
    refine (D71.out).mono ?_
    rintro e w69 ⟨rfl, hb70⟩
    clear D71
    replace X5 := hide (X5.out.later hb70)
    replace X39 := hide (X39.out.later hb70)
    replace Y68 := hide (Y68.out.later hb70)
    replace Ox0 := hide (own_below Ox0.out hb70)
    have z72 := hide hb70.size
    replace hB := hide (hB.out.trans (hb70.mono hB.out.size))
    clear hb70
    have T78 := hide (TCl.out w69 (HAl.out.later hB.out))
    have k79 := X5.out.cell
    go_wp2_with fail
    refine (T78.out).mono ?_
    rintro e w73 ⟨g75, rfl, hg76, C77, hb74⟩
    clear T78 k79
    have I80 : Hid (w69.heap.size ≤ g75 ∧ g75 < w73.heap.size) := hide ⟨hg76, C77.lt⟩
    have P81 := hide C77
    clear C77 hg76
    replace X5 := hide (X5.out.later hb74)
    replace X39 := hide (X39.out.later hb74)
    replace Y68 := hide (Y68.out.later hb74)
    replace Ox0 := hide (own_below Ox0.out hb74)
    have z82 := hide hb74.size
    replace hB := hide (hB.out.trans (hb74.mono hB.out.size))
    clear hb74
    have H85 := hide (HI.out w73 ⟨P81.out.inn2 (by omega), hll, HTXl.out⟩ (HTb.out.below hB.out))
    go_wp2_with fail
    refine (H85.out).mono ?_
    rintro e w83 ⟨z0, rfl, oz0, hb84⟩
    clear H85
    obtain ⟨az0, cz0, rfl, -⟩ := own_shp oz0
    have Lz0 : Hid (∀ y, (Value.slice az0 R0.length cz0).ownBlock = some y → w73.heap.size ≤ y ∧ y < w83.heap.size) := hide (fun y hy => World.ownsRow.lt oz0 y hy)
    have Oz0 := hide oz0
    clear oz0
    replace X5 := hide (X5.out.later hb84)
    replace X39 := hide (X39.out.later hb84)
    replace P81 := hide (P81.out.later hb84)
    replace Y68 := hide (Y68.out.later hb84)
    replace Ox0 := hide (own_below Ox0.out hb84)
    have z86 := hide hb84.size
    replace hB := hide (hB.out.trans (hb84.mono hB.out.size))
    clear hb84
    have E89 := hide (eqI_own Oz0.out Ox0.out (by omega))
    go_wp2_with fail
    refine (E89.out).mono ?_
    rintro e w87 ⟨rfl, hb88⟩
    clear E89
    replace X5 := hide (X5.out.later hb88)
    replace X39 := hide (X39.out.later hb88)
    replace P81 := hide (P81.out.later hb88)
    replace Y68 := hide (Y68.out.later hb88)
    replace Ox0 := hide (own_below Ox0.out hb88)
    replace Oz0 := hide (own_below Oz0.out hb88)
    have z90 := hide hb88.size
    replace hB := hide (hB.out.trans (hb88.mono hB.out.size))
    clear hb88
    have D93 := hide (heldI_own Y68.out (by omega))
    rw [HKM.out] at D93
    go_wp2_with fail
    refine (D93.out).mono ?_
    rintro e w91 ⟨rfl, hb92⟩
    clear D93
    replace X5 := hide (X5.out.later hb92)
    replace X39 := hide (X39.out.later hb92)
    replace P81 := hide (P81.out.later hb92)
    replace Y68 := hide (Y68.out.later hb92)
    replace Ox0 := hide (own_below Ox0.out hb92)
    replace Oz0 := hide (own_below Oz0.out hb92)
    have z94 := hide hb92.size
    replace hB := hide (hB.out.trans (hb92.mono hB.out.size))
    clear hb92
    go_wp2
    go_ret
    exact ⟨rfl, hB.out⟩
  · have hbz0 : Below w.heap.size w w := Below.refl _ _
    have hbbl : Below w.heap.size w (w.alloc (.cells #[.slice al ml cl] 24)) := hbz0.alloc (Nat.le_refl _) _
    have HB0 := hide hbbl
    have Zl := hide (fun w' (hb : Below w.heap.size w w') => szSeq_from (hal.later hb) hrl (1048576) (by omega))
    rw [if_neg fsl] at Zl
    clear hbz0 hbbl hal hrl fsl
    go_enter Tryd.func4, Tryd.ntmps4
    go_wp2_with fail
    refine (Zl.out _ HB0.out).mono ?_
    rintro e zl ⟨rfl, hzl⟩
    have HZl : Hid (Below w.heap.size w zl) := hide (HB0.out.trans (hzl.mono HB0.out.size))
    clear hzl
    go_wp2
    go_ret
    exact ⟨rfl, HZl.out⟩
end Go.Proofs.YtnhooalibadeeabDoor
