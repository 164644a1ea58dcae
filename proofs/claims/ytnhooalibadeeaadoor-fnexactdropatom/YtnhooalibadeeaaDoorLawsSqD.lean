/- The walk of the exact law of DropAtom. -/
import Derived.Test.YtnhooalibadeeaaDoorSeqLaw
import Derived.Test.YtnhooalibadeeaaDoorSqA4
import Derived.Deep.RegionHeld3
import Derived.Deep.Cut
import Derived.Deep.CutRange
set_option linter.unusedVariables false
namespace Go.Proofs.YtnhooalibadeeaaDoor
open Go.RowKit
open Doc1

set_option maxRecDepth 100000 in
set_option maxHeartbeats 8000000 in
theorem law_dropAtom (vl : Value) (l : List Am) (p : Int) (w : World) (hal : ArgAm w vl l) (hrl : ∀ i (hi : i < l.length), l[i].byte.size ≤ 9223372036854775807) (hT : Tab w) :
    Calls Tryd.prog 8 #[.agg #[vl], .int .i64 p] w fun e w' => e = .returned (.bool true) ∧ Below w.heap.size w w' := by
  obtain ⟨al, cl, ml, rfl⟩ := arg_shape hal
  by_cases fsl : szAmn l ≤ 1048576
  · skip
    have hll : l.length ≤ 1048576 := by have q0 := fsl; unfold szAmn at q0; omega
    have htl : ∀ i (hi : i < l.length), l[i].byte.size ≤ 1048576 := fun i hi => Nat.le_trans (szAmn_txt l i hi) (by omega)
    have HAl := hide hal
    have SZl := hide (fun w' (h : ArgAm w' (.slice al ml cl) l) => szSeq_from h hrl (1048576) (by omega))
    rw [if_pos fsl] at SZl
    have TCl := hide (fun w' (h : ArgAm w' (.slice al ml cl) l) => toSeq_cp h (by omega))
    obtain ⟨Kl, hKl⟩ : ∃ K : Nat, 1048576 - szAmn l = K := ⟨_, rfl⟩
    rw [hKl] at SZl
    have e0l : decide ((Kl : Int) < 0) = false := by rw [decide_eq_false_iff_not]; omega
    have HTXl := hide htl
    clear hal hrl htl hKl fsl
    have HTb := hide hT
    have hB := hide (Below.refl w.heap.size w)
    clear hT
    have HS := hide (fun w' {g : Option Addr} {c : Nat} (h : SIn w' g c l) => dropAtomS h p)
    have HI := hide (fun w' {g : Option Addr} {c : Nat} (h : SIn w' g c l) hT => dropAtomI h hT p)
    obtain ⟨R0, hR0⟩ : ∃ R, drL l p = R := ⟨_, rfl⟩
    obtain ⟨R1, hR1⟩ : ∃ R, drB l p = R := ⟨_, rfl⟩
    simp only [hR0, hR1] at HS HI
    have hlr0 : R0.length ≤ 1000000 := by rw [← hR0]; exact (Nat.le_trans (drL_len l p) (by omega))
    clear hR0 hR1
    go_enter Tryd.func8, Tryd.ntmps8
    obtain ⟨w1, hw2⟩ : ∃ wq0, wq0 = w.alloc (.cells #[.slice al ml cl] 49) := ⟨_, rfl⟩
    have hb3 : Below w.heap.size w w1 := by rw [hw2]; exact (Below.refl _ _).alloc (Nat.le_refl _) _
    have e4 : Hid (w1.heap.size = w.heap.size + 1) := hide (by rw [hw2]; simp)
    have X5 : Hid (CellT 49 w1 w.heap.size (.slice al ml cl)) := hide (by rw [hw2]; exact CellT.new _ _ _)
    have z6 := hide hb3.size
    replace hB := hide (hB.out.trans (hb3.mono hB.out.size))
    clear hb3
    have SZ9 := hide (SZl.out w1 (HAl.out.later hB.out))
    go_wp2_with fail
    rw [← hw2]
    clear hw2
    refine (SZ9.out).mono ?_
    rintro e w7 ⟨rfl, hb8⟩
    clear SZ9
    replace X5 := hide (X5.out.later hb8)
    have z10 := hide hb8.size
    replace hB := hide (hB.out.trans (hb8.mono hB.out.size))
    clear hb8
    have T16 := hide (TCl.out w7 (HAl.out.later hB.out))
    have k17 := X5.out.cell
    go_wp2_with fail
    refine (T16.out).mono ?_
    rintro e w11 ⟨g13, rfl, hg14, C15, hb12⟩
    clear T16 k17
    have I18 : Hid (w7.heap.size ≤ g13 ∧ g13 < w11.heap.size) := hide ⟨hg14, C15.lt⟩
    have P19 := hide C15
    clear C15 hg14
    replace X5 := hide (X5.out.later hb12)
    have z20 := hide hb12.size
    replace hB := hide (hB.out.trans (hb12.mono hB.out.size))
    clear hb12
    have H23 := hide (HS.out w11 ⟨P19.out.inn2 (by omega), hll, HTXl.out⟩)
    go_wp2_with fail
    refine (H23.out).mono ?_
    rintro e w21 ⟨x0, rfl, ox0, hb22⟩
    clear H23
    obtain ⟨ax0, cx0, rfl, -⟩ := own_shp ox0
    have Lx0 : Hid (∀ y, (Value.slice ax0 R0.length cx0).ownBlock = some y → w11.heap.size ≤ y ∧ y < w21.heap.size) := hide (fun y hy => World.ownsRow.lt ox0 y hy)
    have Ox0 := hide ox0
    clear ox0
    replace X5 := hide (X5.out.later hb22)
    replace P19 := hide (P19.out.later hb22)
    have z24 := hide hb22.size
    replace hB := hide (hB.out.trans (hb22.mono hB.out.size))
    clear hb22
    obtain ⟨w25, hw26⟩ : ∃ wq0, wq0 = w21.alloc (.cells #[.slice ax0 R0.length cx0] 25) := ⟨_, rfl⟩
    have hb27 : Below w21.heap.size w21 w25 := by rw [hw26]; exact (Below.refl _ _).alloc (Nat.le_refl _) _
    have e28 : Hid (w25.heap.size = w21.heap.size + 1) := hide (by rw [hw26]; simp)
    have X29 : Hid (CellT 25 w25 w21.heap.size (.slice ax0 R0.length cx0)) := hide (by rw [hw26]; exact CellT.new _ _ _)
    replace X5 := hide (X5.out.later hb27)
    replace P19 := hide (P19.out.later hb27)
    replace Ox0 := hide (own_below Ox0.out hb27)
    have z30 := hide hb27.size
    replace hB := hide (hB.out.trans (hb27.mono hB.out.size))
    clear hb27
    clear P19
    have T36 := hide (TCl.out w25 (HAl.out.later hB.out))
    have k37 := X5.out.cell
    rw [hw26] at k37
    go_wp2_with fail
    rw [← hw26]
    clear hw26
    refine (T36.out).mono ?_
    rintro e w31 ⟨g33, rfl, hg34, C35, hb32⟩
    clear T36 k37
    have I38 : Hid (w25.heap.size ≤ g33 ∧ g33 < w31.heap.size) := hide ⟨hg34, C35.lt⟩
    have P39 := hide C35
    clear C35 hg34
    replace X5 := hide (X5.out.later hb32)
    replace X29 := hide (X29.out.later hb32)
    replace Ox0 := hide (own_below Ox0.out hb32)
    have z40 := hide hb32.size
    replace hB := hide (hB.out.trans (hb32.mono hB.out.size))
    clear hb32
    obtain ⟨w41, hw42⟩ : ∃ wq0, wq0 = w31.alloc (.cells #[.slice (some ⟨g33, 0, none⟩) l.length l.length] 25) := ⟨_, rfl⟩
    have hb43 : Below w31.heap.size w31 w41 := by rw [hw42]; exact (Below.refl _ _).alloc (Nat.le_refl _) _
    have e44 : Hid (w41.heap.size = w31.heap.size + 1) := hide (by rw [hw42]; simp)
    have X45 : Hid (CellT 25 w41 w31.heap.size (.slice (some ⟨g33, 0, none⟩) l.length l.length)) := hide (by rw [hw42]; exact CellT.new _ _ _)
    replace X5 := hide (X5.out.later hb43)
    replace X29 := hide (X29.out.later hb43)
    replace P39 := hide (P39.out.later hb43)
    replace Ox0 := hide (own_below Ox0.out hb43)
    have z46 := hide hb43.size
    replace hB := hide (hB.out.trans (hb43.mono hB.out.size))
    clear hb43
    have k47 := X45.out.cell
    rw [hw42] at k47
    have H50 := hide (HI.out w41 ⟨P39.out.inn2 (by omega), hll, HTXl.out⟩ (HTb.out.below hB.out))
    go_wp2_with fail
    rw [← hw42]
    clear hw42
    refine (H50.out).mono ?_
    rintro e w48 ⟨y0, rfl, oy0, hb49⟩
    clear H50
    obtain ⟨ay0, cy0, rfl, -⟩ := own_shp oy0
    have Ly0 : Hid (∀ y, (Value.slice ay0 R0.length cy0).ownBlock = some y → w41.heap.size ≤ y ∧ y < w48.heap.size) := hide (fun y hy => World.ownsRow.lt oy0 y hy)
    have Oy0 := hide oy0
    clear oy0
    replace X5 := hide (X5.out.later hb49)
    replace X29 := hide (X29.out.later hb49)
    replace X45 := hide (X45.out.later hb49)
    replace P39 := hide (P39.out.later hb49)
    replace Ox0 := hide (own_below Ox0.out hb49)
    have z51 := hide hb49.size
    replace hB := hide (hB.out.trans (hb49.mono hB.out.size))
    clear hb49
    obtain ⟨w52, hw53⟩ : ∃ wq0, wq0 = w48.alloc (.cells #[.slice ay0 R0.length cy0] 25) := ⟨_, rfl⟩
    have hb54 : Below w48.heap.size w48 w52 := by rw [hw53]; exact (Below.refl _ _).alloc (Nat.le_refl _) _
    have e55 : Hid (w52.heap.size = w48.heap.size + 1) := hide (by rw [hw53]; simp)
    have X56 : Hid (CellT 25 w52 w48.heap.size (.slice ay0 R0.length cy0)) := hide (by rw [hw53]; exact CellT.new _ _ _)
    replace X5 := hide (X5.out.later hb54)
    replace X29 := hide (X29.out.later hb54)
    replace X45 := hide (X45.out.later hb54)
    replace P39 := hide (P39.out.later hb54)
    replace Ox0 := hide (own_below Ox0.out hb54)
    replace Oy0 := hide (own_below Oy0.out hb54)
    have z57 := hide hb54.size
    replace hB := hide (hB.out.trans (hb54.mono hB.out.size))
    clear hb54
    clear k47
    have k61 := X56.out.cell
    rw [hw53] at k61
    have k62 := X29.out.cell
    rw [hw53] at k62
    have E60 := hide (eqSeq_own Oy0.out Ox0.out (by omega))
    go_wp2_with fail
    rw [← hw53]
    clear hw53
    refine (E60.out).mono ?_
    rintro e w58 ⟨rfl, hb59⟩
    clear E60 k61 k62
    replace X5 := hide (X5.out.later hb59)
    replace X29 := hide (X29.out.later hb59)
    replace X45 := hide (X45.out.later hb59)
    replace X56 := hide (X56.out.later hb59)
    replace P39 := hide (P39.out.later hb59)
    replace Ox0 := hide (own_below Ox0.out hb59)
    replace Oy0 := hide (own_below Oy0.out hb59)
    have z63 := hide hb59.size
    replace hB := hide (hB.out.trans (hb59.mono hB.out.size))
    clear hb59
    have KC64 : Hid (∀ w', Below w58.heap.size w58 w' → w'.cell? ⟨w31.heap.size, 0, none⟩ = some (.slice (some ⟨g33, 0, none⟩) l.length l.length) ∧ w'.cell? ⟨w.heap.size, 0, none⟩ = some (.slice al ml cl)) := hide (fun w' hb => ⟨(X45.out.later hb).cell, (X5.out.later hb).cell⟩)
    have CT65 := hide (fun w' (hb : Below w58.heap.size w58 w') => TCl.out w' (HAl.out.later (hB.out.trans (hb.mono hB.out.size))))
    have CX66 := hide (fun w' (hb : Below w58.heap.size w58 w') => P39.out.later hb)
    go_wp2_with fail
    go_region_held3 (fun w' => w'.cell? ⟨w31.heap.size, 0, none⟩ = some (.slice (some ⟨g33, 0, none⟩) l.length l.length) ∧ w'.cell? ⟨w.heap.size, 0, none⟩ = some (.slice al ml cl))
      (first | assumption | exact KC64.out _ (Below.refl _ _) | exact KC64.out _ (Below.refl _ _).drew | exact KC64.out _ hbq2 | exact KC64.out _ hbq1)
      (first
        | (go_at_call 28; refine (eqSeq_cp (CX66.out wq1 hbq1) cpq.out (by omega)).mono ?_; rintro e wq2 ⟨rfl, hq2⟩; have hbq2 : Below w58.heap.size w58 wq2 := hbq1.trans (hq2.mono hbq1.size); clear hq2)
        | (go_at_call 26; refine (CT65.out _ (Below.refl _ _).drew).mono ?_; rintro e wq1 ⟨gq, rfl, hgq, cpq0, hq1⟩; have cpq := hide cpq0; have hbq1 : Below w58.heap.size w58 wq1 := (Below.refl _ _).drew.trans hq1; clear hq1 cpq0))
    clear cpq hbq1 KC64 CT65 CX66 hgq
    replace X5 := hide (X5.out.later hbq2)
    replace X29 := hide (X29.out.later hbq2)
    replace X45 := hide (X45.out.later hbq2)
    replace X56 := hide (X56.out.later hbq2)
    replace P39 := hide (P39.out.later hbq2)
    replace Ox0 := hide (own_below Ox0.out hbq2)
    replace Oy0 := hide (own_below Oy0.out hbq2)
    have z67 := hide hbq2.size
    replace hB := hide (hB.out.trans (hbq2.mono hB.out.size))
    clear hbq2
    have k71 := X45.out.cell
    have M70 := hide (markSeq_on P39.out (by omega) 1 (by omega))
    have ek0 : decide (((1 + l.length * 6 : Nat) : Int) < 0) = false := by rw [decide_eq_false_iff_not]; omega
    obtain ⟨KK0, hKK0⟩ : ∃ KK : Nat, 1 + l.length * 6 = KK := ⟨_, rfl⟩
    rw [hKK0] at M70 ek0
    have hKb0 : 0 < KK0 ∧ KK0 ≤ 20000000 := by omega
    clear hKK0
    go_wp2_with fail
    refine (M70.out).mono ?_
    rintro e w68 ⟨rfl, hg69⟩
    clear M70 k71
    clear P39
    replace X5 := hide (X5.out.grown hg69 (fun e => by have u0 := Option.some.inj e; have ui := I38.out; have q0 := z6.out; have q1 := e4.out; have q2 := z10.out; have q3 := z20.out; have q4 := z24.out; have q5 := z30.out; have q6 := e28.out; have q7 := z40.out; have q8 := z46.out; have q9 := e44.out; have q10 := z51.out; have q11 := z57.out; have q12 := e55.out; have q13 := z63.out; have q14 := z67.out; omega))
    replace X29 := hide (X29.out.grown hg69 (fun e => by have u0 := Option.some.inj e; have ui := I38.out; have q0 := z6.out; have q1 := e4.out; have q2 := z10.out; have q3 := z20.out; have q4 := z24.out; have q5 := z30.out; have q6 := e28.out; have q7 := z40.out; have q8 := z46.out; have q9 := e44.out; have q10 := z51.out; have q11 := z57.out; have q12 := e55.out; have q13 := z63.out; have q14 := z67.out; omega))
    replace X45 := hide (X45.out.grown hg69 (fun e => by have u0 := Option.some.inj e; have ui := I38.out; have q0 := z6.out; have q1 := e4.out; have q2 := z10.out; have q3 := z20.out; have q4 := z24.out; have q5 := z30.out; have q6 := e28.out; have q7 := z40.out; have q8 := z46.out; have q9 := e44.out; have q10 := z51.out; have q11 := z57.out; have q12 := e55.out; have q13 := z63.out; have q14 := z67.out; omega))
    replace X56 := hide (X56.out.grown hg69 (fun e => by have u0 := Option.some.inj e; have ui := I38.out; have q0 := z6.out; have q1 := e4.out; have q2 := z10.out; have q3 := z20.out; have q4 := z24.out; have q5 := z30.out; have q6 := e28.out; have q7 := z40.out; have q8 := z46.out; have q9 := e44.out; have q10 := z51.out; have q11 := z57.out; have q12 := e55.out; have q13 := z63.out; have q14 := z67.out; omega))
    replace Ox0 := hide (own_grown Ox0.out hg69 (fun y hy e => by have u0 := Option.some.inj e; have ui := I38.out; have u2 := Lx0.out y hy; have q0 := z6.out; have q1 := e4.out; have q2 := z10.out; have q3 := z20.out; have q4 := z24.out; have q5 := z30.out; have q6 := e28.out; have q7 := z40.out; have q8 := z46.out; have q9 := e44.out; have q10 := z51.out; have q11 := z57.out; have q12 := e55.out; have q13 := z63.out; have q14 := z67.out; omega))
    replace Oy0 := hide (own_grown Oy0.out hg69 (fun y hy e => by have u0 := Option.some.inj e; have ui := I38.out; have u2 := Ly0.out y hy; have q0 := z6.out; have q1 := e4.out; have q2 := z10.out; have q3 := z20.out; have q4 := z24.out; have q5 := z30.out; have q6 := e28.out; have q7 := z40.out; have q8 := z46.out; have q9 := e44.out; have q10 := z51.out; have q11 := z57.out; have q12 := e55.out; have q13 := z63.out; have q14 := z67.out; omega))
    have z72 := hide hg69.size
    replace hB := hide (hB.out.grown hg69 hB.out.size (fun y e => by have u0 := Option.some.inj e; have ui := I38.out; have q0 := z6.out; have q1 := e4.out; have q2 := z10.out; have q3 := z20.out; have q4 := z24.out; have q5 := z30.out; have q6 := e28.out; have q7 := z40.out; have q8 := z46.out; have q9 := e44.out; have q10 := z51.out; have q11 := z57.out; have q12 := e55.out; have q13 := z63.out; have q14 := z67.out; omega))
    clear hg69
    have k76 := X56.out.cell
    have k77 := X29.out.cell
    have E75 := hide (eqSeq_own Oy0.out Ox0.out (by omega))
    go_wp2_with fail
    refine (E75.out).mono ?_
    rintro e w73 ⟨rfl, hb74⟩
    clear E75 k76 k77
    replace X5 := hide (X5.out.later hb74)
    replace X29 := hide (X29.out.later hb74)
    replace X45 := hide (X45.out.later hb74)
    replace X56 := hide (X56.out.later hb74)
    replace Ox0 := hide (own_below Ox0.out hb74)
    replace Oy0 := hide (own_below Oy0.out hb74)
    have z78 := hide hb74.size
    replace hB := hide (hB.out.trans (hb74.mono hB.out.size))
    clear hb74
    have k83 := X56.out.cell
    have M81 := hide (markSeq_own Oy0.out (by omega) 1 (by omega))
    have em0 : decide (((1 + R0.length * 6 : Nat) : Int) < 0) = false := by rw [decide_eq_false_iff_not]; omega
    obtain ⟨KM, hKM⟩ : ∃ KM : Int, ((1 + R0.length * 6 : Nat) : Int) = KM := ⟨_, rfl⟩
    rw [hKM] at em0 M81
    have HKM := hide hKM
    clear hKM
    have em1 : (KM != KM) = false := by simp
    go_wp2_with fail
    refine (M81.out).mono ?_
    rintro e w79 ⟨rfl, hg80, mk82⟩
    clear M81 k83
    clear Oy0
    replace X5 := hide (X5.out.grown hg80 (fun e => by have u0 := Ly0.out _ e; have q0 := z6.out; have q1 := e4.out; have q2 := z10.out; have q3 := z20.out; have q4 := z24.out; have q5 := z30.out; have q6 := e28.out; have q7 := z40.out; have q8 := z46.out; have q9 := e44.out; have q10 := z51.out; have q11 := z57.out; have q12 := e55.out; have q13 := z63.out; have q14 := z67.out; have q15 := z72.out; have q16 := z78.out; omega))
    replace X29 := hide (X29.out.grown hg80 (fun e => by have u0 := Ly0.out _ e; have q0 := z6.out; have q1 := e4.out; have q2 := z10.out; have q3 := z20.out; have q4 := z24.out; have q5 := z30.out; have q6 := e28.out; have q7 := z40.out; have q8 := z46.out; have q9 := e44.out; have q10 := z51.out; have q11 := z57.out; have q12 := e55.out; have q13 := z63.out; have q14 := z67.out; have q15 := z72.out; have q16 := z78.out; omega))
    replace X45 := hide (X45.out.grown hg80 (fun e => by have u0 := Ly0.out _ e; have q0 := z6.out; have q1 := e4.out; have q2 := z10.out; have q3 := z20.out; have q4 := z24.out; have q5 := z30.out; have q6 := e28.out; have q7 := z40.out; have q8 := z46.out; have q9 := e44.out; have q10 := z51.out; have q11 := z57.out; have q12 := e55.out; have q13 := z63.out; have q14 := z67.out; have q15 := z72.out; have q16 := z78.out; omega))
    replace X56 := hide (X56.out.grown hg80 (fun e => by have u0 := Ly0.out _ e; have q0 := z6.out; have q1 := e4.out; have q2 := z10.out; have q3 := z20.out; have q4 := z24.out; have q5 := z30.out; have q6 := e28.out; have q7 := z40.out; have q8 := z46.out; have q9 := e44.out; have q10 := z51.out; have q11 := z57.out; have q12 := e55.out; have q13 := z63.out; have q14 := z67.out; have q15 := z72.out; have q16 := z78.out; omega))
    replace Ox0 := hide (own_grown Ox0.out hg80 (fun y hy e => by have u0 := Ly0.out _ e; have u2 := Lx0.out y hy; have q0 := z6.out; have q1 := e4.out; have q2 := z10.out; have q3 := z20.out; have q4 := z24.out; have q5 := z30.out; have q6 := e28.out; have q7 := z40.out; have q8 := z46.out; have q9 := e44.out; have q10 := z51.out; have q11 := z57.out; have q12 := e55.out; have q13 := z63.out; have q14 := z67.out; have q15 := z72.out; have q16 := z78.out; omega))
    have z84 := hide hg80.size
    replace hB := hide (hB.out.grown hg80 hB.out.size (fun y e => by have u0 := Ly0.out _ e; have q0 := z6.out; have q1 := e4.out; have q2 := z10.out; have q3 := z20.out; have q4 := z24.out; have q5 := z30.out; have q6 := e28.out; have q7 := z40.out; have q8 := z46.out; have q9 := e44.out; have q10 := z51.out; have q11 := z57.out; have q12 := e55.out; have q13 := z63.out; have q14 := z67.out; have q15 := z72.out; have q16 := z78.out; omega))
    clear hg80
    have Y85 := hide mk82
    clear mk82
    have k89 := X56.out.cell
    have D88 := hide (heldSeq_of Y85.out (by omega) (by omega))
    rw [HKM.out] at D88
    go_wp2_with fail
    refine (D88.out).mono ?_
    rintro e w86 ⟨rfl, hb87⟩
    clear D88 k89
    replace X5 := hide (X5.out.later hb87)
    replace X29 := hide (X29.out.later hb87)
    replace X45 := hide (X45.out.later hb87)
    replace X56 := hide (X56.out.later hb87)
    replace Y85 := hide (Y85.out.later hb87)
    replace Ox0 := hide (own_below Ox0.out hb87)
    have z90 := hide hb87.size
    replace hB := hide (hB.out.trans (hb87.mono hB.out.size))
    clear hb87
    have T96 := hide (TCl.out w86 (HAl.out.later hB.out))
    have k97 := X5.out.cell
    go_wp2_with fail
    refine (T96.out).mono ?_
    rintro e w91 ⟨g93, rfl, hg94, C95, hb92⟩
    clear T96 k97
    have I98 : Hid (w86.heap.size ≤ g93 ∧ g93 < w91.heap.size) := hide ⟨hg94, C95.lt⟩
    have P99 := hide C95
    clear C95 hg94
    replace X5 := hide (X5.out.later hb92)
    replace X29 := hide (X29.out.later hb92)
    replace X45 := hide (X45.out.later hb92)
    replace X56 := hide (X56.out.later hb92)
    replace Y85 := hide (Y85.out.later hb92)
    replace Ox0 := hide (own_below Ox0.out hb92)
    have z100 := hide hb92.size
    replace hB := hide (hB.out.trans (hb92.mono hB.out.size))
    clear hb92
    have H103 := hide (HI.out w91 ⟨P99.out.inn2 (by omega), hll, HTXl.out⟩ (HTb.out.below hB.out))
    go_wp2_with fail
    refine (H103.out).mono ?_
    rintro e w101 ⟨z0, rfl, oz0, hb102⟩
    clear H103
    obtain ⟨az0, cz0, rfl, -⟩ := own_shp oz0
    have Lz0 : Hid (∀ y, (Value.slice az0 R0.length cz0).ownBlock = some y → w91.heap.size ≤ y ∧ y < w101.heap.size) := hide (fun y hy => World.ownsRow.lt oz0 y hy)
    have Oz0 := hide oz0
    clear oz0
    replace X5 := hide (X5.out.later hb102)
    replace X29 := hide (X29.out.later hb102)
    replace X45 := hide (X45.out.later hb102)
    replace X56 := hide (X56.out.later hb102)
    replace P99 := hide (P99.out.later hb102)
    replace Y85 := hide (Y85.out.later hb102)
    replace Ox0 := hide (own_below Ox0.out hb102)
    have z104 := hide hb102.size
    replace hB := hide (hB.out.trans (hb102.mono hB.out.size))
    clear hb102
    obtain ⟨w105, hw106⟩ : ∃ wq0, wq0 = w101.alloc (.cells #[.slice az0 R0.length cz0] 25) := ⟨_, rfl⟩
    have hb107 : Below w101.heap.size w101 w105 := by rw [hw106]; exact (Below.refl _ _).alloc (Nat.le_refl _) _
    have e108 : Hid (w105.heap.size = w101.heap.size + 1) := hide (by rw [hw106]; simp)
    have X109 : Hid (CellT 25 w105 w101.heap.size (.slice az0 R0.length cz0)) := hide (by rw [hw106]; exact CellT.new _ _ _)
    replace X5 := hide (X5.out.later hb107)
    replace X29 := hide (X29.out.later hb107)
    replace X45 := hide (X45.out.later hb107)
    replace X56 := hide (X56.out.later hb107)
    replace P99 := hide (P99.out.later hb107)
    replace Y85 := hide (Y85.out.later hb107)
    replace Ox0 := hide (own_below Ox0.out hb107)
    replace Oz0 := hide (own_below Oz0.out hb107)
    have z110 := hide hb107.size
    replace hB := hide (hB.out.trans (hb107.mono hB.out.size))
    clear hb107
    have k114 := X109.out.cell
    rw [hw106] at k114
    have k115 := X29.out.cell
    rw [hw106] at k115
    have E113 := hide (eqSeq_own Oz0.out Ox0.out (by omega))
    go_wp2_with fail
    rw [← hw106]
    clear hw106
    refine (E113.out).mono ?_
    rintro e w111 ⟨rfl, hb112⟩
    clear E113 k114 k115
    replace X5 := hide (X5.out.later hb112)
    replace X29 := hide (X29.out.later hb112)
    replace X45 := hide (X45.out.later hb112)
    replace X56 := hide (X56.out.later hb112)
    replace X109 := hide (X109.out.later hb112)
    replace P99 := hide (P99.out.later hb112)
    replace Y85 := hide (Y85.out.later hb112)
    replace Ox0 := hide (own_below Ox0.out hb112)
    replace Oz0 := hide (own_below Oz0.out hb112)
    have z116 := hide hb112.size
    replace hB := hide (hB.out.trans (hb112.mono hB.out.size))
    clear hb112
    have k120 := X56.out.cell
    have D119 := hide (heldSeq_of Y85.out (by omega) (by omega))
    rw [HKM.out] at D119
    go_wp2_with fail
    refine (D119.out).mono ?_
    rintro e w117 ⟨rfl, hb118⟩
    clear D119 k120
    replace X5 := hide (X5.out.later hb118)
    replace X29 := hide (X29.out.later hb118)
    replace X45 := hide (X45.out.later hb118)
    replace X56 := hide (X56.out.later hb118)
    replace X109 := hide (X109.out.later hb118)
    replace P99 := hide (P99.out.later hb118)
    replace Y85 := hide (Y85.out.later hb118)
    replace Ox0 := hide (own_below Ox0.out hb118)
    replace Oz0 := hide (own_below Oz0.out hb118)
    have z121 := hide hb118.size
    replace hB := hide (hB.out.trans (hb118.mono hB.out.size))
    clear hb118
    go_wp2
    go_ret
    exact ⟨rfl, hB.out⟩
  · have hbz0 : Below w.heap.size w w := Below.refl _ _
    have hbbl : Below w.heap.size w (w.alloc (.cells #[.slice al ml cl] 49)) := hbz0.alloc (Nat.le_refl _) _
    have HB0 := hide hbbl
    have Zl := hide (fun w' (hb : Below w.heap.size w w') => szSeq_from (hal.later hb) hrl (1048576) (by omega))
    rw [if_neg fsl] at Zl
    clear hbz0 hbbl hal hrl fsl
    go_enter Tryd.func8, Tryd.ntmps8
    go_wp2_with fail
    refine (Zl.out _ HB0.out).mono ?_
    rintro e zl ⟨rfl, hzl⟩
    have HZl : Hid (Below w.heap.size w zl) := hide (HB0.out.trans (hzl.mono HB0.out.size))
    clear hzl
    go_wp2
    go_ret
    exact ⟨rfl, HZl.out⟩
end Go.Proofs.YtnhooalibadeeaaDoor
