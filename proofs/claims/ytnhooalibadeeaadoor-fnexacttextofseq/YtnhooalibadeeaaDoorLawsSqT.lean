/- The walk of the exact law of TextOfSeq. -/
import Derived.Test.YtnhooalibadeeaaDoorSeqLaw
import Derived.Test.YtnhooalibadeeaaDoorSqT3
import Derived.Deep.RegionHeld3
import Derived.Deep.Cut
import Derived.Deep.CutRange
set_option linter.unusedVariables false
namespace Go.Proofs.YtnhooalibadeeaaDoor
open Go.RowKit
open Doc1

set_option maxRecDepth 100000 in
set_option maxHeartbeats 8000000 in
theorem law_textOfSeq (vl : Value) (l : List Am) (w : World) (hal : ArgAm w vl l) (hrl : ∀ i (hi : i < l.length), l[i].byte.size ≤ 9223372036854775807) (hT : Tab w) :
    Calls Tryd.prog 6 #[.agg #[vl]] w fun e w' => e = .returned (.bool true) ∧ Below w.heap.size w w' := by
  obtain ⟨al, cl, ml, rfl⟩ := arg_shape hal
  by_cases fsl : szAmn l ≤ 1048576
  · skip
    have hll : l.length ≤ 1048576 := by have q0 := fsl; unfold szAmn at q0; omega
    have htl : ∀ i (hi : i < l.length), l[i].byte.size ≤ 1048576 := fun i hi => Nat.le_trans (szAmn_txt l i hi) (by omega)
    have HAl := hide hal
    have SZl := hide (fun w' (h : ArgAm w' (.slice al ml cl) l) => szSeq_from h hrl (1048576) (by omega))
    rw [if_pos fsl] at SZl
    have TCl := hide (fun w' (h : ArgAm w' (.slice al ml cl) l) => toSeq_cp h (by omega))
    obtain ⟨Kl, hKl⟩ : ∃ K : Nat, 1048576 - szAmn l = K := ⟨_, rfl⟩
    rw [hKl] at SZl
    have e0l : decide ((Kl : Int) < 0) = false := by rw [decide_eq_false_iff_not]; omega
    have HTXl := hide htl
    clear hal hrl htl hKl fsl
    have HTb := hide hT
    have hB := hide (Below.refl w.heap.size w)
    clear hT
    have HS := hide (fun w' {g : Option Addr} {c : Nat} (h : SIn w' g c l) => textOfSeqS h)
    have HI := hide (fun w' {g : Option Addr} {c : Nat} (h : SIn w' g c l) hT => textOfSeqI h hT)
    obtain ⟨R0, hR0⟩ : ∃ R, tsR l = R := ⟨_, rfl⟩
    obtain ⟨R1, hR1⟩ : ∃ R, goodQ l = R := ⟨_, rfl⟩
    simp only [hR0, hR1] at HS HI
    clear hR0 hR1
    go_enter Tryd.func6, Tryd.ntmps6
    obtain ⟨w1, hw2⟩ : ∃ wq0, wq0 = w.alloc (.cells #[.slice al ml cl] 49) := ⟨_, rfl⟩
    have hb3 : Below w.heap.size w w1 := by rw [hw2]; exact (Below.refl _ _).alloc (Nat.le_refl _) _
    have e4 : Hid (w1.heap.size = w.heap.size + 1) := hide (by rw [hw2]; simp)
    have X5 : Hid (CellT 49 w1 w.heap.size (.slice al ml cl)) := hide (by rw [hw2]; exact CellT.new _ _ _)
    have z6 := hide hb3.size
    replace hB := hide (hB.out.trans (hb3.mono hB.out.size))
    clear hb3
    have SZ9 := hide (SZl.out w1 (HAl.out.later hB.out))
    go_wp2_with fail
    rw [← hw2]
    clear hw2
    refine (SZ9.out).mono ?_
    rintro e w7 ⟨rfl, hb8⟩
    clear SZ9
    replace X5 := hide (X5.out.later hb8)
    have z10 := hide hb8.size
    replace hB := hide (hB.out.trans (hb8.mono hB.out.size))
    clear hb8
    have T16 := hide (TCl.out w7 (HAl.out.later hB.out))
    have k17 := X5.out.cell
    go_wp2_with fail
    refine (T16.out).mono ?_
    rintro e w11 ⟨g13, rfl, hg14, C15, hb12⟩
    clear T16 k17
    have I18 : Hid (w7.heap.size ≤ g13 ∧ g13 < w11.heap.size) := hide ⟨hg14, C15.lt⟩
    have P19 := hide C15
    clear C15 hg14
    replace X5 := hide (X5.out.later hb12)
    have z20 := hide hb12.size
    replace hB := hide (hB.out.trans (hb12.mono hB.out.size))
    clear hb12
    have H23 := hide (HS.out w11 ⟨P19.out.inn2 (by omega), hll, HTXl.out⟩)
    go_wp2_with fail
    refine (H23.out).mono ?_
    rintro e w21 ⟨rfl, hb22⟩
    clear H23
    replace X5 := hide (X5.out.later hb22)
    replace P19 := hide (P19.out.later hb22)
    have z24 := hide hb22.size
    replace hB := hide (hB.out.trans (hb22.mono hB.out.size))
    clear hb22
    clear P19
    have T30 := hide (TCl.out w21 (HAl.out.later hB.out))
    have k31 := X5.out.cell
    go_wp2_with fail
    refine (T30.out).mono ?_
    rintro e w25 ⟨g27, rfl, hg28, C29, hb26⟩
    clear T30 k31
    have I32 : Hid (w21.heap.size ≤ g27 ∧ g27 < w25.heap.size) := hide ⟨hg28, C29.lt⟩
    have P33 := hide C29
    clear C29 hg28
    replace X5 := hide (X5.out.later hb26)
    have z34 := hide hb26.size
    replace hB := hide (hB.out.trans (hb26.mono hB.out.size))
    clear hb26
    obtain ⟨w35, hw36⟩ : ∃ wq0, wq0 = w25.alloc (.cells #[.slice (some ⟨g27, 0, none⟩) l.length l.length] 25) := ⟨_, rfl⟩
    have hb37 : Below w25.heap.size w25 w35 := by rw [hw36]; exact (Below.refl _ _).alloc (Nat.le_refl _) _
    have e38 : Hid (w35.heap.size = w25.heap.size + 1) := hide (by rw [hw36]; simp)
    have X39 : Hid (CellT 25 w35 w25.heap.size (.slice (some ⟨g27, 0, none⟩) l.length l.length)) := hide (by rw [hw36]; exact CellT.new _ _ _)
    replace X5 := hide (X5.out.later hb37)
    replace P33 := hide (P33.out.later hb37)
    have z40 := hide hb37.size
    replace hB := hide (hB.out.trans (hb37.mono hB.out.size))
    clear hb37
    have k41 := X39.out.cell
    rw [hw36] at k41
    have H44 := hide (HI.out w35 ⟨P33.out.inn2 (by omega), hll, HTXl.out⟩ (HTb.out.below hB.out))
    go_wp2_with fail
    rw [← hw36]
    clear hw36
    refine (H44.out).mono ?_
    rintro e w42 ⟨rfl, hb43⟩
    clear H44
    replace X5 := hide (X5.out.later hb43)
    replace X39 := hide (X39.out.later hb43)
    replace P33 := hide (P33.out.later hb43)
    have z45 := hide hb43.size
    replace hB := hide (hB.out.trans (hb43.mono hB.out.size))
    clear hb43
    clear k41
    have KC46 : Hid (∀ w', Below w42.heap.size w42 w' → w'.cell? ⟨w25.heap.size, 0, none⟩ = some (.slice (some ⟨g27, 0, none⟩) l.length l.length) ∧ w'.cell? ⟨w.heap.size, 0, none⟩ = some (.slice al ml cl)) := hide (fun w' hb => ⟨(X39.out.later hb).cell, (X5.out.later hb).cell⟩)
    have CT47 := hide (fun w' (hb : Below w42.heap.size w42 w') => TCl.out w' (HAl.out.later (hB.out.trans (hb.mono hB.out.size))))
    have CX48 := hide (fun w' (hb : Below w42.heap.size w42 w') => P33.out.later hb)
    go_wp2_with fail
    go_region_held3 (fun w' => w'.cell? ⟨w25.heap.size, 0, none⟩ = some (.slice (some ⟨g27, 0, none⟩) l.length l.length) ∧ w'.cell? ⟨w.heap.size, 0, none⟩ = some (.slice al ml cl))
      (first | assumption | exact KC46.out _ (Below.refl _ _) | exact KC46.out _ (Below.refl _ _).drew | exact KC46.out _ hbq2 | exact KC46.out _ hbq1)
      (first
        | (go_at_call 28; refine (eqSeq_cp (CX48.out wq1 hbq1) cpq.out (by omega)).mono ?_; rintro e wq2 ⟨rfl, hq2⟩; have hbq2 : Below w42.heap.size w42 wq2 := hbq1.trans (hq2.mono hbq1.size); clear hq2)
        | (go_at_call 26; refine (CT47.out _ (Below.refl _ _).drew).mono ?_; rintro e wq1 ⟨gq, rfl, hgq, cpq0, hq1⟩; have cpq := hide cpq0; have hbq1 : Below w42.heap.size w42 wq1 := (Below.refl _ _).drew.trans hq1; clear hq1 cpq0))
    clear cpq hbq1 KC46 CT47 CX48 hgq
    replace X5 := hide (X5.out.later hbq2)
    replace X39 := hide (X39.out.later hbq2)
    replace P33 := hide (P33.out.later hbq2)
    have z49 := hide hbq2.size
    replace hB := hide (hB.out.trans (hbq2.mono hB.out.size))
    clear hbq2
    go_wp2
    go_ret
    exact ⟨rfl, hB.out⟩
  · have hbz0 : Below w.heap.size w w := Below.refl _ _
    have hbbl : Below w.heap.size w (w.alloc (.cells #[.slice al ml cl] 49)) := hbz0.alloc (Nat.le_refl _) _
    have HB0 := hide hbbl
    have Zl := hide (fun w' (hb : Below w.heap.size w w') => szSeq_from (hal.later hb) hrl (1048576) (by omega))
    rw [if_neg fsl] at Zl
    clear hbz0 hbbl hal hrl fsl
    go_enter Tryd.func6, Tryd.ntmps6
    go_wp2_with fail
    refine (Zl.out _ HB0.out).mono ?_
    rintro e zl ⟨rfl, hzl⟩
    have HZl : Hid (Below w.heap.size w zl) := hide (HB0.out.trans (hzl.mono HB0.out.size))
    clear hzl
    go_wp2
    go_ret
    exact ⟨rfl, HZl.out⟩
end Go.Proofs.YtnhooalibadeeaaDoor
