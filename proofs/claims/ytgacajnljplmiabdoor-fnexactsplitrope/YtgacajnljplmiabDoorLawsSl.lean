/- The law of SplitRope: whatever the rope and the place, it answers true and turns nothing old. -/
import Derived.Test.YtgacajnljplmiabDoorLwRJ
import Derived.Test.YtgacajnljplmiabDoorRptS
import Derived.Test.YtgacajnljplmiabDoorMkBR
import Derived.Deep.RegionHeld3
set_option linter.unusedVariables false
namespace Go.Proofs.YtgacajnljplmiabDoor
open Go.RowKit
open Doc1

theorem spL_len (l : List Bg) (n : Int) : (spL1 l n).length ≤ 1000000 ∧ (spL2 l n).length ≤ 1000000 := by
  unfold spL1 spL2
  by_cases h : spOk l n = true
  · rw [if_pos h, if_pos h]
    have ok := rt_ok l
    unfold spOk at h
    simp only [Bool.and_eq_true, decide_eq_true_eq] at h
    have := splO_ok (rtO l) n.toNat (by omega) ok.2.2 ok.2.1
    rw [bo_len, bo_len]
    omega
  · rw [if_neg h, if_neg h]; simp

set_option maxRecDepth 100000 in
set_option maxHeartbeats 8000000 in
theorem law_splitRope (vl : Value) (l : List Bg) (n : Int) (w : World) (hal : ArgBo w vl l) (hrl : ∀ i (hi : i < l.length), l[i].text.size ≤ 9223372036854775807) (hT : Tab w) :
    Calls Tryd.prog 4 #[.agg #[vl], .int .i64 n] w fun e w' => e = .returned (.bool true) ∧ Below w.heap.size w w' := by
  obtain ⟨al, cl, ml, rfl⟩ := arg_shape hal
  by_cases fsl : szBon l ≤ 1048576
  · skip
    have hll : l.length ≤ 1048576 := by have q0 := fsl; unfold szBon at q0; omega
    have htl : ∀ i (hi : i < l.length), l[i].text.size ≤ 1048576 := fun i hi => Nat.le_trans (szBon_txt l i hi) (by omega)
    have HAl := hide hal
    have SZl := hide (fun w' (h : ArgBo w' (.slice al ml cl) l) => szRope_from h hrl (1048576) (by omega))
    rw [if_pos fsl] at SZl
    have TCl := hide (fun w' (h : ArgBo w' (.slice al ml cl) l) => toRope_cp h (by omega))
    obtain ⟨Kl, hKl⟩ : ∃ K : Nat, 1048576 - szBon l = K := ⟨_, rfl⟩
    rw [hKl] at SZl
    have e0l : decide ((Kl : Int) < 0) = false := by rw [decide_eq_false_iff_not]; omega
    have HTXl := hide htl
    clear hal hrl htl hKl fsl
    have HTb := hide hT
    have hB := hide (Below.refl w.heap.size w)
    clear hT
    have HS := hide (fun w' {g : Option Addr} {c : Nat} (h : RIn w' g c l) => splitRopeS n h)
    have HI := hide (fun w' {g : Option Addr} {c : Nat} (h : RIn w' g c l) hT => splitRopeI n h hT)
    obtain ⟨R0, hR0⟩ : ∃ R, spL1 l n = R := ⟨_, rfl⟩
    obtain ⟨R1, hR1⟩ : ∃ R, spL2 l n = R := ⟨_, rfl⟩
    obtain ⟨R2, hR2⟩ : ∃ R, spOk l n = R := ⟨_, rfl⟩
    simp only [hR0, hR1, hR2] at HS HI
    have hlr0 : R0.length ≤ 1000000 := by rw [← hR0]; exact (spL_len _ _).1
    have hlr1 : R1.length ≤ 1000000 := by rw [← hR1]; exact (spL_len _ _).2
    clear hR0 hR1 hR2
    go_enter Tryd.func4, Tryd.ntmps4
    obtain ⟨w1, hw2⟩ : ∃ wq0, wq0 = w.alloc (.cells #[.slice al ml cl] 37) := ⟨_, rfl⟩
    have hb3 : Below w.heap.size w w1 := by rw [hw2]; exact (Below.refl _ _).alloc (Nat.le_refl _) _
    have e4 : Hid (w1.heap.size = w.heap.size + 1) := hide (by rw [hw2]; simp)
    have X5 : Hid (CellT 37 w1 w.heap.size (.slice al ml cl)) := hide (by rw [hw2]; exact CellT.new _ _ _)
    have z6 := hide hb3.size
    replace hB := hide (hB.out.trans (hb3.mono hB.out.size))
    clear hb3
    have SZ9 := hide (SZl.out w1 (HAl.out.later hB.out))
    go_wp2_with fail
    rw [← hw2]
    clear hw2
    refine (SZ9.out).mono ?_
    rintro e w7 ⟨rfl, hb8⟩
    clear SZ9
    replace X5 := hide (X5.out.later hb8)
    have z10 := hide hb8.size
    replace hB := hide (hB.out.trans (hb8.mono hB.out.size))
    clear hb8
    have T16 := hide (TCl.out w7 (HAl.out.later hB.out))
    have k17 := X5.out.cell
    go_wp2_with fail
    refine (T16.out).mono ?_
    rintro e w11 ⟨g13, rfl, hg14, C15, hb12⟩
    clear T16 k17
    have I18 : Hid (w7.heap.size ≤ g13 ∧ g13 < w11.heap.size) := hide ⟨hg14, C15.lt⟩
    have P19 := hide C15
    clear C15 hg14
    replace X5 := hide (X5.out.later hb12)
    have z20 := hide hb12.size
    replace hB := hide (hB.out.trans (hb12.mono hB.out.size))
    clear hb12
    have H23 := hide (HS.out w11 ⟨P19.out.inn (by omega), hll, HTXl.out⟩)
    go_wp2_with fail
    refine (H23.out).mono ?_
    rintro e w21 ⟨x0, x1, rfl, ox0, ox1, dsx, hb22⟩
    clear H23
    obtain ⟨ax0, cx0, rfl, -⟩ := own_shp ox0
    have Lx0 : Hid (∀ y, (Value.slice ax0 R0.length cx0).ownBlock = some y → w11.heap.size ≤ y ∧ y < w21.heap.size) := hide (fun y hy => World.ownsRow.lt ox0 y hy)
    have Ox0 := hide ox0
    clear ox0
    obtain ⟨ax1, cx1, rfl, -⟩ := own_shp ox1
    have Lx1 : Hid (∀ y, (Value.slice ax1 R1.length cx1).ownBlock = some y → w11.heap.size ≤ y ∧ y < w21.heap.size) := hide (fun y hy => World.ownsRow.lt ox1 y hy)
    have Ox1 := hide ox1
    clear ox1
    have DSx := hide dsx
    clear dsx
    replace X5 := hide (X5.out.later hb22)
    replace P19 := hide (P19.out.later hb22)
    have z24 := hide hb22.size
    replace hB := hide (hB.out.trans (hb22.mono hB.out.size))
    clear hb22
    obtain ⟨w25, hw26⟩ : ∃ wq0, wq0 = w21.alloc (.cells #[.slice ax0 R0.length cx0] 41) := ⟨_, rfl⟩
    have hb27 : Below w21.heap.size w21 w25 := by rw [hw26]; exact (Below.refl _ _).alloc (Nat.le_refl _) _
    have e28 : Hid (w25.heap.size = w21.heap.size + 1) := hide (by rw [hw26]; simp)
    have X29 : Hid (CellT 41 w25 w21.heap.size (.slice ax0 R0.length cx0)) := hide (by rw [hw26]; exact CellT.new _ _ _)
    replace X5 := hide (X5.out.later hb27)
    replace P19 := hide (P19.out.later hb27)
    replace Ox0 := hide (own_below Ox0.out hb27)
    replace Ox1 := hide (own_below Ox1.out hb27)
    have z30 := hide hb27.size
    replace hB := hide (hB.out.trans (hb27.mono hB.out.size))
    clear hb27
    obtain ⟨w31, hw32⟩ : ∃ wq0, wq0 = w25.alloc (.cells #[.slice ax1 R1.length cx1] 41) := ⟨_, rfl⟩
    have hb33 : Below w25.heap.size w25 w31 := by rw [hw32]; exact (Below.refl _ _).alloc (Nat.le_refl _) _
    have e34 : Hid (w31.heap.size = w25.heap.size + 1) := hide (by rw [hw32]; simp)
    have X35 : Hid (CellT 41 w31 (w21.heap.size + 1) (.slice ax1 R1.length cx1)) := hide (by rw [hw32, ← e28.out]; exact CellT.new _ _ _)
    replace X5 := hide (X5.out.later hb33)
    replace X29 := hide (X29.out.later hb33)
    replace P19 := hide (P19.out.later hb33)
    replace Ox0 := hide (own_below Ox0.out hb33)
    replace Ox1 := hide (own_below Ox1.out hb33)
    have z36 := hide hb33.size
    replace hB := hide (hB.out.trans (hb33.mono hB.out.size))
    clear hb33
    clear P19
    have T42 := hide (TCl.out w31 (HAl.out.later hB.out))
    have k43 := X5.out.cell
    rw [hw32] at k43
    rw [hw26] at k43
    go_wp2_with fail
    rw [← hw26]
    clear hw26
    rw [← hw32]
    clear hw32
    refine (T42.out).mono ?_
    rintro e w37 ⟨g39, rfl, hg40, C41, hb38⟩
    clear T42 k43
    have I44 : Hid (w31.heap.size ≤ g39 ∧ g39 < w37.heap.size) := hide ⟨hg40, C41.lt⟩
    have P45 := hide C41
    clear C41 hg40
    replace X5 := hide (X5.out.later hb38)
    replace X29 := hide (X29.out.later hb38)
    replace X35 := hide (X35.out.later hb38)
    replace Ox0 := hide (own_below Ox0.out hb38)
    replace Ox1 := hide (own_below Ox1.out hb38)
    have z46 := hide hb38.size
    replace hB := hide (hB.out.trans (hb38.mono hB.out.size))
    clear hb38
    obtain ⟨w47, hw48⟩ : ∃ wq0, wq0 = w37.alloc (.cells #[.slice (some ⟨g39, 0, none⟩) l.length l.length] 41) := ⟨_, rfl⟩
    have hb49 : Below w37.heap.size w37 w47 := by rw [hw48]; exact (Below.refl _ _).alloc (Nat.le_refl _) _
    have e50 : Hid (w47.heap.size = w37.heap.size + 1) := hide (by rw [hw48]; simp)
    have X51 : Hid (CellT 41 w47 w37.heap.size (.slice (some ⟨g39, 0, none⟩) l.length l.length)) := hide (by rw [hw48]; exact CellT.new _ _ _)
    replace X5 := hide (X5.out.later hb49)
    replace X29 := hide (X29.out.later hb49)
    replace X35 := hide (X35.out.later hb49)
    replace P45 := hide (P45.out.later hb49)
    replace Ox0 := hide (own_below Ox0.out hb49)
    replace Ox1 := hide (own_below Ox1.out hb49)
    have z52 := hide hb49.size
    replace hB := hide (hB.out.trans (hb49.mono hB.out.size))
    clear hb49
    have k53 := X51.out.cell
    rw [hw48] at k53
    have H56 := hide (HI.out w47 ⟨P45.out.inn (by omega), hll, HTXl.out⟩ (HTb.out.below hB.out))
    go_wp2_with fail
    rw [← hw48]
    clear hw48
    refine (H56.out).mono ?_
    rintro e w54 ⟨y0, y1, rfl, oy0, oy1, dsy, hb55⟩
    clear H56
    obtain ⟨ay0, cy0, rfl, -⟩ := own_shp oy0
    have Ly0 : Hid (∀ y, (Value.slice ay0 R0.length cy0).ownBlock = some y → w47.heap.size ≤ y ∧ y < w54.heap.size) := hide (fun y hy => World.ownsRow.lt oy0 y hy)
    have Oy0 := hide oy0
    clear oy0
    obtain ⟨ay1, cy1, rfl, -⟩ := own_shp oy1
    have Ly1 : Hid (∀ y, (Value.slice ay1 R1.length cy1).ownBlock = some y → w47.heap.size ≤ y ∧ y < w54.heap.size) := hide (fun y hy => World.ownsRow.lt oy1 y hy)
    have Oy1 := hide oy1
    clear oy1
    have DSy := hide dsy
    clear dsy
    replace X5 := hide (X5.out.later hb55)
    replace X29 := hide (X29.out.later hb55)
    replace X35 := hide (X35.out.later hb55)
    replace X51 := hide (X51.out.later hb55)
    replace P45 := hide (P45.out.later hb55)
    replace Ox0 := hide (own_below Ox0.out hb55)
    replace Ox1 := hide (own_below Ox1.out hb55)
    have z57 := hide hb55.size
    replace hB := hide (hB.out.trans (hb55.mono hB.out.size))
    clear hb55
    obtain ⟨w58, hw59⟩ : ∃ wq0, wq0 = w54.alloc (.cells #[.slice ay0 R0.length cy0] 41) := ⟨_, rfl⟩
    have hb60 : Below w54.heap.size w54 w58 := by rw [hw59]; exact (Below.refl _ _).alloc (Nat.le_refl _) _
    have e61 : Hid (w58.heap.size = w54.heap.size + 1) := hide (by rw [hw59]; simp)
    have X62 : Hid (CellT 41 w58 w54.heap.size (.slice ay0 R0.length cy0)) := hide (by rw [hw59]; exact CellT.new _ _ _)
    replace X5 := hide (X5.out.later hb60)
    replace X29 := hide (X29.out.later hb60)
    replace X35 := hide (X35.out.later hb60)
    replace X51 := hide (X51.out.later hb60)
    replace P45 := hide (P45.out.later hb60)
    replace Ox0 := hide (own_below Ox0.out hb60)
    replace Ox1 := hide (own_below Ox1.out hb60)
    replace Oy0 := hide (own_below Oy0.out hb60)
    replace Oy1 := hide (own_below Oy1.out hb60)
    have z63 := hide hb60.size
    replace hB := hide (hB.out.trans (hb60.mono hB.out.size))
    clear hb60
    obtain ⟨w64, hw65⟩ : ∃ wq0, wq0 = w58.alloc (.cells #[.slice ay1 R1.length cy1] 41) := ⟨_, rfl⟩
    have hb66 : Below w58.heap.size w58 w64 := by rw [hw65]; exact (Below.refl _ _).alloc (Nat.le_refl _) _
    have e67 : Hid (w64.heap.size = w58.heap.size + 1) := hide (by rw [hw65]; simp)
    have X68 : Hid (CellT 41 w64 (w54.heap.size + 1) (.slice ay1 R1.length cy1)) := hide (by rw [hw65, ← e61.out]; exact CellT.new _ _ _)
    replace X5 := hide (X5.out.later hb66)
    replace X29 := hide (X29.out.later hb66)
    replace X35 := hide (X35.out.later hb66)
    replace X51 := hide (X51.out.later hb66)
    replace X62 := hide (X62.out.later hb66)
    replace P45 := hide (P45.out.later hb66)
    replace Ox0 := hide (own_below Ox0.out hb66)
    replace Ox1 := hide (own_below Ox1.out hb66)
    replace Oy0 := hide (own_below Oy0.out hb66)
    replace Oy1 := hide (own_below Oy1.out hb66)
    have z69 := hide hb66.size
    replace hB := hide (hB.out.trans (hb66.mono hB.out.size))
    clear hb66
    clear k53
    have k73 := X62.out.cell
    rw [hw65] at k73
    rw [hw59] at k73
    have k74 := X29.out.cell
    rw [hw65] at k74
    rw [hw59] at k74
    have E72 := hide (eqRope_own Oy0.out Ox0.out (by omega))
    go_wp2_with fail
    rw [← hw59]
    clear hw59
    rw [← hw65]
    clear hw65
    refine (E72.out).mono ?_
    rintro e w70 ⟨rfl, hb71⟩
    clear E72 k73 k74
    replace X5 := hide (X5.out.later hb71)
    replace X29 := hide (X29.out.later hb71)
    replace X35 := hide (X35.out.later hb71)
    replace X51 := hide (X51.out.later hb71)
    replace X62 := hide (X62.out.later hb71)
    replace X68 := hide (X68.out.later hb71)
    replace P45 := hide (P45.out.later hb71)
    replace Ox0 := hide (own_below Ox0.out hb71)
    replace Ox1 := hide (own_below Ox1.out hb71)
    replace Oy0 := hide (own_below Oy0.out hb71)
    replace Oy1 := hide (own_below Oy1.out hb71)
    have z75 := hide hb71.size
    replace hB := hide (hB.out.trans (hb71.mono hB.out.size))
    clear hb71
    have k79 := X68.out.cell
    have k80 := X35.out.cell
    have E78 := hide (eqRope_own Oy1.out Ox1.out (by omega))
    go_wp2_with fail
    refine (E78.out).mono ?_
    rintro e w76 ⟨rfl, hb77⟩
    clear E78 k79 k80
    replace X5 := hide (X5.out.later hb77)
    replace X29 := hide (X29.out.later hb77)
    replace X35 := hide (X35.out.later hb77)
    replace X51 := hide (X51.out.later hb77)
    replace X62 := hide (X62.out.later hb77)
    replace X68 := hide (X68.out.later hb77)
    replace P45 := hide (P45.out.later hb77)
    replace Ox0 := hide (own_below Ox0.out hb77)
    replace Ox1 := hide (own_below Ox1.out hb77)
    replace Oy0 := hide (own_below Oy0.out hb77)
    replace Oy1 := hide (own_below Oy1.out hb77)
    have z81 := hide hb77.size
    replace hB := hide (hB.out.trans (hb77.mono hB.out.size))
    clear hb77
    have KC82 : Hid (∀ w', Below w76.heap.size w76 w' → w'.cell? ⟨w37.heap.size, 0, none⟩ = some (.slice (some ⟨g39, 0, none⟩) l.length l.length) ∧ w'.cell? ⟨w.heap.size, 0, none⟩ = some (.slice al ml cl)) := hide (fun w' hb => ⟨(X51.out.later hb).cell, (X5.out.later hb).cell⟩)
    have CT83 := hide (fun w' (hb : Below w76.heap.size w76 w') => TCl.out w' (HAl.out.later (hB.out.trans (hb.mono hB.out.size))))
    have CX84 := hide (fun w' (hb : Below w76.heap.size w76 w') => P45.out.later hb)
    go_wp2_with fail
    go_region_held3 (fun w' => w'.cell? ⟨w37.heap.size, 0, none⟩ = some (.slice (some ⟨g39, 0, none⟩) l.length l.length) ∧ w'.cell? ⟨w.heap.size, 0, none⟩ = some (.slice al ml cl))
      (first | assumption | exact KC82.out _ (Below.refl _ _) | exact KC82.out _ (Below.refl _ _).drew | exact KC82.out _ hbq2 | exact KC82.out _ hbq1)
      (first
        | (go_at_call 22; refine (eqRope_cp (CX84.out wq1 hbq1) cpq.out (by omega)).mono ?_; rintro e wq2 ⟨rfl, hq2⟩; have hbq2 : Below w76.heap.size w76 wq2 := hbq1.trans (hq2.mono hbq1.size); clear hq2)
        | (go_at_call 20; refine (CT83.out _ (Below.refl _ _).drew).mono ?_; rintro e wq1 ⟨gq, rfl, hgq, cpq0, hq1⟩; have cpq := hide cpq0; have hbq1 : Below w76.heap.size w76 wq1 := (Below.refl _ _).drew.trans hq1; clear hq1 cpq0))
    clear cpq hbq1 KC82 CT83 CX84 hgq
    replace X5 := hide (X5.out.later hbq2)
    replace X29 := hide (X29.out.later hbq2)
    replace X35 := hide (X35.out.later hbq2)
    replace X51 := hide (X51.out.later hbq2)
    replace X62 := hide (X62.out.later hbq2)
    replace X68 := hide (X68.out.later hbq2)
    replace P45 := hide (P45.out.later hbq2)
    replace Ox0 := hide (own_below Ox0.out hbq2)
    replace Ox1 := hide (own_below Ox1.out hbq2)
    replace Oy0 := hide (own_below Oy0.out hbq2)
    replace Oy1 := hide (own_below Oy1.out hbq2)
    have z85 := hide hbq2.size
    replace hB := hide (hB.out.trans (hbq2.mono hB.out.size))
    clear hbq2
    have k89 := X51.out.cell
    have M88 := hide (markRope_cp P45.out (by omega))
    have ek0 : decide (((1 + l.length * 5 : Nat) : Int) < 0) = false := by rw [decide_eq_false_iff_not]; omega
    obtain ⟨KK0, hKK0⟩ : ∃ KK : Nat, 1 + l.length * 5 = KK := ⟨_, rfl⟩
    rw [hKK0] at M88 ek0
    have hKb0 : 0 < KK0 ∧ KK0 ≤ 20000000 := by omega
    clear hKK0
    go_wp2_with fail
    refine (M88.out).mono ?_
    rintro e w86 ⟨rfl, hg87⟩
    clear M88 k89
    clear P45
    replace X5 := hide (X5.out.grown hg87 (fun e => by have u0 := Option.some.inj e; have ui := I44.out; have q0 := z6.out; have q1 := e4.out; have q2 := z10.out; have q3 := z20.out; have q4 := z24.out; have q5 := z30.out; have q6 := e28.out; have q7 := z36.out; have q8 := e34.out; have q9 := z46.out; have q10 := z52.out; have q11 := e50.out; have q12 := z57.out; have q13 := z63.out; have q14 := e61.out; have q15 := z69.out; have q16 := e67.out; have q17 := z75.out; have q18 := z81.out; have q19 := z85.out; omega))
    replace X29 := hide (X29.out.grown hg87 (fun e => by have u0 := Option.some.inj e; have ui := I44.out; have q0 := z6.out; have q1 := e4.out; have q2 := z10.out; have q3 := z20.out; have q4 := z24.out; have q5 := z30.out; have q6 := e28.out; have q7 := z36.out; have q8 := e34.out; have q9 := z46.out; have q10 := z52.out; have q11 := e50.out; have q12 := z57.out; have q13 := z63.out; have q14 := e61.out; have q15 := z69.out; have q16 := e67.out; have q17 := z75.out; have q18 := z81.out; have q19 := z85.out; omega))
    replace X35 := hide (X35.out.grown hg87 (fun e => by have u0 := Option.some.inj e; have ui := I44.out; have q0 := z6.out; have q1 := e4.out; have q2 := z10.out; have q3 := z20.out; have q4 := z24.out; have q5 := z30.out; have q6 := e28.out; have q7 := z36.out; have q8 := e34.out; have q9 := z46.out; have q10 := z52.out; have q11 := e50.out; have q12 := z57.out; have q13 := z63.out; have q14 := e61.out; have q15 := z69.out; have q16 := e67.out; have q17 := z75.out; have q18 := z81.out; have q19 := z85.out; omega))
    replace X51 := hide (X51.out.grown hg87 (fun e => by have u0 := Option.some.inj e; have ui := I44.out; have q0 := z6.out; have q1 := e4.out; have q2 := z10.out; have q3 := z20.out; have q4 := z24.out; have q5 := z30.out; have q6 := e28.out; have q7 := z36.out; have q8 := e34.out; have q9 := z46.out; have q10 := z52.out; have q11 := e50.out; have q12 := z57.out; have q13 := z63.out; have q14 := e61.out; have q15 := z69.out; have q16 := e67.out; have q17 := z75.out; have q18 := z81.out; have q19 := z85.out; omega))
    replace X62 := hide (X62.out.grown hg87 (fun e => by have u0 := Option.some.inj e; have ui := I44.out; have q0 := z6.out; have q1 := e4.out; have q2 := z10.out; have q3 := z20.out; have q4 := z24.out; have q5 := z30.out; have q6 := e28.out; have q7 := z36.out; have q8 := e34.out; have q9 := z46.out; have q10 := z52.out; have q11 := e50.out; have q12 := z57.out; have q13 := z63.out; have q14 := e61.out; have q15 := z69.out; have q16 := e67.out; have q17 := z75.out; have q18 := z81.out; have q19 := z85.out; omega))
    replace X68 := hide (X68.out.grown hg87 (fun e => by have u0 := Option.some.inj e; have ui := I44.out; have q0 := z6.out; have q1 := e4.out; have q2 := z10.out; have q3 := z20.out; have q4 := z24.out; have q5 := z30.out; have q6 := e28.out; have q7 := z36.out; have q8 := e34.out; have q9 := z46.out; have q10 := z52.out; have q11 := e50.out; have q12 := z57.out; have q13 := z63.out; have q14 := e61.out; have q15 := z69.out; have q16 := e67.out; have q17 := z75.out; have q18 := z81.out; have q19 := z85.out; omega))
    replace Ox0 := hide (own_grown Ox0.out hg87 (fun y hy e => by have u0 := Option.some.inj e; have ui := I44.out; have u2 := Lx0.out y hy; have q0 := z6.out; have q1 := e4.out; have q2 := z10.out; have q3 := z20.out; have q4 := z24.out; have q5 := z30.out; have q6 := e28.out; have q7 := z36.out; have q8 := e34.out; have q9 := z46.out; have q10 := z52.out; have q11 := e50.out; have q12 := z57.out; have q13 := z63.out; have q14 := e61.out; have q15 := z69.out; have q16 := e67.out; have q17 := z75.out; have q18 := z81.out; have q19 := z85.out; omega))
    replace Ox1 := hide (own_grown Ox1.out hg87 (fun y hy e => by have u0 := Option.some.inj e; have ui := I44.out; have u2 := Lx1.out y hy; have q0 := z6.out; have q1 := e4.out; have q2 := z10.out; have q3 := z20.out; have q4 := z24.out; have q5 := z30.out; have q6 := e28.out; have q7 := z36.out; have q8 := e34.out; have q9 := z46.out; have q10 := z52.out; have q11 := e50.out; have q12 := z57.out; have q13 := z63.out; have q14 := e61.out; have q15 := z69.out; have q16 := e67.out; have q17 := z75.out; have q18 := z81.out; have q19 := z85.out; omega))
    replace Oy0 := hide (own_grown Oy0.out hg87 (fun y hy e => by have u0 := Option.some.inj e; have ui := I44.out; have u2 := Ly0.out y hy; have q0 := z6.out; have q1 := e4.out; have q2 := z10.out; have q3 := z20.out; have q4 := z24.out; have q5 := z30.out; have q6 := e28.out; have q7 := z36.out; have q8 := e34.out; have q9 := z46.out; have q10 := z52.out; have q11 := e50.out; have q12 := z57.out; have q13 := z63.out; have q14 := e61.out; have q15 := z69.out; have q16 := e67.out; have q17 := z75.out; have q18 := z81.out; have q19 := z85.out; omega))
    replace Oy1 := hide (own_grown Oy1.out hg87 (fun y hy e => by have u0 := Option.some.inj e; have ui := I44.out; have u2 := Ly1.out y hy; have q0 := z6.out; have q1 := e4.out; have q2 := z10.out; have q3 := z20.out; have q4 := z24.out; have q5 := z30.out; have q6 := e28.out; have q7 := z36.out; have q8 := e34.out; have q9 := z46.out; have q10 := z52.out; have q11 := e50.out; have q12 := z57.out; have q13 := z63.out; have q14 := e61.out; have q15 := z69.out; have q16 := e67.out; have q17 := z75.out; have q18 := z81.out; have q19 := z85.out; omega))
    have z90 := hide hg87.size
    replace hB := hide (hB.out.grown hg87 hB.out.size (fun y e => by have u0 := Option.some.inj e; have ui := I44.out; have q0 := z6.out; have q1 := e4.out; have q2 := z10.out; have q3 := z20.out; have q4 := z24.out; have q5 := z30.out; have q6 := e28.out; have q7 := z36.out; have q8 := e34.out; have q9 := z46.out; have q10 := z52.out; have q11 := e50.out; have q12 := z57.out; have q13 := z63.out; have q14 := e61.out; have q15 := z69.out; have q16 := e67.out; have q17 := z75.out; have q18 := z81.out; have q19 := z85.out; omega))
    clear hg87
    have k94 := X62.out.cell
    have k95 := X29.out.cell
    have E93 := hide (eqRope_own Oy0.out Ox0.out (by omega))
    go_wp2_with fail
    refine (E93.out).mono ?_
    rintro e w91 ⟨rfl, hb92⟩
    clear E93 k94 k95
    replace X5 := hide (X5.out.later hb92)
    replace X29 := hide (X29.out.later hb92)
    replace X35 := hide (X35.out.later hb92)
    replace X51 := hide (X51.out.later hb92)
    replace X62 := hide (X62.out.later hb92)
    replace X68 := hide (X68.out.later hb92)
    replace Ox0 := hide (own_below Ox0.out hb92)
    replace Ox1 := hide (own_below Ox1.out hb92)
    replace Oy0 := hide (own_below Oy0.out hb92)
    replace Oy1 := hide (own_below Oy1.out hb92)
    have z96 := hide hb92.size
    replace hB := hide (hB.out.trans (hb92.mono hB.out.size))
    clear hb92
    have k100 := X68.out.cell
    have k101 := X35.out.cell
    have E99 := hide (eqRope_own Oy1.out Ox1.out (by omega))
    go_wp2_with fail
    refine (E99.out).mono ?_
    rintro e w97 ⟨rfl, hb98⟩
    clear E99 k100 k101
    replace X5 := hide (X5.out.later hb98)
    replace X29 := hide (X29.out.later hb98)
    replace X35 := hide (X35.out.later hb98)
    replace X51 := hide (X51.out.later hb98)
    replace X62 := hide (X62.out.later hb98)
    replace X68 := hide (X68.out.later hb98)
    replace Ox0 := hide (own_below Ox0.out hb98)
    replace Ox1 := hide (own_below Ox1.out hb98)
    replace Oy0 := hide (own_below Oy0.out hb98)
    replace Oy1 := hide (own_below Oy1.out hb98)
    have z102 := hide hb98.size
    replace hB := hide (hB.out.trans (hb98.mono hB.out.size))
    clear hb98
    obtain ⟨K0, hK0⟩ : ∃ K0 : Nat, 1 + R0.length * 5 = K0 := ⟨_, rfl⟩
    have HK0 := hide hK0
    have hK0b : 0 < K0 ∧ K0 ≤ 6000000 := by omega
    clear hK0
    obtain ⟨K1, hK1⟩ : ∃ K1 : Nat, K0 + R1.length * 5 = K1 := ⟨_, rfl⟩
    have HK1 := hide hK1
    have hK1b : K1 ≤ 12000000 := by omega
    clear hK1
    have em0 : decide ((K0 : Int) < 0) = false := by rw [decide_eq_false_iff_not]; omega
    have em2 : decide ((K1 : Int) < 0) = false := by rw [decide_eq_false_iff_not]; omega
    have em1 : ((K1 : Int) != (K1 : Int)) = false := by simp
    have k107 := X62.out.cell
    have M105 := hide (markRope_own Oy0.out (by omega))
    rw [HK0.out] at M105
    go_wp2_with fail
    refine (M105.out).mono ?_
    rintro e w103 ⟨rfl, hg104, mk106⟩
    clear M105 k107
    clear Oy0
    replace Oy1 := hide (own_grown Oy1.out hg104 (fun y hy e => DSy.out y y e hy rfl))
    replace X5 := hide (X5.out.grown hg104 (fun e => by have u0 := Ly0.out _ e; have q0 := z6.out; have q1 := e4.out; have q2 := z10.out; have q3 := z20.out; have q4 := z24.out; have q5 := z30.out; have q6 := e28.out; have q7 := z36.out; have q8 := e34.out; have q9 := z46.out; have q10 := z52.out; have q11 := e50.out; have q12 := z57.out; have q13 := z63.out; have q14 := e61.out; have q15 := z69.out; have q16 := e67.out; have q17 := z75.out; have q18 := z81.out; have q19 := z85.out; have q20 := z90.out; have q21 := z96.out; have q22 := z102.out; omega))
    replace X29 := hide (X29.out.grown hg104 (fun e => by have u0 := Ly0.out _ e; have q0 := z6.out; have q1 := e4.out; have q2 := z10.out; have q3 := z20.out; have q4 := z24.out; have q5 := z30.out; have q6 := e28.out; have q7 := z36.out; have q8 := e34.out; have q9 := z46.out; have q10 := z52.out; have q11 := e50.out; have q12 := z57.out; have q13 := z63.out; have q14 := e61.out; have q15 := z69.out; have q16 := e67.out; have q17 := z75.out; have q18 := z81.out; have q19 := z85.out; have q20 := z90.out; have q21 := z96.out; have q22 := z102.out; omega))
    replace X35 := hide (X35.out.grown hg104 (fun e => by have u0 := Ly0.out _ e; have q0 := z6.out; have q1 := e4.out; have q2 := z10.out; have q3 := z20.out; have q4 := z24.out; have q5 := z30.out; have q6 := e28.out; have q7 := z36.out; have q8 := e34.out; have q9 := z46.out; have q10 := z52.out; have q11 := e50.out; have q12 := z57.out; have q13 := z63.out; have q14 := e61.out; have q15 := z69.out; have q16 := e67.out; have q17 := z75.out; have q18 := z81.out; have q19 := z85.out; have q20 := z90.out; have q21 := z96.out; have q22 := z102.out; omega))
    replace X51 := hide (X51.out.grown hg104 (fun e => by have u0 := Ly0.out _ e; have q0 := z6.out; have q1 := e4.out; have q2 := z10.out; have q3 := z20.out; have q4 := z24.out; have q5 := z30.out; have q6 := e28.out; have q7 := z36.out; have q8 := e34.out; have q9 := z46.out; have q10 := z52.out; have q11 := e50.out; have q12 := z57.out; have q13 := z63.out; have q14 := e61.out; have q15 := z69.out; have q16 := e67.out; have q17 := z75.out; have q18 := z81.out; have q19 := z85.out; have q20 := z90.out; have q21 := z96.out; have q22 := z102.out; omega))
    replace X62 := hide (X62.out.grown hg104 (fun e => by have u0 := Ly0.out _ e; have q0 := z6.out; have q1 := e4.out; have q2 := z10.out; have q3 := z20.out; have q4 := z24.out; have q5 := z30.out; have q6 := e28.out; have q7 := z36.out; have q8 := e34.out; have q9 := z46.out; have q10 := z52.out; have q11 := e50.out; have q12 := z57.out; have q13 := z63.out; have q14 := e61.out; have q15 := z69.out; have q16 := e67.out; have q17 := z75.out; have q18 := z81.out; have q19 := z85.out; have q20 := z90.out; have q21 := z96.out; have q22 := z102.out; omega))
    replace X68 := hide (X68.out.grown hg104 (fun e => by have u0 := Ly0.out _ e; have q0 := z6.out; have q1 := e4.out; have q2 := z10.out; have q3 := z20.out; have q4 := z24.out; have q5 := z30.out; have q6 := e28.out; have q7 := z36.out; have q8 := e34.out; have q9 := z46.out; have q10 := z52.out; have q11 := e50.out; have q12 := z57.out; have q13 := z63.out; have q14 := e61.out; have q15 := z69.out; have q16 := e67.out; have q17 := z75.out; have q18 := z81.out; have q19 := z85.out; have q20 := z90.out; have q21 := z96.out; have q22 := z102.out; omega))
    replace Ox0 := hide (own_grown Ox0.out hg104 (fun y hy e => by have u0 := Ly0.out _ e; have u2 := Lx0.out y hy; have q0 := z6.out; have q1 := e4.out; have q2 := z10.out; have q3 := z20.out; have q4 := z24.out; have q5 := z30.out; have q6 := e28.out; have q7 := z36.out; have q8 := e34.out; have q9 := z46.out; have q10 := z52.out; have q11 := e50.out; have q12 := z57.out; have q13 := z63.out; have q14 := e61.out; have q15 := z69.out; have q16 := e67.out; have q17 := z75.out; have q18 := z81.out; have q19 := z85.out; have q20 := z90.out; have q21 := z96.out; have q22 := z102.out; omega))
    replace Ox1 := hide (own_grown Ox1.out hg104 (fun y hy e => by have u0 := Ly0.out _ e; have u2 := Lx1.out y hy; have q0 := z6.out; have q1 := e4.out; have q2 := z10.out; have q3 := z20.out; have q4 := z24.out; have q5 := z30.out; have q6 := e28.out; have q7 := z36.out; have q8 := e34.out; have q9 := z46.out; have q10 := z52.out; have q11 := e50.out; have q12 := z57.out; have q13 := z63.out; have q14 := e61.out; have q15 := z69.out; have q16 := e67.out; have q17 := z75.out; have q18 := z81.out; have q19 := z85.out; have q20 := z90.out; have q21 := z96.out; have q22 := z102.out; omega))
    have z108 := hide hg104.size
    replace hB := hide (hB.out.grown hg104 hB.out.size (fun y e => by have u0 := Ly0.out _ e; have q0 := z6.out; have q1 := e4.out; have q2 := z10.out; have q3 := z20.out; have q4 := z24.out; have q5 := z30.out; have q6 := e28.out; have q7 := z36.out; have q8 := e34.out; have q9 := z46.out; have q10 := z52.out; have q11 := e50.out; have q12 := z57.out; have q13 := z63.out; have q14 := e61.out; have q15 := z69.out; have q16 := e67.out; have q17 := z75.out; have q18 := z81.out; have q19 := z85.out; have q20 := z90.out; have q21 := z96.out; have q22 := z102.out; omega))
    clear hg104
    have Y109 := hide mk106
    clear mk106
    have k114 := X68.out.cell
    have M112 := hide (markRope_k Oy1.out (by omega) K0 (by omega))
    rw [HK1.out] at M112
    go_wp2_with fail
    refine (M112.out).mono ?_
    rintro e w110 ⟨rfl, hg111, mk113⟩
    clear M112 k114
    clear Oy1
    replace Y109 := hide (Y109.out.grown hg111 (fun y hy e => DSy.out y y hy e rfl))
    replace X5 := hide (X5.out.grown hg111 (fun e => by have u0 := Ly1.out _ e; have q0 := z6.out; have q1 := e4.out; have q2 := z10.out; have q3 := z20.out; have q4 := z24.out; have q5 := z30.out; have q6 := e28.out; have q7 := z36.out; have q8 := e34.out; have q9 := z46.out; have q10 := z52.out; have q11 := e50.out; have q12 := z57.out; have q13 := z63.out; have q14 := e61.out; have q15 := z69.out; have q16 := e67.out; have q17 := z75.out; have q18 := z81.out; have q19 := z85.out; have q20 := z90.out; have q21 := z96.out; have q22 := z102.out; have q23 := z108.out; omega))
    replace X29 := hide (X29.out.grown hg111 (fun e => by have u0 := Ly1.out _ e; have q0 := z6.out; have q1 := e4.out; have q2 := z10.out; have q3 := z20.out; have q4 := z24.out; have q5 := z30.out; have q6 := e28.out; have q7 := z36.out; have q8 := e34.out; have q9 := z46.out; have q10 := z52.out; have q11 := e50.out; have q12 := z57.out; have q13 := z63.out; have q14 := e61.out; have q15 := z69.out; have q16 := e67.out; have q17 := z75.out; have q18 := z81.out; have q19 := z85.out; have q20 := z90.out; have q21 := z96.out; have q22 := z102.out; have q23 := z108.out; omega))
    replace X35 := hide (X35.out.grown hg111 (fun e => by have u0 := Ly1.out _ e; have q0 := z6.out; have q1 := e4.out; have q2 := z10.out; have q3 := z20.out; have q4 := z24.out; have q5 := z30.out; have q6 := e28.out; have q7 := z36.out; have q8 := e34.out; have q9 := z46.out; have q10 := z52.out; have q11 := e50.out; have q12 := z57.out; have q13 := z63.out; have q14 := e61.out; have q15 := z69.out; have q16 := e67.out; have q17 := z75.out; have q18 := z81.out; have q19 := z85.out; have q20 := z90.out; have q21 := z96.out; have q22 := z102.out; have q23 := z108.out; omega))
    replace X51 := hide (X51.out.grown hg111 (fun e => by have u0 := Ly1.out _ e; have q0 := z6.out; have q1 := e4.out; have q2 := z10.out; have q3 := z20.out; have q4 := z24.out; have q5 := z30.out; have q6 := e28.out; have q7 := z36.out; have q8 := e34.out; have q9 := z46.out; have q10 := z52.out; have q11 := e50.out; have q12 := z57.out; have q13 := z63.out; have q14 := e61.out; have q15 := z69.out; have q16 := e67.out; have q17 := z75.out; have q18 := z81.out; have q19 := z85.out; have q20 := z90.out; have q21 := z96.out; have q22 := z102.out; have q23 := z108.out; omega))
    replace X62 := hide (X62.out.grown hg111 (fun e => by have u0 := Ly1.out _ e; have q0 := z6.out; have q1 := e4.out; have q2 := z10.out; have q3 := z20.out; have q4 := z24.out; have q5 := z30.out; have q6 := e28.out; have q7 := z36.out; have q8 := e34.out; have q9 := z46.out; have q10 := z52.out; have q11 := e50.out; have q12 := z57.out; have q13 := z63.out; have q14 := e61.out; have q15 := z69.out; have q16 := e67.out; have q17 := z75.out; have q18 := z81.out; have q19 := z85.out; have q20 := z90.out; have q21 := z96.out; have q22 := z102.out; have q23 := z108.out; omega))
    replace X68 := hide (X68.out.grown hg111 (fun e => by have u0 := Ly1.out _ e; have q0 := z6.out; have q1 := e4.out; have q2 := z10.out; have q3 := z20.out; have q4 := z24.out; have q5 := z30.out; have q6 := e28.out; have q7 := z36.out; have q8 := e34.out; have q9 := z46.out; have q10 := z52.out; have q11 := e50.out; have q12 := z57.out; have q13 := z63.out; have q14 := e61.out; have q15 := z69.out; have q16 := e67.out; have q17 := z75.out; have q18 := z81.out; have q19 := z85.out; have q20 := z90.out; have q21 := z96.out; have q22 := z102.out; have q23 := z108.out; omega))
    replace Ox0 := hide (own_grown Ox0.out hg111 (fun y hy e => by have u0 := Ly1.out _ e; have u2 := Lx0.out y hy; have q0 := z6.out; have q1 := e4.out; have q2 := z10.out; have q3 := z20.out; have q4 := z24.out; have q5 := z30.out; have q6 := e28.out; have q7 := z36.out; have q8 := e34.out; have q9 := z46.out; have q10 := z52.out; have q11 := e50.out; have q12 := z57.out; have q13 := z63.out; have q14 := e61.out; have q15 := z69.out; have q16 := e67.out; have q17 := z75.out; have q18 := z81.out; have q19 := z85.out; have q20 := z90.out; have q21 := z96.out; have q22 := z102.out; have q23 := z108.out; omega))
    replace Ox1 := hide (own_grown Ox1.out hg111 (fun y hy e => by have u0 := Ly1.out _ e; have u2 := Lx1.out y hy; have q0 := z6.out; have q1 := e4.out; have q2 := z10.out; have q3 := z20.out; have q4 := z24.out; have q5 := z30.out; have q6 := e28.out; have q7 := z36.out; have q8 := e34.out; have q9 := z46.out; have q10 := z52.out; have q11 := e50.out; have q12 := z57.out; have q13 := z63.out; have q14 := e61.out; have q15 := z69.out; have q16 := e67.out; have q17 := z75.out; have q18 := z81.out; have q19 := z85.out; have q20 := z90.out; have q21 := z96.out; have q22 := z102.out; have q23 := z108.out; omega))
    have z115 := hide hg111.size
    replace hB := hide (hB.out.grown hg111 hB.out.size (fun y e => by have u0 := Ly1.out _ e; have q0 := z6.out; have q1 := e4.out; have q2 := z10.out; have q3 := z20.out; have q4 := z24.out; have q5 := z30.out; have q6 := e28.out; have q7 := z36.out; have q8 := e34.out; have q9 := z46.out; have q10 := z52.out; have q11 := e50.out; have q12 := z57.out; have q13 := z63.out; have q14 := e61.out; have q15 := z69.out; have q16 := e67.out; have q17 := z75.out; have q18 := z81.out; have q19 := z85.out; have q20 := z90.out; have q21 := z96.out; have q22 := z102.out; have q23 := z108.out; omega))
    clear hg111
    have Y116 := hide mk113
    clear mk113
    have k120 := X62.out.cell
    have D119 := hide (heldRope_of Y109.out (by omega))
    rw [HK0.out] at D119
    go_wp2_with fail
    refine (D119.out).mono ?_
    rintro e w117 ⟨rfl, hb118⟩
    clear D119 k120
    replace X5 := hide (X5.out.later hb118)
    replace X29 := hide (X29.out.later hb118)
    replace X35 := hide (X35.out.later hb118)
    replace X51 := hide (X51.out.later hb118)
    replace X62 := hide (X62.out.later hb118)
    replace X68 := hide (X68.out.later hb118)
    replace Y109 := hide (Y109.out.later hb118)
    replace Y116 := hide (Y116.out.later hb118)
    replace Ox0 := hide (own_below Ox0.out hb118)
    replace Ox1 := hide (own_below Ox1.out hb118)
    have z121 := hide hb118.size
    replace hB := hide (hB.out.trans (hb118.mono hB.out.size))
    clear hb118
    have k125 := X68.out.cell
    have D124 := hide (heldRope_k Y116.out (by omega) (by omega))
    rw [HK1.out] at D124
    go_wp2_with fail
    refine (D124.out).mono ?_
    rintro e w122 ⟨rfl, hb123⟩
    clear D124 k125
    replace X5 := hide (X5.out.later hb123)
    replace X29 := hide (X29.out.later hb123)
    replace X35 := hide (X35.out.later hb123)
    replace X51 := hide (X51.out.later hb123)
    replace X62 := hide (X62.out.later hb123)
    replace X68 := hide (X68.out.later hb123)
    replace Y109 := hide (Y109.out.later hb123)
    replace Y116 := hide (Y116.out.later hb123)
    replace Ox0 := hide (own_below Ox0.out hb123)
    replace Ox1 := hide (own_below Ox1.out hb123)
    have z126 := hide hb123.size
    replace hB := hide (hB.out.trans (hb123.mono hB.out.size))
    clear hb123
    have T132 := hide (TCl.out w122 (HAl.out.later hB.out))
    have k133 := X5.out.cell
    go_wp2_with fail
    refine (T132.out).mono ?_
    rintro e w127 ⟨g129, rfl, hg130, C131, hb128⟩
    clear T132 k133
    have I134 : Hid (w122.heap.size ≤ g129 ∧ g129 < w127.heap.size) := hide ⟨hg130, C131.lt⟩
    have P135 := hide C131
    clear C131 hg130
    replace X5 := hide (X5.out.later hb128)
    replace X29 := hide (X29.out.later hb128)
    replace X35 := hide (X35.out.later hb128)
    replace X51 := hide (X51.out.later hb128)
    replace X62 := hide (X62.out.later hb128)
    replace X68 := hide (X68.out.later hb128)
    replace Y109 := hide (Y109.out.later hb128)
    replace Y116 := hide (Y116.out.later hb128)
    replace Ox0 := hide (own_below Ox0.out hb128)
    replace Ox1 := hide (own_below Ox1.out hb128)
    have z136 := hide hb128.size
    replace hB := hide (hB.out.trans (hb128.mono hB.out.size))
    clear hb128
    have H139 := hide (HI.out w127 ⟨P135.out.inn (by omega), hll, HTXl.out⟩ (HTb.out.below hB.out))
    go_wp2_with fail
    refine (H139.out).mono ?_
    rintro e w137 ⟨z0, z1, rfl, oz0, oz1, dsz, hb138⟩
    clear H139
    obtain ⟨az0, cz0, rfl, -⟩ := own_shp oz0
    have Lz0 : Hid (∀ y, (Value.slice az0 R0.length cz0).ownBlock = some y → w127.heap.size ≤ y ∧ y < w137.heap.size) := hide (fun y hy => World.ownsRow.lt oz0 y hy)
    have Oz0 := hide oz0
    clear oz0
    obtain ⟨az1, cz1, rfl, -⟩ := own_shp oz1
    have Lz1 : Hid (∀ y, (Value.slice az1 R1.length cz1).ownBlock = some y → w127.heap.size ≤ y ∧ y < w137.heap.size) := hide (fun y hy => World.ownsRow.lt oz1 y hy)
    have Oz1 := hide oz1
    clear oz1
    have DSz := hide dsz
    clear dsz
    replace X5 := hide (X5.out.later hb138)
    replace X29 := hide (X29.out.later hb138)
    replace X35 := hide (X35.out.later hb138)
    replace X51 := hide (X51.out.later hb138)
    replace X62 := hide (X62.out.later hb138)
    replace X68 := hide (X68.out.later hb138)
    replace P135 := hide (P135.out.later hb138)
    replace Y109 := hide (Y109.out.later hb138)
    replace Y116 := hide (Y116.out.later hb138)
    replace Ox0 := hide (own_below Ox0.out hb138)
    replace Ox1 := hide (own_below Ox1.out hb138)
    have z140 := hide hb138.size
    replace hB := hide (hB.out.trans (hb138.mono hB.out.size))
    clear hb138
    obtain ⟨w141, hw142⟩ : ∃ wq0, wq0 = w137.alloc (.cells #[.slice az0 R0.length cz0] 41) := ⟨_, rfl⟩
    have hb143 : Below w137.heap.size w137 w141 := by rw [hw142]; exact (Below.refl _ _).alloc (Nat.le_refl _) _
    have e144 : Hid (w141.heap.size = w137.heap.size + 1) := hide (by rw [hw142]; simp)
    have X145 : Hid (CellT 41 w141 w137.heap.size (.slice az0 R0.length cz0)) := hide (by rw [hw142]; exact CellT.new _ _ _)
    replace X5 := hide (X5.out.later hb143)
    replace X29 := hide (X29.out.later hb143)
    replace X35 := hide (X35.out.later hb143)
    replace X51 := hide (X51.out.later hb143)
    replace X62 := hide (X62.out.later hb143)
    replace X68 := hide (X68.out.later hb143)
    replace P135 := hide (P135.out.later hb143)
    replace Y109 := hide (Y109.out.later hb143)
    replace Y116 := hide (Y116.out.later hb143)
    replace Ox0 := hide (own_below Ox0.out hb143)
    replace Ox1 := hide (own_below Ox1.out hb143)
    replace Oz0 := hide (own_below Oz0.out hb143)
    replace Oz1 := hide (own_below Oz1.out hb143)
    have z146 := hide hb143.size
    replace hB := hide (hB.out.trans (hb143.mono hB.out.size))
    clear hb143
    obtain ⟨w147, hw148⟩ : ∃ wq0, wq0 = w141.alloc (.cells #[.slice az1 R1.length cz1] 41) := ⟨_, rfl⟩
    have hb149 : Below w141.heap.size w141 w147 := by rw [hw148]; exact (Below.refl _ _).alloc (Nat.le_refl _) _
    have e150 : Hid (w147.heap.size = w141.heap.size + 1) := hide (by rw [hw148]; simp)
    have X151 : Hid (CellT 41 w147 (w137.heap.size + 1) (.slice az1 R1.length cz1)) := hide (by rw [hw148, ← e144.out]; exact CellT.new _ _ _)
    replace X5 := hide (X5.out.later hb149)
    replace X29 := hide (X29.out.later hb149)
    replace X35 := hide (X35.out.later hb149)
    replace X51 := hide (X51.out.later hb149)
    replace X62 := hide (X62.out.later hb149)
    replace X68 := hide (X68.out.later hb149)
    replace X145 := hide (X145.out.later hb149)
    replace P135 := hide (P135.out.later hb149)
    replace Y109 := hide (Y109.out.later hb149)
    replace Y116 := hide (Y116.out.later hb149)
    replace Ox0 := hide (own_below Ox0.out hb149)
    replace Ox1 := hide (own_below Ox1.out hb149)
    replace Oz0 := hide (own_below Oz0.out hb149)
    replace Oz1 := hide (own_below Oz1.out hb149)
    have z152 := hide hb149.size
    replace hB := hide (hB.out.trans (hb149.mono hB.out.size))
    clear hb149
    have k156 := X145.out.cell
    rw [hw148] at k156
    rw [hw142] at k156
    have k157 := X29.out.cell
    rw [hw148] at k157
    rw [hw142] at k157
    have E155 := hide (eqRope_own Oz0.out Ox0.out (by omega))
    go_wp2_with fail
    rw [← hw142]
    clear hw142
    rw [← hw148]
    clear hw148
    refine (E155.out).mono ?_
    rintro e w153 ⟨rfl, hb154⟩
    clear E155 k156 k157
    replace X5 := hide (X5.out.later hb154)
    replace X29 := hide (X29.out.later hb154)
    replace X35 := hide (X35.out.later hb154)
    replace X51 := hide (X51.out.later hb154)
    replace X62 := hide (X62.out.later hb154)
    replace X68 := hide (X68.out.later hb154)
    replace X145 := hide (X145.out.later hb154)
    replace X151 := hide (X151.out.later hb154)
    replace P135 := hide (P135.out.later hb154)
    replace Y109 := hide (Y109.out.later hb154)
    replace Y116 := hide (Y116.out.later hb154)
    replace Ox0 := hide (own_below Ox0.out hb154)
    replace Ox1 := hide (own_below Ox1.out hb154)
    replace Oz0 := hide (own_below Oz0.out hb154)
    replace Oz1 := hide (own_below Oz1.out hb154)
    have z158 := hide hb154.size
    replace hB := hide (hB.out.trans (hb154.mono hB.out.size))
    clear hb154
    have k162 := X151.out.cell
    have k163 := X35.out.cell
    have E161 := hide (eqRope_own Oz1.out Ox1.out (by omega))
    go_wp2_with fail
    refine (E161.out).mono ?_
    rintro e w159 ⟨rfl, hb160⟩
    clear E161 k162 k163
    replace X5 := hide (X5.out.later hb160)
    replace X29 := hide (X29.out.later hb160)
    replace X35 := hide (X35.out.later hb160)
    replace X51 := hide (X51.out.later hb160)
    replace X62 := hide (X62.out.later hb160)
    replace X68 := hide (X68.out.later hb160)
    replace X145 := hide (X145.out.later hb160)
    replace X151 := hide (X151.out.later hb160)
    replace P135 := hide (P135.out.later hb160)
    replace Y109 := hide (Y109.out.later hb160)
    replace Y116 := hide (Y116.out.later hb160)
    replace Ox0 := hide (own_below Ox0.out hb160)
    replace Ox1 := hide (own_below Ox1.out hb160)
    replace Oz0 := hide (own_below Oz0.out hb160)
    replace Oz1 := hide (own_below Oz1.out hb160)
    have z164 := hide hb160.size
    replace hB := hide (hB.out.trans (hb160.mono hB.out.size))
    clear hb160
    have k168 := X62.out.cell
    have D167 := hide (heldRope_of Y109.out (by omega))
    rw [HK0.out] at D167
    go_wp2_with fail
    refine (D167.out).mono ?_
    rintro e w165 ⟨rfl, hb166⟩
    clear D167 k168
    replace X5 := hide (X5.out.later hb166)
    replace X29 := hide (X29.out.later hb166)
    replace X35 := hide (X35.out.later hb166)
    replace X51 := hide (X51.out.later hb166)
    replace X62 := hide (X62.out.later hb166)
    replace X68 := hide (X68.out.later hb166)
    replace X145 := hide (X145.out.later hb166)
    replace X151 := hide (X151.out.later hb166)
    replace P135 := hide (P135.out.later hb166)
    replace Y109 := hide (Y109.out.later hb166)
    replace Y116 := hide (Y116.out.later hb166)
    replace Ox0 := hide (own_below Ox0.out hb166)
    replace Ox1 := hide (own_below Ox1.out hb166)
    replace Oz0 := hide (own_below Oz0.out hb166)
    replace Oz1 := hide (own_below Oz1.out hb166)
    have z169 := hide hb166.size
    replace hB := hide (hB.out.trans (hb166.mono hB.out.size))
    clear hb166
    have k173 := X68.out.cell
    have D172 := hide (heldRope_k Y116.out (by omega) (by omega))
    rw [HK1.out] at D172
    go_wp2_with fail
    refine (D172.out).mono ?_
    rintro e w170 ⟨rfl, hb171⟩
    clear D172 k173
    replace X5 := hide (X5.out.later hb171)
    replace X29 := hide (X29.out.later hb171)
    replace X35 := hide (X35.out.later hb171)
    replace X51 := hide (X51.out.later hb171)
    replace X62 := hide (X62.out.later hb171)
    replace X68 := hide (X68.out.later hb171)
    replace X145 := hide (X145.out.later hb171)
    replace X151 := hide (X151.out.later hb171)
    replace P135 := hide (P135.out.later hb171)
    replace Y109 := hide (Y109.out.later hb171)
    replace Y116 := hide (Y116.out.later hb171)
    replace Ox0 := hide (own_below Ox0.out hb171)
    replace Ox1 := hide (own_below Ox1.out hb171)
    replace Oz0 := hide (own_below Oz0.out hb171)
    replace Oz1 := hide (own_below Oz1.out hb171)
    have z174 := hide hb171.size
    replace hB := hide (hB.out.trans (hb171.mono hB.out.size))
    clear hb171
    go_wp2
    go_ret
    exact ⟨rfl, hB.out⟩
  · have hbz0 : Below w.heap.size w w := Below.refl _ _
    have hbbl : Below w.heap.size w (w.alloc (.cells #[.slice al ml cl] 37)) := hbz0.alloc (Nat.le_refl _) _
    have HB0 := hide hbbl
    have Zl := hide (fun w' (hb : Below w.heap.size w w') => szRope_from (hal.later hb) hrl (1048576) (by omega))
    rw [if_neg fsl] at Zl
    clear hbz0 hbbl hal hrl fsl
    go_enter Tryd.func4, Tryd.ntmps4
    go_wp2_with fail
    refine (Zl.out _ HB0.out).mono ?_
    rintro e zl ⟨rfl, hzl⟩
    have HZl : Hid (Below w.heap.size w zl) := hide (HB0.out.trans (hzl.mono HB0.out.size))
    clear hzl
    go_wp2
    go_ret
    exact ⟨rfl, HZl.out⟩
end Go.Proofs.YtgacajnljplmiabDoor
