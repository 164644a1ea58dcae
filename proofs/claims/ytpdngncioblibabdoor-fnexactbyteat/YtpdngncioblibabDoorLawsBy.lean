/- The walks of the exact laws of chapter 12. -/
import Derived.Test.YtpdngncioblibabDoorLawRpA
import Derived.Test.YtpdngncioblibabDoorRptb
set_option linter.unusedVariables false
namespace Go.Proofs.YtpdngncioblibabDoor
open Go.RowKit
open Doc1

set_option maxRecDepth 100000 in
set_option maxHeartbeats 8000000 in
theorem law_byteAt (vl : Value) (l : List Bg) (n : Int) (w : World) (hal : ArgBo w vl l) (hrl : ∀ i (hi : i < l.length), l[i].text.size ≤ 9223372036854775807) (hT : Tab w) :
    Calls Tryd.prog 3 #[.agg #[vl], .int .i64 n] w fun e w' => e = .returned (.bool true) ∧ Below w.heap.size w w' := by
  obtain ⟨al, cl, ml, rfl⟩ := arg_shape hal
  by_cases fsl : szBon l ≤ 1048576
  · skip
    have hll : l.length ≤ 1048576 := by have := fsl; unfold szBon at this; omega
    have htl : ∀ i (hi : i < l.length), l[i].text.size ≤ 1048576 := fun i hi => Nat.le_trans (szBon_txt l i hi) fsl
    have HA := hide hal
    have SZ := hide (fun w' (h : ArgBo w' (.slice al ml cl) l) => szRope_from h hrl 1048576 (by omega))
    rw [if_pos fsl] at SZ
    have TC := hide (fun w' (h : ArgBo w' (.slice al ml cl) l) => toRope_cp h (by omega))
    obtain ⟨K0, hK0⟩ : ∃ K : Nat, 1048576 - szBon l = K := ⟨_, rfl⟩
    rw [hK0] at SZ
    have e00 : decide ((K0 : Int) < 0) = false := by rw [decide_eq_false_iff_not]; omega
    have HTX := hide htl
    clear hal hrl htl hK0 fsl
    have HTb := hide hT
    have hB := hide (Below.refl w.heap.size w)
    clear hT
    have HS := hide (fun w' {g : Option Addr} {c : Nat} (h : RIn w' g c l) => byteAtS n h)
    have HI := hide (fun w' {g : Option Addr} {c : Nat} (h : RIn w' g c l) hT => byteAtI n h hT)
    obtain ⟨R0, hR0⟩ : ∃ R, byS l n = R := ⟨_, rfl⟩
    obtain ⟨R1, hR1⟩ : ∃ R, byN l n = R := ⟨_, rfl⟩
    obtain ⟨R2, hR2⟩ : ∃ R, byOk l n = R := ⟨_, rfl⟩
    simp only [hR0, hR1, hR2] at HS HI
    clear hR0 hR1 hR2
    go_enter Tryd.func3, Tryd.ntmps3
    obtain ⟨w1, hw2⟩ : ∃ wq0, wq0 = w.alloc (.cells #[.slice al ml cl] 24) := ⟨_, rfl⟩
    have hb3 : Below w.heap.size w w1 := by rw [hw2]; exact (Below.refl _ _).alloc (Nat.le_refl _) _
    have e4 : Hid (w1.heap.size = w.heap.size + 1) := hide (by rw [hw2]; simp)
    have X5 : Hid (CellT 24 w1 w.heap.size (.slice al ml cl)) := hide (by rw [hw2]; exact CellT.new _ _ _)
    have z6 := hide hb3.size
    replace hB := hide (hB.out.trans (hb3.mono hB.out.size))
    clear hb3
    have SZ2 := hide (SZ.out w1 (HA.out.later hB.out))
    go_wp2_with fail
    rw [← hw2]
    clear hw2
    refine (SZ2.out).mono ?_
    rintro e w7 ⟨rfl, hb8⟩
    replace X5 := hide (X5.out.later hb8)
    have z9 := hide hb8.size
    replace hB := hide (hB.out.trans (hb8.mono hB.out.size))
    clear hb8
    have T15 := hide (TC.out w7 (HA.out.later hB.out))
    have k16 := X5.out.cell
    go_wp2_with fail
    refine (T15.out).mono ?_
    rintro e w10 ⟨g12, rfl, hg13, C14, hb11⟩
    clear T15 k16
    have I17 : Hid (w7.heap.size ≤ g12 ∧ g12 < w10.heap.size) := hide ⟨hg13, C14.lt⟩
    have P18 := hide C14
    clear C14 hg13
    replace X5 := hide (X5.out.later hb11)
    have z19 := hide hb11.size
    replace hB := hide (hB.out.trans (hb11.mono hB.out.size))
    clear hb11
    have H22 := hide (HS.out w10 ⟨P18.out.inn (by omega), hll, HTX.out⟩)
    go_wp2_with fail
    refine (H22.out).mono ?_
    rintro e w20 ⟨rfl, hb21⟩
    clear H22
    replace X5 := hide (X5.out.later hb21)
    replace P18 := hide (P18.out.later hb21)
    have z23 := hide hb21.size
    replace hB := hide (hB.out.trans (hb21.mono hB.out.size))
    clear hb21
    clear P18
    have T29 := hide (TC.out w20 (HA.out.later hB.out))
    have k30 := X5.out.cell
    go_wp2_with fail
    refine (T29.out).mono ?_
    rintro e w24 ⟨g26, rfl, hg27, C28, hb25⟩
    clear T29 k30
    have I31 : Hid (w20.heap.size ≤ g26 ∧ g26 < w24.heap.size) := hide ⟨hg27, C28.lt⟩
    have P32 := hide C28
    clear C28 hg27
    replace X5 := hide (X5.out.later hb25)
    have z33 := hide hb25.size
    replace hB := hide (hB.out.trans (hb25.mono hB.out.size))
    clear hb25
    obtain ⟨w34, hw35⟩ : ∃ wq0, wq0 = w24.alloc (.cells #[.slice (some ⟨g26, 0, none⟩) l.length l.length] 30) := ⟨_, rfl⟩
    have hb36 : Below w24.heap.size w24 w34 := by rw [hw35]; exact (Below.refl _ _).alloc (Nat.le_refl _) _
    have e37 : Hid (w34.heap.size = w24.heap.size + 1) := hide (by rw [hw35]; simp)
    have X38 : Hid (CellT 30 w34 w24.heap.size (.slice (some ⟨g26, 0, none⟩) l.length l.length)) := hide (by rw [hw35]; exact CellT.new _ _ _)
    replace X5 := hide (X5.out.later hb36)
    replace P32 := hide (P32.out.later hb36)
    have z39 := hide hb36.size
    replace hB := hide (hB.out.trans (hb36.mono hB.out.size))
    clear hb36
    have k40 := X38.out.cell
    rw [hw35] at k40
    have H43 := hide (HI.out w34 ⟨P32.out.inn (by omega), hll, HTX.out⟩ (HTb.out.below hB.out))
    go_wp2_with fail
    rw [← hw35]
    clear hw35
    refine (H43.out).mono ?_
    rintro e w41 ⟨rfl, hb42⟩
    clear H43
    replace X5 := hide (X5.out.later hb42)
    replace X38 := hide (X38.out.later hb42)
    replace P32 := hide (P32.out.later hb42)
    have z44 := hide hb42.size
    replace hB := hide (hB.out.trans (hb42.mono hB.out.size))
    clear hb42
    clear k40
    have KC45 : Hid (∀ w', Below w41.heap.size w41 w' → w'.cell? ⟨w24.heap.size, 0, none⟩ = some (.slice (some ⟨g26, 0, none⟩) l.length l.length) ∧ w'.cell? ⟨w.heap.size, 0, none⟩ = some (.slice al ml cl)) := hide (fun w' hb => ⟨(X38.out.later hb).cell, (X5.out.later hb).cell⟩)
    have CT46 := hide (fun w' (hb : Below w41.heap.size w41 w') => TC.out w' (HA.out.later (hB.out.trans (hb.mono hB.out.size))))
    have CX47 := hide (fun w' (hb : Below w41.heap.size w41 w') => P32.out.later hb)
    go_wp2_with fail
    go_region_held3 (fun w' => w'.cell? ⟨w24.heap.size, 0, none⟩ = some (.slice (some ⟨g26, 0, none⟩) l.length l.length) ∧ w'.cell? ⟨w.heap.size, 0, none⟩ = some (.slice al ml cl))
      (first | assumption | exact KC45.out _ (Below.refl _ _) | exact KC45.out _ (Below.refl _ _).drew | exact KC45.out _ hbq2 | exact KC45.out _ hbq1)
      (first
        | (go_at_call 13; refine (eqRope_cp (CX47.out wq1 hbq1) cpq.out (by omega)).mono ?_; rintro e wq2 ⟨rfl, hq2⟩; have hbq2 : Below w41.heap.size w41 wq2 := hbq1.trans (hq2.mono hbq1.size); clear hq2)
        | (go_at_call 11; refine (CT46.out _ (Below.refl _ _).drew).mono ?_; rintro e wq1 ⟨gq, rfl, hgq, cpq0, hq1⟩; have cpq := hide cpq0; have hbq1 : Below w41.heap.size w41 wq1 := (Below.refl _ _).drew.trans hq1; clear hq1 cpq0))
    clear cpq hbq1 KC45 CT46 CX47 hgq
    replace X5 := hide (X5.out.later hbq2)
    replace X38 := hide (X38.out.later hbq2)
    replace P32 := hide (P32.out.later hbq2)
    have z48 := hide hbq2.size
    replace hB := hide (hB.out.trans (hbq2.mono hB.out.size))
    clear hbq2
    go_wp2
    go_ret
    exact ⟨rfl, hB.out⟩
  · have hb0 : Below w.heap.size w (w.alloc (.cells #[.slice al ml cl] 24)) := (Below.refl _ _).alloc (Nat.le_refl _) _
    have Z := hide (szRope_from (hal.later hb0) hrl 1048576 (by omega))
    rw [if_neg fsl] at Z
    have HB0 := hide hb0
    clear hb0 hal hrl fsl
    go_enter Tryd.func3, Tryd.ntmps3
    go_wp2_with fail
    refine Z.out.mono ?_
    rintro e z ⟨rfl, hz⟩
    go_wp2
    go_ret
    exact ⟨rfl, HB0.out.trans (hz.mono (by simp))⟩
end Go.Proofs.YtpdngncioblibabDoor
