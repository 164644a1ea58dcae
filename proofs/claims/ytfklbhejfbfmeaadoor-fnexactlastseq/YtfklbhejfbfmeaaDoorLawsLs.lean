/- The walk of the exact law of LastSeq. -/
import Derived.Test.YtfklbhejfbfmeaaDoorSrv4
import Derived.Deep.RegionHeld3
set_option linter.unusedVariables false
namespace Go.Proofs.YtfklbhejfbfmeaaDoor
open Go.RowKit
open Doc1

set_option maxRecDepth 100000 in
set_option maxHeartbeats 8000000 in
theorem law_lastSeq (sq tq : ByteArray) (vq : Value) (lq : List En) (k : Int) (w : World) (haq : ArgE w vq lq) (hssq : sq.size ≤ 9223372036854775807) (httq : tq.size ≤ 9223372036854775807) (hslq : ∀ i (hi : i < lq.length), ThinP lq[i].op) (hwk : -9223372036854775808 ≤ k ∧ k ≤ 9223372036854775807) (hT : Tab w) :
    Calls Tryd.prog 7 #[.agg #[.string sq, .string tq, vq], .int .i64 k] w fun e w' => e = .returned (.bool true) ∧ Below w.heap.size w w' := by
  obtain ⟨aq, cq, rfl⟩ := argE_shp haq
  by_cases fsq : szSn sq tq lq ≤ 1048576
  · skip
    have hclq : szEn lq ≤ 1048576 := by have q0 := fsq; unfold szSn at q0; omega
    have hcsq : sq.size ≤ 1048576 := by have q0 := fsq; unfold szSn at q0; omega
    have hctq : tq.size ≤ 1048576 := by have q0 := fsq; unfold szSn at q0; omega
    have SZq := hide (fun w' (hb : Below w.heap.size w w') => szS_from (haq.later hb) hssq httq hslq 1048576 (by omega))
    simp only [if_pos fsq] at SZq
    have TCq := hide (fun w' (hb : Below w.heap.size w w') => toSX (s := sq) (t := tq) (haq.later hb) hclq)
    have BUq := hide (bdE_of hclq)
    have MUq := mkNE_sz lq
    have HTb := hide hT
    have hB := hide (Below.refl w.heap.size w)
    clear hT
    have HS := hide (fun w' {lo hi : Nat} {v : Value} (h : SX lo hi w' v lq) (hT : Tab w') => lastSqS (s := sq) (t := tq) k h.choose_spec.1 (smE_of hclq) hcsq)
    have HI := hide (fun w' {lo hi : Nat} {v : Value} (h : SX lo hi w' v lq) (hT : Tab w') => lastSqI (s := sq) (t := tq) k h.choose_spec.1 (smE_of hclq) hcsq hT)
    obtain ⟨R0, hR0⟩ : ∃ R, lsN sq tq lq k = R := ⟨_, rfl⟩
    obtain ⟨R1, hR1⟩ : ∃ R, lsB sq tq lq k = R := ⟨_, rfl⟩
    simp only [hR0, hR1] at HS HI
    clear hR0 hR1
    obtain ⟨Kq, hKq⟩ : ∃ K : Nat, 1048576 - szSn sq tq lq = K := ⟨_, rfl⟩
    rw [hKq] at SZq
    have e0q : decide ((Kq : Int) < 0) = false := by rw [decide_eq_false_iff_not]; omega
    have HMUq : Hid (mkNE lq ≤ 10000000) := hide (by omega)
    clear haq hssq httq hslq hclq hcsq hctq MUq hKq fsq
    go_enter Tryd.func7, Tryd.ntmps7
    obtain ⟨w1, hw2⟩ : ∃ wq0, wq0 = w.alloc (.cells #[.string sq, .string tq, .slice aq lq.length cq] 32) := ⟨_, rfl⟩
    have hb3 : Below w.heap.size w w1 := by rw [hw2]; exact (Below.refl _ _).alloc (Nat.le_refl _) _
    have e4 : Hid (w1.heap.size = w.heap.size + 1) := hide (by rw [hw2]; simp)
    have X5 : Hid (CB w1 w.heap.size #[.string sq, .string tq, .slice aq lq.length cq]) := hide (by rw [hw2]; exact CB.new _ _ _)
    have z6 := hide hb3.size
    replace hB := hide (hB.out.trans (hb3.mono hB.out.size))
    clear hb3
    have SZ9 := hide (SZq.out w1 hB.out)
    go_wp2_with fail
    rw [← hw2]
    clear hw2
    refine (SZ9.out).mono ?_
    rintro e w7 ⟨rfl, hb8⟩
    clear SZ9
    replace X5 := hide (X5.out.later hb8)
    have z10 := hide hb8.size
    replace hB := hide (hB.out.trans (hb8.mono hB.out.size))
    clear hb8
    have T15 := hide (TCq.out w7 hB.out)
    have k16 : w7.cell? ⟨w.heap.size, 0, none⟩ = some (.string sq) := X5.out.cell 0 rfl
    have k17 : w7.cell? ⟨w.heap.size, 1, none⟩ = some (.string tq) := X5.out.cell 1 rfl
    have k18 : w7.cell? ⟨w.heap.size, 2, none⟩ = some (.slice aq lq.length cq) := X5.out.cell 2 rfl
    go_wp2_with fail
    refine (T15.out).mono ?_
    rintro e w11 ⟨xu13, rfl, hx14, hb12⟩
    clear T15 k16 k17 k18
    obtain ⟨axu13, cxu13, rfl⟩ := hx14.shp
    have P19 := hide hx14
    clear hx14
    replace X5 := hide (X5.out.later hb12)
    have z20 := hide hb12.size
    replace hB := hide (hB.out.trans (hb12.mono hB.out.size))
    clear hb12
    have H23 := hide (HS.out w11 P19.out (HTb.out.below hB.out))
    go_wp2_with fail
    refine (H23.out).mono ?_
    rintro e w21 ⟨rfl, hb22⟩
    clear H23
    replace X5 := hide (X5.out.later hb22)
    replace P19 := hide (P19.out.later hb22)
    have z24 := hide hb22.size
    replace hB := hide (hB.out.trans (hb22.mono hB.out.size))
    clear hb22
    clear P19
    have T29 := hide (TCq.out w21 hB.out)
    have k30 : w21.cell? ⟨w.heap.size, 0, none⟩ = some (.string sq) := X5.out.cell 0 rfl
    have k31 : w21.cell? ⟨w.heap.size, 1, none⟩ = some (.string tq) := X5.out.cell 1 rfl
    have k32 : w21.cell? ⟨w.heap.size, 2, none⟩ = some (.slice aq lq.length cq) := X5.out.cell 2 rfl
    go_wp2_with fail
    refine (T29.out).mono ?_
    rintro e w25 ⟨xu27, rfl, hx28, hb26⟩
    clear T29 k30 k31 k32
    obtain ⟨axu27, cxu27, rfl⟩ := hx28.shp
    have P33 := hide hx28
    clear hx28
    replace X5 := hide (X5.out.later hb26)
    have z34 := hide hb26.size
    replace hB := hide (hB.out.trans (hb26.mono hB.out.size))
    clear hb26
    obtain ⟨w35, hw36⟩ : ∃ wq0, wq0 = w25.alloc (.cells #[.string sq, .string tq, .slice axu27 lq.length cxu27] 24) := ⟨_, rfl⟩
    have hb37 : Below w25.heap.size w25 w35 := by rw [hw36]; exact (Below.refl _ _).alloc (Nat.le_refl _) _
    have e38 : Hid (w35.heap.size = w25.heap.size + 1) := hide (by rw [hw36]; simp)
    have X39 : Hid (CB w35 w25.heap.size #[.string sq, .string tq, .slice axu27 lq.length cxu27]) := hide (by rw [hw36]; exact CB.new _ _ _)
    replace X5 := hide (X5.out.later hb37)
    replace P33 := hide (P33.out.later hb37)
    have z40 := hide hb37.size
    replace hB := hide (hB.out.trans (hb37.mono hB.out.size))
    clear hb37
    have k41 : w35.cell? ⟨w25.heap.size, 0, none⟩ = some (.string sq) := X39.out.cell 0 rfl
    rw [hw36] at k41
    have k42 : w35.cell? ⟨w25.heap.size, 1, none⟩ = some (.string tq) := X39.out.cell 1 rfl
    rw [hw36] at k42
    have k43 : w35.cell? ⟨w25.heap.size, 2, none⟩ = some (.slice axu27 lq.length cxu27) := X39.out.cell 2 rfl
    rw [hw36] at k43
    have H46 := hide (HI.out w35 P33.out (HTb.out.below hB.out))
    go_wp2_with fail
    rw [← hw36]
    clear hw36
    refine (H46.out).mono ?_
    rintro e w44 ⟨rfl, hb45⟩
    clear H46
    replace X5 := hide (X5.out.later hb45)
    replace X39 := hide (X39.out.later hb45)
    replace P33 := hide (P33.out.later hb45)
    have z47 := hide hb45.size
    replace hB := hide (hB.out.trans (hb45.mono hB.out.size))
    clear hb45
    clear k41 k42 k43
    have KC48 : Hid (∀ w', Below w44.heap.size w44 w' → w'.cell? ⟨w25.heap.size, 0, none⟩ = some (.string sq) ∧ w'.cell? ⟨w25.heap.size, 1, none⟩ = some (.string tq) ∧ w'.cell? ⟨w25.heap.size, 2, none⟩ = some (.slice axu27 lq.length cxu27) ∧ w'.cell? ⟨w.heap.size, 0, none⟩ = some (.string sq) ∧ w'.cell? ⟨w.heap.size, 1, none⟩ = some (.string tq) ∧ w'.cell? ⟨w.heap.size, 2, none⟩ = some (.slice aq lq.length cq)) := hide (fun w' hb => ⟨(X39.out.later hb).cell 0 rfl, (X39.out.later hb).cell 1 rfl, (X39.out.later hb).cell 2 rfl, (X5.out.later hb).cell 0 rfl, (X5.out.later hb).cell 1 rfl, (X5.out.later hb).cell 2 rfl⟩)
    have CT49 := hide (fun w' (hb : Below w44.heap.size w44 w') => TCq.out w' (hB.out.trans (hb.mono hB.out.size)))
    have CX50 := hide (fun w' (hb : Below w44.heap.size w44 w') => P33.out.later hb)
    go_wp2_with fail
    go_region_held3 (fun w' => w'.cell? ⟨w25.heap.size, 0, none⟩ = some (.string sq) ∧ w'.cell? ⟨w25.heap.size, 1, none⟩ = some (.string tq) ∧ w'.cell? ⟨w25.heap.size, 2, none⟩ = some (.slice axu27 lq.length cxu27) ∧ w'.cell? ⟨w.heap.size, 0, none⟩ = some (.string sq) ∧ w'.cell? ⟨w.heap.size, 1, none⟩ = some (.string tq) ∧ w'.cell? ⟨w.heap.size, 2, none⟩ = some (.slice aq lq.length cq))
      (first | assumption | exact KC48.out _ (Below.refl _ _) | exact KC48.out _ (Below.refl _ _).drew | exact KC48.out _ hbq2 | exact KC48.out _ hbq1)
      (first
        | (go_at_call 11; refine (eqSX (s := sq) (t := tq) (CX50.out wq1 hbq1) cpq.out BUq.out).mono ?_; rintro e wq2 ⟨rfl, hq2⟩; have hbq2 : Below w44.heap.size w44 wq2 := hbq1.trans (hq2.mono hbq1.size); clear hq2)
        | (go_at_call 16; refine (CT49.out _ (Below.refl _ _).drew).mono ?_; rintro e wq1 ⟨xuq, rfl, cpq0, hq1⟩; obtain ⟨axuq, cxuq, rfl⟩ := cpq0.shp; have cpq := hide cpq0; have hbq1 : Below w44.heap.size w44 wq1 := (Below.refl _ _).drew.trans hq1; clear hq1 cpq0))
    clear cpq hbq1 KC48 CT49 CX50
    replace X5 := hide (X5.out.later hbq2)
    replace X39 := hide (X39.out.later hbq2)
    replace P33 := hide (P33.out.later hbq2)
    have z51 := hide hbq2.size
    replace hB := hide (hB.out.trans (hbq2.mono hB.out.size))
    clear hbq2
    go_wp2
    go_ret
    exact ⟨rfl, hB.out⟩
  · skip
    have Zq := hide (fun w' (hb : Below w.heap.size w w') => szS_from (haq.later hb) hssq httq hslq 1048576 (by omega))
    simp only [if_neg fsq] at Zq
    have HB0 : Hid (Below w.heap.size w (w.alloc (.cells #[.string sq, .string tq, .slice aq lq.length cq] 32))) := hide ((Below.refl _ _).alloc (Nat.le_refl _) _)
    clear haq hssq httq hslq fsq
    go_enter Tryd.func7, Tryd.ntmps7
    go_wp2_with fail
    refine (Zq.out _ HB0.out).mono ?_
    rintro e zq ⟨rfl, hzq⟩
    have HZq : Hid (Below w.heap.size w zq) := hide (HB0.out.trans (hzq.mono HB0.out.size))
    clear hzq
    go_wp2
    go_ret
    exact ⟨rfl, HZq.out⟩
end Go.Proofs.YtfklbhejfbfmeaaDoor
