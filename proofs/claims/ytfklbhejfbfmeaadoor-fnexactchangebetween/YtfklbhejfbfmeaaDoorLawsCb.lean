/- The walk of the exact law of ChangeBetween. -/
import Derived.Test.YtfklbhejfbfmeaaDoorSrv7
import Derived.Deep.RegionHeld3
set_option linter.unusedVariables false
namespace Go.Proofs.YtfklbhejfbfmeaaDoor
open Go.RowKit
open Doc1

theorem cbL_len {s t : ByteArray} {l : List En} {f e : Int} : (cbL s t l f e).length ≤ 60 := by
  unfold cbL cbO
  by_cases hc : cbC s t l f e = true
  · rw [if_pos hc]
    unfold cbC at hc
    simp only [Bool.and_eq_true, decide_eq_true_eq] at hc
    have G := gsv_of hc.1
    have hsz := good_sz (tx_good G.st f.toNat (fun i hi => G.fit i (by omega)))
    cases hq : cbF s l f.toNat (e.toNat - f.toNat) with
    | none => simp
    | some o => exact (goodO_le (cb_good hsz _ _ hq)).1
  · rw [if_neg hc]; simp

set_option maxRecDepth 100000 in
set_option maxHeartbeats 8000000 in
theorem law_changeBetween (sq tq : ByteArray) (vq : Value) (lq : List En) (k : Int) (m : Int) (w : World) (haq : ArgE w vq lq) (hssq : sq.size ≤ 9223372036854775807) (httq : tq.size ≤ 9223372036854775807) (hslq : ∀ i (hi : i < lq.length), ThinP lq[i].op) (hwk : -9223372036854775808 ≤ k ∧ k ≤ 9223372036854775807) (hwm : -9223372036854775808 ≤ m ∧ m ≤ 9223372036854775807) (hT : Tab w) :
    Calls Tryd.prog 8 #[.agg #[.string sq, .string tq, vq], .int .i64 k, .int .i64 m] w fun e w' => e = .returned (.bool true) ∧ Below w.heap.size w w' := by
  obtain ⟨aq, cq, rfl⟩ := argE_shp haq
  by_cases fsq : szSn sq tq lq ≤ 1048576
  · skip
    have hclq : szEn lq ≤ 1048576 := by have q0 := fsq; unfold szSn at q0; omega
    have hcsq : sq.size ≤ 1048576 := by have q0 := fsq; unfold szSn at q0; omega
    have hctq : tq.size ≤ 1048576 := by have q0 := fsq; unfold szSn at q0; omega
    have SZq := hide (fun w' (hb : Below w.heap.size w w') => szS_from (haq.later hb) hssq httq hslq 1048576 (by omega))
    simp only [if_pos fsq] at SZq
    have TCq := hide (fun w' (hb : Below w.heap.size w w') => toSX (s := sq) (t := tq) (haq.later hb) hclq)
    have BUq := hide (bdE_of hclq)
    have MUq := mkNE_sz lq
    have HTb := hide hT
    have hB := hide (Below.refl w.heap.size w)
    clear hT
    have HS := hide (fun w' {lo hi : Nat} {v : Value} (h : SX lo hi w' v lq) (hT : Tab w') => betweenS (s := sq) (t := tq) k m h.choose_spec.1 (smE_of hclq) hcsq hT)
    have HI := hide (fun w' {lo hi : Nat} {v : Value} (h : SX lo hi w' v lq) (hT : Tab w') => betweenI (s := sq) (t := tq) k m h.choose_spec.1 (smE_of hclq) hcsq hT)
    obtain ⟨R0, hR0⟩ : ∃ R, cbL sq tq lq k m = R := ⟨_, rfl⟩
    obtain ⟨R1, hR1⟩ : ∃ R, cbB sq tq lq k m = R := ⟨_, rfl⟩
    simp only [hR0, hR1] at HS HI
    have BQ : Hid (R0.length ≤ 10000000) := hide (by rw [← hR0]; exact (by have := cbL_len (s := sq) (t := tq) (l := lq) (f := k) (e := m); omega))
    have hKb : R0.length * 3 ≤ 100000000 := by rw [← hR0]; exact (by have := cbL_len (s := sq) (t := tq) (l := lq) (f := k) (e := m); omega)
    clear hR0 hR1
    obtain ⟨Kq, hKq⟩ : ∃ K : Nat, 1048576 - szSn sq tq lq = K := ⟨_, rfl⟩
    rw [hKq] at SZq
    have e0q : decide ((Kq : Int) < 0) = false := by rw [decide_eq_false_iff_not]; omega
    have HMUq : Hid (mkNE lq ≤ 10000000) := hide (by omega)
    clear haq hssq httq hslq hclq hcsq hctq MUq hKq fsq
    go_enter Tryd.func8, Tryd.ntmps8
    obtain ⟨w1, hw2⟩ : ∃ wq0, wq0 = w.alloc (.cells #[.string sq, .string tq, .slice aq lq.length cq] 32) := ⟨_, rfl⟩
    have hb3 : Below w.heap.size w w1 := by rw [hw2]; exact (Below.refl _ _).alloc (Nat.le_refl _) _
    have e4 : Hid (w1.heap.size = w.heap.size + 1) := hide (by rw [hw2]; simp)
    have X5 : Hid (CB w1 w.heap.size #[.string sq, .string tq, .slice aq lq.length cq]) := hide (by rw [hw2]; exact CB.new _ _ _)
    have z6 := hide hb3.size
    replace hB := hide (hB.out.trans (hb3.mono hB.out.size))
    clear hb3
    have SZ9 := hide (SZq.out w1 hB.out)
    go_wp2_with fail
    rw [← hw2]
    clear hw2
    refine (SZ9.out).mono ?_
    rintro e w7 ⟨rfl, hb8⟩
    clear SZ9
    replace X5 := hide (X5.out.later hb8)
    have z10 := hide hb8.size
    replace hB := hide (hB.out.trans (hb8.mono hB.out.size))
    clear hb8
    have T15 := hide (TCq.out w7 hB.out)
    have k16 : w7.cell? ⟨w.heap.size, 0, none⟩ = some (.string sq) := X5.out.cell 0 rfl
    have k17 : w7.cell? ⟨w.heap.size, 1, none⟩ = some (.string tq) := X5.out.cell 1 rfl
    have k18 : w7.cell? ⟨w.heap.size, 2, none⟩ = some (.slice aq lq.length cq) := X5.out.cell 2 rfl
    go_wp2_with fail
    refine (T15.out).mono ?_
    rintro e w11 ⟨xu13, rfl, hx14, hb12⟩
    clear T15 k16 k17 k18
    obtain ⟨axu13, cxu13, rfl⟩ := hx14.shp
    have P19 := hide hx14
    clear hx14
    replace X5 := hide (X5.out.later hb12)
    have z20 := hide hb12.size
    replace hB := hide (hB.out.trans (hb12.mono hB.out.size))
    clear hb12
    have H23 := hide (HS.out w11 P19.out (HTb.out.below hB.out))
    go_wp2_with fail
    refine (H23.out).mono ?_
    rintro e w21 ⟨xux, rfl, hx24, hb22⟩
    clear H23
    obtain ⟨axux, cxux, rfl⟩ := hx24.shp
    have P25 := hide hx24
    clear hx24
    replace X5 := hide (X5.out.later hb22)
    replace P19 := hide (P19.out.later hb22)
    have z26 := hide hb22.size
    replace hB := hide (hB.out.trans (hb22.mono hB.out.size))
    clear hb22
    clear P19
    have T31 := hide (TCq.out w21 hB.out)
    have k32 : w21.cell? ⟨w.heap.size, 0, none⟩ = some (.string sq) := X5.out.cell 0 rfl
    have k33 : w21.cell? ⟨w.heap.size, 1, none⟩ = some (.string tq) := X5.out.cell 1 rfl
    have k34 : w21.cell? ⟨w.heap.size, 2, none⟩ = some (.slice aq lq.length cq) := X5.out.cell 2 rfl
    go_wp2_with fail
    refine (T31.out).mono ?_
    rintro e w27 ⟨xu29, rfl, hx30, hb28⟩
    clear T31 k32 k33 k34
    obtain ⟨axu29, cxu29, rfl⟩ := hx30.shp
    have P35 := hide hx30
    clear hx30
    replace X5 := hide (X5.out.later hb28)
    replace P25 := hide (P25.out.later hb28)
    have z36 := hide hb28.size
    replace hB := hide (hB.out.trans (hb28.mono hB.out.size))
    clear hb28
    obtain ⟨w37, hw38⟩ : ∃ wq0, wq0 = w27.alloc (.cells #[.string sq, .string tq, .slice axu29 lq.length cxu29] 24) := ⟨_, rfl⟩
    have hb39 : Below w27.heap.size w27 w37 := by rw [hw38]; exact (Below.refl _ _).alloc (Nat.le_refl _) _
    have e40 : Hid (w37.heap.size = w27.heap.size + 1) := hide (by rw [hw38]; simp)
    have X41 : Hid (CB w37 w27.heap.size #[.string sq, .string tq, .slice axu29 lq.length cxu29]) := hide (by rw [hw38]; exact CB.new _ _ _)
    replace X5 := hide (X5.out.later hb39)
    replace P25 := hide (P25.out.later hb39)
    replace P35 := hide (P35.out.later hb39)
    have z42 := hide hb39.size
    replace hB := hide (hB.out.trans (hb39.mono hB.out.size))
    clear hb39
    have k43 : w37.cell? ⟨w27.heap.size, 0, none⟩ = some (.string sq) := X41.out.cell 0 rfl
    rw [hw38] at k43
    have k44 : w37.cell? ⟨w27.heap.size, 1, none⟩ = some (.string tq) := X41.out.cell 1 rfl
    rw [hw38] at k44
    have k45 : w37.cell? ⟨w27.heap.size, 2, none⟩ = some (.slice axu29 lq.length cxu29) := X41.out.cell 2 rfl
    rw [hw38] at k45
    have H48 := hide (HI.out w37 P35.out (HTb.out.below hB.out))
    go_wp2_with fail
    rw [← hw38]
    clear hw38
    refine (H48.out).mono ?_
    rintro e w46 ⟨xuy, rfl, hx49, hb47⟩
    clear H48
    obtain ⟨axuy, cxuy, rfl⟩ := hx49.shp
    have P50 := hide hx49
    clear hx49
    replace X5 := hide (X5.out.later hb47)
    replace X41 := hide (X41.out.later hb47)
    replace P25 := hide (P25.out.later hb47)
    replace P35 := hide (P35.out.later hb47)
    have z51 := hide hb47.size
    replace hB := hide (hB.out.trans (hb47.mono hB.out.size))
    clear hb47
    clear k43 k44 k45
    have E54 := hide (eqPX P50.out P25.out BQ.out)
    go_wp2_with fail
    refine (E54.out).mono ?_
    rintro e w52 ⟨rfl, hb53⟩
    clear E54
    replace X5 := hide (X5.out.later hb53)
    replace X41 := hide (X41.out.later hb53)
    replace P25 := hide (P25.out.later hb53)
    replace P35 := hide (P35.out.later hb53)
    replace P50 := hide (P50.out.later hb53)
    have z55 := hide hb53.size
    replace hB := hide (hB.out.trans (hb53.mono hB.out.size))
    clear hb53
    have KC56 : Hid (∀ w', Below w52.heap.size w52 w' → w'.cell? ⟨w27.heap.size, 0, none⟩ = some (.string sq) ∧ w'.cell? ⟨w27.heap.size, 1, none⟩ = some (.string tq) ∧ w'.cell? ⟨w27.heap.size, 2, none⟩ = some (.slice axu29 lq.length cxu29) ∧ w'.cell? ⟨w.heap.size, 0, none⟩ = some (.string sq) ∧ w'.cell? ⟨w.heap.size, 1, none⟩ = some (.string tq) ∧ w'.cell? ⟨w.heap.size, 2, none⟩ = some (.slice aq lq.length cq)) := hide (fun w' hb => ⟨(X41.out.later hb).cell 0 rfl, (X41.out.later hb).cell 1 rfl, (X41.out.later hb).cell 2 rfl, (X5.out.later hb).cell 0 rfl, (X5.out.later hb).cell 1 rfl, (X5.out.later hb).cell 2 rfl⟩)
    have CT57 := hide (fun w' (hb : Below w52.heap.size w52 w') => TCq.out w' (hB.out.trans (hb.mono hB.out.size)))
    have CX58 := hide (fun w' (hb : Below w52.heap.size w52 w') => P35.out.later hb)
    go_wp2_with fail
    go_region_held3 (fun w' => w'.cell? ⟨w27.heap.size, 0, none⟩ = some (.string sq) ∧ w'.cell? ⟨w27.heap.size, 1, none⟩ = some (.string tq) ∧ w'.cell? ⟨w27.heap.size, 2, none⟩ = some (.slice axu29 lq.length cxu29) ∧ w'.cell? ⟨w.heap.size, 0, none⟩ = some (.string sq) ∧ w'.cell? ⟨w.heap.size, 1, none⟩ = some (.string tq) ∧ w'.cell? ⟨w.heap.size, 2, none⟩ = some (.slice aq lq.length cq))
      (first | assumption | exact KC56.out _ (Below.refl _ _) | exact KC56.out _ (Below.refl _ _).drew | exact KC56.out _ hbq2 | exact KC56.out _ hbq1)
      (first
        | (go_at_call 11; refine (eqSX (s := sq) (t := tq) (CX58.out wq1 hbq1) cpq.out BUq.out).mono ?_; rintro e wq2 ⟨rfl, hq2⟩; have hbq2 : Below w52.heap.size w52 wq2 := hbq1.trans (hq2.mono hbq1.size); clear hq2)
        | (go_at_call 16; refine (CT57.out _ (Below.refl _ _).drew).mono ?_; rintro e wq1 ⟨xuq, rfl, cpq0, hq1⟩; obtain ⟨axuq, cxuq, rfl⟩ := cpq0.shp; have cpq := hide cpq0; have hbq1 : Below w52.heap.size w52 wq1 := (Below.refl _ _).drew.trans hq1; clear hq1 cpq0))
    clear cpq hbq1 KC56 CT57 CX58
    replace X5 := hide (X5.out.later hbq2)
    replace X41 := hide (X41.out.later hbq2)
    replace P25 := hide (P25.out.later hbq2)
    replace P35 := hide (P35.out.later hbq2)
    replace P50 := hide (P50.out.later hbq2)
    have z59 := hide hbq2.size
    replace hB := hide (hB.out.trans (hbq2.mono hB.out.size))
    clear hbq2
    have k63 : wq2.cell? ⟨w27.heap.size, 0, none⟩ = some (.string sq) := X41.out.cell 0 rfl
    have k64 : wq2.cell? ⟨w27.heap.size, 1, none⟩ = some (.string tq) := X41.out.cell 1 rfl
    have k65 : wq2.cell? ⟨w27.heap.size, 2, none⟩ = some (.slice axu29 lq.length cxu29) := X41.out.cell 2 rfl
    have M62 := hide (markSX (s := sq) (t := tq) P35.out BUq.out 1 ⟨by omega, by have := HMUq.out; omega⟩)
    obtain ⟨KK0, hKK0⟩ : ∃ KK : Nat, 1 + mkNE lq = KK := ⟨_, rfl⟩
    rw [hKK0] at M62
    have hKb0 : 0 < KK0 ∧ KK0 ≤ 20000000 := by have := HMUq.out; omega
    clear hKK0
    have ek0 : decide ((KK0 : Int) < 0) = false := by rw [decide_eq_false_iff_not]; omega
    go_wp2_with fail
    refine (M62.out).mono ?_
    rintro e w60 ⟨rfl, ho61, -⟩
    clear M62 k63 k64 k65
    clear P35
    replace X5 := hide (X5.out.outI ho61 (by have q0 := z6.out; have q1 := e4.out; have q2 := z10.out; have q3 := z20.out; have q4 := z26.out; have q5 := z36.out; have q6 := z42.out; have q7 := e40.out; have q8 := z51.out; have q9 := z55.out; have q10 := z59.out; omega))
    replace X41 := hide (X41.out.outI ho61 (by have q0 := z6.out; have q1 := e4.out; have q2 := z10.out; have q3 := z20.out; have q4 := z26.out; have q5 := z36.out; have q6 := z42.out; have q7 := e40.out; have q8 := z51.out; have q9 := z55.out; have q10 := z59.out; omega))
    replace P25 := hide (P25.out.out ho61 (by have q0 := z6.out; have q1 := e4.out; have q2 := z10.out; have q3 := z20.out; have q4 := z26.out; have q5 := z36.out; have q6 := z42.out; have q7 := e40.out; have q8 := z51.out; have q9 := z55.out; have q10 := z59.out; omega))
    replace P50 := hide (P50.out.out ho61 (by have q0 := z6.out; have q1 := e4.out; have q2 := z10.out; have q3 := z20.out; have q4 := z26.out; have q5 := z36.out; have q6 := z42.out; have q7 := e40.out; have q8 := z51.out; have q9 := z55.out; have q10 := z59.out; omega))
    have z66 := hide ho61.size
    replace hB := hide (hB.out.trans (ho61.to (fun k hk => by have u0 := hk.1; have q0 := z6.out; have q1 := e4.out; have q2 := z10.out; have q3 := z20.out; have q4 := z26.out; have q5 := z36.out; have q6 := z42.out; have q7 := e40.out; have q8 := z51.out; have q9 := z55.out; have q10 := z59.out; omega) hB.out.size))
    clear ho61
    have E69 := hide (eqPX P50.out P25.out BQ.out)
    go_wp2_with fail
    refine (E69.out).mono ?_
    rintro e w67 ⟨rfl, hb68⟩
    clear E69
    replace X5 := hide (X5.out.later hb68)
    replace X41 := hide (X41.out.later hb68)
    replace P25 := hide (P25.out.later hb68)
    replace P50 := hide (P50.out.later hb68)
    have z70 := hide hb68.size
    replace hB := hide (hB.out.trans (hb68.mono hB.out.size))
    clear hb68
    have M73 := hide (markPX P50.out BQ.out 1 ⟨by omega, by omega⟩)
    have em0 : decide (((1 + R0.length * 3 : Nat) : Int) < 0) = false := by rw [decide_eq_false_iff_not]; omega
    obtain ⟨KM, hKM⟩ : ∃ KM : Int, ((1 + R0.length * 3 : Nat) : Int) = KM := ⟨_, rfl⟩
    rw [hKM] at em0 M73
    have HKM := hide hKM
    clear hKM
    have em1 : (KM != KM) = false := by simp
    go_wp2_with fail
    refine (M73.out).mono ?_
    rintro e w71 ⟨rfl, ho72, mk74⟩
    clear M73
    clear P50
    replace X5 := hide (X5.out.outI ho72 (by have q0 := z6.out; have q1 := e4.out; have q2 := z10.out; have q3 := z20.out; have q4 := z26.out; have q5 := z36.out; have q6 := z42.out; have q7 := e40.out; have q8 := z51.out; have q9 := z55.out; have q10 := z59.out; have q11 := z66.out; have q12 := z70.out; omega))
    replace X41 := hide (X41.out.outI ho72 (by have q0 := z6.out; have q1 := e4.out; have q2 := z10.out; have q3 := z20.out; have q4 := z26.out; have q5 := z36.out; have q6 := z42.out; have q7 := e40.out; have q8 := z51.out; have q9 := z55.out; have q10 := z59.out; have q11 := z66.out; have q12 := z70.out; omega))
    replace P25 := hide (P25.out.out ho72 (by have q0 := z6.out; have q1 := e4.out; have q2 := z10.out; have q3 := z20.out; have q4 := z26.out; have q5 := z36.out; have q6 := z42.out; have q7 := e40.out; have q8 := z51.out; have q9 := z55.out; have q10 := z59.out; have q11 := z66.out; have q12 := z70.out; omega))
    have z75 := hide ho72.size
    replace hB := hide (hB.out.trans (ho72.to (fun k hk => by have u0 := hk.1; have q0 := z6.out; have q1 := e4.out; have q2 := z10.out; have q3 := z20.out; have q4 := z26.out; have q5 := z36.out; have q6 := z42.out; have q7 := e40.out; have q8 := z51.out; have q9 := z55.out; have q10 := z59.out; have q11 := z66.out; have q12 := z70.out; omega) hB.out.size))
    clear ho72
    have Y76 := hide mk74
    clear mk74
    have D79 := hide (heldPX Y76.out BQ.out ⟨by omega, by omega⟩)
    rw [HKM.out] at D79
    go_wp2_with fail
    refine (D79.out).mono ?_
    rintro e w77 ⟨rfl, hb78⟩
    clear D79
    replace X5 := hide (X5.out.later hb78)
    replace X41 := hide (X41.out.later hb78)
    replace P25 := hide (P25.out.later hb78)
    replace Y76 := hide (Y76.out.later hb78)
    have z80 := hide hb78.size
    replace hB := hide (hB.out.trans (hb78.mono hB.out.size))
    clear hb78
    have T85 := hide (TCq.out w77 hB.out)
    have k86 : w77.cell? ⟨w.heap.size, 0, none⟩ = some (.string sq) := X5.out.cell 0 rfl
    have k87 : w77.cell? ⟨w.heap.size, 1, none⟩ = some (.string tq) := X5.out.cell 1 rfl
    have k88 : w77.cell? ⟨w.heap.size, 2, none⟩ = some (.slice aq lq.length cq) := X5.out.cell 2 rfl
    go_wp2_with fail
    refine (T85.out).mono ?_
    rintro e w81 ⟨xu83, rfl, hx84, hb82⟩
    clear T85 k86 k87 k88
    obtain ⟨axu83, cxu83, rfl⟩ := hx84.shp
    have P89 := hide hx84
    clear hx84
    replace X5 := hide (X5.out.later hb82)
    replace X41 := hide (X41.out.later hb82)
    replace P25 := hide (P25.out.later hb82)
    replace Y76 := hide (Y76.out.later hb82)
    have z90 := hide hb82.size
    replace hB := hide (hB.out.trans (hb82.mono hB.out.size))
    clear hb82
    have H93 := hide (HI.out w81 P89.out (HTb.out.below hB.out))
    go_wp2_with fail
    refine (H93.out).mono ?_
    rintro e w91 ⟨xuz, rfl, hx94, hb92⟩
    clear H93
    obtain ⟨axuz, cxuz, rfl⟩ := hx94.shp
    have P95 := hide hx94
    clear hx94
    replace X5 := hide (X5.out.later hb92)
    replace X41 := hide (X41.out.later hb92)
    replace P25 := hide (P25.out.later hb92)
    replace P89 := hide (P89.out.later hb92)
    replace Y76 := hide (Y76.out.later hb92)
    have z96 := hide hb92.size
    replace hB := hide (hB.out.trans (hb92.mono hB.out.size))
    clear hb92
    have E99 := hide (eqPX P95.out P25.out BQ.out)
    go_wp2_with fail
    refine (E99.out).mono ?_
    rintro e w97 ⟨rfl, hb98⟩
    clear E99
    replace X5 := hide (X5.out.later hb98)
    replace X41 := hide (X41.out.later hb98)
    replace P25 := hide (P25.out.later hb98)
    replace P89 := hide (P89.out.later hb98)
    replace P95 := hide (P95.out.later hb98)
    replace Y76 := hide (Y76.out.later hb98)
    have z100 := hide hb98.size
    replace hB := hide (hB.out.trans (hb98.mono hB.out.size))
    clear hb98
    have D103 := hide (heldPX Y76.out BQ.out ⟨by omega, by omega⟩)
    rw [HKM.out] at D103
    go_wp2_with fail
    refine (D103.out).mono ?_
    rintro e w101 ⟨rfl, hb102⟩
    clear D103
    replace X5 := hide (X5.out.later hb102)
    replace X41 := hide (X41.out.later hb102)
    replace P25 := hide (P25.out.later hb102)
    replace P89 := hide (P89.out.later hb102)
    replace P95 := hide (P95.out.later hb102)
    replace Y76 := hide (Y76.out.later hb102)
    have z104 := hide hb102.size
    replace hB := hide (hB.out.trans (hb102.mono hB.out.size))
    clear hb102
    go_wp2
    go_ret
    exact ⟨rfl, hB.out⟩
  · skip
    have Zq := hide (fun w' (hb : Below w.heap.size w w') => szS_from (haq.later hb) hssq httq hslq 1048576 (by omega))
    simp only [if_neg fsq] at Zq
    have HB0 : Hid (Below w.heap.size w (w.alloc (.cells #[.string sq, .string tq, .slice aq lq.length cq] 32))) := hide ((Below.refl _ _).alloc (Nat.le_refl _) _)
    clear haq hssq httq hslq fsq
    go_enter Tryd.func8, Tryd.ntmps8
    go_wp2_with fail
    refine (Zq.out _ HB0.out).mono ?_
    rintro e zq ⟨rfl, hzq⟩
    have HZq : Hid (Below w.heap.size w zq) := hide (HB0.out.trans (hzq.mono HB0.out.size))
    clear hzq
    go_wp2
    go_ret
    exact ⟨rfl, HZq.out⟩
end Go.Proofs.YtfklbhejfbfmeaaDoor
