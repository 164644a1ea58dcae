/- The walk of the exact law of LessSeq. -/
import Derived.Test.YtnhooalibadeeabDoorSeqLaw
import Derived.Test.YtnhooalibadeeabDoorSqL3
import Derived.Deep.RegionHeld3
import Derived.Deep.Cut
import Derived.Deep.CutRange
set_option linter.unusedVariables false
namespace Go.Proofs.YtnhooalibadeeabDoor
open Go.RowKit
open Doc1

set_option maxRecDepth 100000 in
set_option maxHeartbeats 8000000 in
theorem law_lessSeq (vl : Value) (l : List Am) (vm : Value) (m : List Am) (w : World) (hal : ArgAm w vl l) (hrl : ∀ i (hi : i < l.length), l[i].byte.size ≤ 9223372036854775807) (ham : ArgAm w vm m) (hrm : ∀ i (hi : i < m.length), m[i].byte.size ≤ 9223372036854775807) (hT : Tab w) :
    Calls Tryd.prog 5 #[.agg #[vl], .agg #[vm]] w fun e w' => e = .returned (.bool true) ∧ Below w.heap.size w w' := by
  obtain ⟨al, cl, ml, rfl⟩ := arg_shape hal
  obtain ⟨am, cm, mm, rfl⟩ := arg_shape ham
  by_cases fsl : szAmn l ≤ 1048576
  · skip
    by_cases fsm : szAmn m ≤ 1048576 - szAmn l
    · skip
      have hll : l.length ≤ 1048576 := by have q0 := fsl; unfold szAmn at q0; omega
      have htl : ∀ i (hi : i < l.length), l[i].byte.size ≤ 1048576 := fun i hi => Nat.le_trans (szAmn_txt l i hi) (by omega)
      have HAl := hide hal
      have SZl := hide (fun w' (h : ArgAm w' (.slice al ml cl) l) => szSeq_from h hrl (1048576) (by omega))
      rw [if_pos fsl] at SZl
      have TCl := hide (fun w' (h : ArgAm w' (.slice al ml cl) l) => toSeq_cp h (by omega))
      have hlm : m.length ≤ 1048576 := by have q0 := fsm; unfold szAmn at q0; omega
      have htm : ∀ i (hi : i < m.length), m[i].byte.size ≤ 1048576 := fun i hi => Nat.le_trans (szAmn_txt m i hi) (by omega)
      have HAm := hide ham
      have SZm := hide (fun w' (h : ArgAm w' (.slice am mm cm) m) => szSeq_from h hrm (1048576 - szAmn l) (by omega))
      rw [if_pos fsm] at SZm
      have TCm := hide (fun w' (h : ArgAm w' (.slice am mm cm) m) => toSeq_cp h (by omega))
      obtain ⟨Kl, hKl⟩ : ∃ K : Nat, 1048576 - szAmn l = K := ⟨_, rfl⟩
      rw [hKl] at SZl SZm fsm
      have e0l : decide ((Kl : Int) < 0) = false := by rw [decide_eq_false_iff_not]; omega
      obtain ⟨Km, hKm⟩ : ∃ K : Nat, Kl - szAmn m = K := ⟨_, rfl⟩
      rw [hKm] at SZm
      have e0m : decide ((Km : Int) < 0) = false := by rw [decide_eq_false_iff_not]; omega
      have HTXl := hide htl
      have HTXm := hide htm
      clear hal hrl htl hKl ham hrm htm hKm fsm fsl
      have HTb := hide hT
      have hB := hide (Below.refl w.heap.size w)
      clear hT
      have HS := hide (fun w' {g : Option Addr} {c : Nat} (h : SIn w' g c l) {g2 : Option Addr} {c2 : Nat} (h2 : SIn w' g2 c2 m) => lessSeqS h h2)
      have HI := hide (fun w' {g : Option Addr} {c : Nat} (h : SIn w' g c l) {g2 : Option Addr} {c2 : Nat} (h2 : SIn w' g2 c2 m) hT => lessSeqI h h2 hT)
      obtain ⟨R0, hR0⟩ : ∃ R, lsB l m = R := ⟨_, rfl⟩
      obtain ⟨R1, hR1⟩ : ∃ R, lsOk l m = R := ⟨_, rfl⟩
      simp only [hR0, hR1] at HS HI
      clear hR0 hR1
      go_enter Tryd.func5, Tryd.ntmps5
      obtain ⟨w1, hw2⟩ : ∃ wq0, wq0 = w.alloc (.cells #[.slice al ml cl] 24) := ⟨_, rfl⟩
      have hb3 : Below w.heap.size w w1 := by rw [hw2]; exact (Below.refl _ _).alloc (Nat.le_refl _) _
      have e4 : Hid (w1.heap.size = w.heap.size + 1) := hide (by rw [hw2]; simp)
      have X5 : Hid (CellT 24 w1 w.heap.size (.slice al ml cl)) := hide (by rw [hw2]; exact CellT.new _ _ _)
      have z6 := hide hb3.size
      replace hB := hide (hB.out.trans (hb3.mono hB.out.size))
      clear hb3
      obtain ⟨w7, hw8⟩ : ∃ wq0, wq0 = w1.alloc (.cells #[.slice am mm cm] 24) := ⟨_, rfl⟩
      have hb9 : Below w1.heap.size w1 w7 := by rw [hw8]; exact (Below.refl _ _).alloc (Nat.le_refl _) _
      have e10 : Hid (w7.heap.size = w1.heap.size + 1) := hide (by rw [hw8]; simp)
      have X11 : Hid (CellT 24 w7 (w.heap.size + 1) (.slice am mm cm)) := hide (by rw [hw8, ← e4.out]; exact CellT.new _ _ _)
      replace X5 := hide (X5.out.later hb9)
      have z12 := hide hb9.size
      replace hB := hide (hB.out.trans (hb9.mono hB.out.size))
      clear hb9
      have SZ15 := hide (SZl.out w7 (HAl.out.later hB.out))
      go_wp2_with fail
      rw [← hw2]
      clear hw2
      rw [← hw8]
      clear hw8
      refine (SZ15.out).mono ?_
      rintro e w13 ⟨rfl, hb14⟩
      clear SZ15
      replace X5 := hide (X5.out.later hb14)
      replace X11 := hide (X11.out.later hb14)
      have z16 := hide hb14.size
      replace hB := hide (hB.out.trans (hb14.mono hB.out.size))
      clear hb14
      have SZ19 := hide (SZm.out w13 (HAm.out.later hB.out))
      have k20 := X11.out.cell
      go_wp2_with fail
      refine (SZ19.out).mono ?_
      rintro e w17 ⟨rfl, hb18⟩
      clear SZ19 k20
      replace X5 := hide (X5.out.later hb18)
      replace X11 := hide (X11.out.later hb18)
      have z21 := hide hb18.size
      replace hB := hide (hB.out.trans (hb18.mono hB.out.size))
      clear hb18
      have KC22 : Hid (∀ w', Below w17.heap.size w17 w' → w'.cell? ⟨w.heap.size, 0, none⟩ = some (.slice al ml cl) ∧ w'.cell? ⟨w.heap.size + 1, 0, none⟩ = some (.slice am mm cm)) := hide (fun w' hb => ⟨(X5.out.later hb).cell, (X11.out.later hb).cell⟩)
      have CT23 := hide (fun w' (hb : Below w17.heap.size w17 w') => TCl.out w' (HAl.out.later (hB.out.trans (hb.mono hB.out.size))))
      have CT24 := hide (fun w' (hb : Below w17.heap.size w17 w') => TCm.out w' (HAm.out.later (hB.out.trans (hb.mono hB.out.size))))
      go_wp2_with fail
      go_cut [6, 7] from 22 to 29 (fun v0 v1 wx => v0 = .bool R0 ∧ v1 = .bool R1 ∧ Below w17.heap.size w17 wx)
      case first =>
        go_region_held3 (fun w' => w'.cell? ⟨w.heap.size, 0, none⟩ = some (.slice al ml cl) ∧ w'.cell? ⟨w.heap.size + 1, 0, none⟩ = some (.slice am mm cm))
          (first | assumption | exact KC22.out _ (Below.refl _ _) | exact KC22.out _ (Below.refl _ _).drew | exact KC22.out _ hcq25 | exact KC22.out _ hbq25 | exact KC22.out _ haq25)
          (first
            | (go_at_call 18; refine (HS.out _ ⟨(cp0q25.out.later hp2q25).inn2 (by omega), hll, HTXl.out⟩ ⟨cp1q25.out.inn2 (by omega), hlm, HTXm.out⟩).mono ?_; rintro e wcq25 ⟨rfl, hx3⟩; have hcq25 : Below w17.heap.size w17 wcq25 := hbq25.trans (hx3.mono hbq25.size); clear hx3)
            | (go_at_call 8; refine (CT24.out _ haq25).mono ?_; rintro e wbq25 ⟨g1q25, rfl, hg1q25, cpyq25, hp2q25⟩; have cp1q25 := hide cpyq25; have hbq25 : Below w17.heap.size w17 wbq25 := haq25.trans (hp2q25.mono haq25.size); clear cpyq25)
            | (go_at_call 8; refine (CT23.out _ (Below.refl _ _).drew).mono ?_; rintro e waq25 ⟨g0q25, rfl, hg0q25, cpxq25, hk1q25⟩; have cp0q25 := hide cpxq25; have haq25 : Below w17.heap.size w17 waq25 := (Below.refl _ _).drew.trans hk1q25; clear cpxq25))
        all_goals
          go_wp2_with fail
          go_meet
          case rel => exact ⟨rfl, rfl, hcq25⟩
      case rest =>
      obtain ⟨rfl, rfl, hb26⟩ := hcut
      clear KC22 CT23 CT24
      obtain ⟨w27, hw27⟩ : ∃ wq, wc = wq := ⟨_, rfl⟩
      rw [hw27] at hb26 ⊢
      clear hw27
      replace X5 := hide (X5.out.later hb26)
      replace X11 := hide (X11.out.later hb26)
      have z28 := hide hb26.size
      replace hB := hide (hB.out.trans (hb26.mono hB.out.size))
      clear hb26
      have T34 := hide (TCl.out w27 (HAl.out.later hB.out))
      have k35 := X5.out.cell
      go_wp2_with fail
      refine (T34.out).mono ?_
      rintro e w29 ⟨g31, rfl, hg32, C33, hb30⟩
      clear T34 k35
      have I36 : Hid (w27.heap.size ≤ g31 ∧ g31 < w29.heap.size) := hide ⟨hg32, C33.lt⟩
      have P37 := hide C33
      clear C33 hg32
      replace X5 := hide (X5.out.later hb30)
      replace X11 := hide (X11.out.later hb30)
      have z38 := hide hb30.size
      replace hB := hide (hB.out.trans (hb30.mono hB.out.size))
      clear hb30
      obtain ⟨w39, hw40⟩ : ∃ wq0, wq0 = w29.alloc (.cells #[.slice (some ⟨g31, 0, none⟩) l.length l.length] 28) := ⟨_, rfl⟩
      have hb41 : Below w29.heap.size w29 w39 := by rw [hw40]; exact (Below.refl _ _).alloc (Nat.le_refl _) _
      have e42 : Hid (w39.heap.size = w29.heap.size + 1) := hide (by rw [hw40]; simp)
      have X43 : Hid (CellT 28 w39 w29.heap.size (.slice (some ⟨g31, 0, none⟩) l.length l.length)) := hide (by rw [hw40]; exact CellT.new _ _ _)
      replace X5 := hide (X5.out.later hb41)
      replace X11 := hide (X11.out.later hb41)
      replace P37 := hide (P37.out.later hb41)
      have z44 := hide hb41.size
      replace hB := hide (hB.out.trans (hb41.mono hB.out.size))
      clear hb41
      have T50 := hide (TCm.out w39 (HAm.out.later hB.out))
      have k51 := X11.out.cell
      rw [hw40] at k51
      go_wp2_with fail
      rw [← hw40]
      clear hw40
      refine (T50.out).mono ?_
      rintro e w45 ⟨g47, rfl, hg48, C49, hb46⟩
      clear T50 k51
      have I52 : Hid (w39.heap.size ≤ g47 ∧ g47 < w45.heap.size) := hide ⟨hg48, C49.lt⟩
      have P53 := hide C49
      clear C49 hg48
      replace X5 := hide (X5.out.later hb46)
      replace X11 := hide (X11.out.later hb46)
      replace X43 := hide (X43.out.later hb46)
      replace P37 := hide (P37.out.later hb46)
      have z54 := hide hb46.size
      replace hB := hide (hB.out.trans (hb46.mono hB.out.size))
      clear hb46
      obtain ⟨w55, hw56⟩ : ∃ wq0, wq0 = w45.alloc (.cells #[.slice (some ⟨g47, 0, none⟩) m.length m.length] 28) := ⟨_, rfl⟩
      have hb57 : Below w45.heap.size w45 w55 := by rw [hw56]; exact (Below.refl _ _).alloc (Nat.le_refl _) _
      have e58 : Hid (w55.heap.size = w45.heap.size + 1) := hide (by rw [hw56]; simp)
      have X59 : Hid (CellT 28 w55 w45.heap.size (.slice (some ⟨g47, 0, none⟩) m.length m.length)) := hide (by rw [hw56]; exact CellT.new _ _ _)
      replace X5 := hide (X5.out.later hb57)
      replace X11 := hide (X11.out.later hb57)
      replace X43 := hide (X43.out.later hb57)
      replace P37 := hide (P37.out.later hb57)
      replace P53 := hide (P53.out.later hb57)
      have z60 := hide hb57.size
      replace hB := hide (hB.out.trans (hb57.mono hB.out.size))
      clear hb57
      have k61 := X43.out.cell
      rw [hw56] at k61
      have k62 := X59.out.cell
      rw [hw56] at k62
      have H65 := hide (HI.out w55 ⟨P37.out.inn2 (by omega), hll, HTXl.out⟩ ⟨P53.out.inn2 (by omega), hlm, HTXm.out⟩ (HTb.out.below hB.out))
      go_wp2_with fail
      rw [← hw56]
      clear hw56
      refine (H65.out).mono ?_
      rintro e w63 ⟨rfl, hb64⟩
      clear H65
      replace X5 := hide (X5.out.later hb64)
      replace X11 := hide (X11.out.later hb64)
      replace X43 := hide (X43.out.later hb64)
      replace X59 := hide (X59.out.later hb64)
      replace P37 := hide (P37.out.later hb64)
      replace P53 := hide (P53.out.later hb64)
      have z66 := hide hb64.size
      replace hB := hide (hB.out.trans (hb64.mono hB.out.size))
      clear hb64
      clear k61 k62
      have KC67 : Hid (∀ w', Below w63.heap.size w63 w' → w'.cell? ⟨w29.heap.size, 0, none⟩ = some (.slice (some ⟨g31, 0, none⟩) l.length l.length) ∧ w'.cell? ⟨w.heap.size, 0, none⟩ = some (.slice al ml cl)) := hide (fun w' hb => ⟨(X43.out.later hb).cell, (X5.out.later hb).cell⟩)
      have CT68 := hide (fun w' (hb : Below w63.heap.size w63 w') => TCl.out w' (HAl.out.later (hB.out.trans (hb.mono hB.out.size))))
      have CX69 := hide (fun w' (hb : Below w63.heap.size w63 w') => P37.out.later hb)
      go_wp2_with fail
      go_region_held3 (fun w' => w'.cell? ⟨w29.heap.size, 0, none⟩ = some (.slice (some ⟨g31, 0, none⟩) l.length l.length) ∧ w'.cell? ⟨w.heap.size, 0, none⟩ = some (.slice al ml cl))
        (first | assumption | exact KC67.out _ (Below.refl _ _) | exact KC67.out _ (Below.refl _ _).drew | exact KC67.out _ hbq20 | exact KC67.out _ hbq10)
        (first
          | (go_at_call 10; refine (eqSeq_cp (CX69.out wq10 hbq10) cpq0.out (by omega)).mono ?_; rintro e wq20 ⟨rfl, hq20⟩; have hbq20 : Below w63.heap.size w63 wq20 := hbq10.trans (hq20.mono hbq10.size); clear hq20)
          | (go_at_call 8; refine (CT68.out _ (Below.refl _ _).drew).mono ?_; rintro e wq10 ⟨gq0, rfl, hgq0, cpq00, hq10⟩; have cpq0 := hide cpq00; have hbq10 : Below w63.heap.size w63 wq10 := (Below.refl _ _).drew.trans hq10; clear hq10 cpq00))
      clear cpq0 hbq10 KC67 CT68 CX69 hgq0
      replace X5 := hide (X5.out.later hbq20)
      replace X11 := hide (X11.out.later hbq20)
      replace X43 := hide (X43.out.later hbq20)
      replace X59 := hide (X59.out.later hbq20)
      replace P37 := hide (P37.out.later hbq20)
      replace P53 := hide (P53.out.later hbq20)
      have z70 := hide hbq20.size
      replace hB := hide (hB.out.trans (hbq20.mono hB.out.size))
      clear hbq20
      have KC71 : Hid (∀ w', Below wq20.heap.size wq20 w' → w'.cell? ⟨w45.heap.size, 0, none⟩ = some (.slice (some ⟨g47, 0, none⟩) m.length m.length) ∧ w'.cell? ⟨w.heap.size + 1, 0, none⟩ = some (.slice am mm cm)) := hide (fun w' hb => ⟨(X59.out.later hb).cell, (X11.out.later hb).cell⟩)
      have CT72 := hide (fun w' (hb : Below wq20.heap.size wq20 w') => TCm.out w' (HAm.out.later (hB.out.trans (hb.mono hB.out.size))))
      have CX73 := hide (fun w' (hb : Below wq20.heap.size wq20 w') => P53.out.later hb)
      go_wp2_with fail
      go_region_held3 (fun w' => w'.cell? ⟨w45.heap.size, 0, none⟩ = some (.slice (some ⟨g47, 0, none⟩) m.length m.length) ∧ w'.cell? ⟨w.heap.size + 1, 0, none⟩ = some (.slice am mm cm))
        (first | assumption | exact KC71.out _ (Below.refl _ _) | exact KC71.out _ (Below.refl _ _).drew | exact KC71.out _ hbq21 | exact KC71.out _ hbq11)
        (first
          | (go_at_call 10; refine (eqSeq_cp (CX73.out wq11 hbq11) cpq1.out (by omega)).mono ?_; rintro e wq21 ⟨rfl, hq21⟩; have hbq21 : Below wq20.heap.size wq20 wq21 := hbq11.trans (hq21.mono hbq11.size); clear hq21)
          | (go_at_call 8; refine (CT72.out _ (Below.refl _ _).drew).mono ?_; rintro e wq11 ⟨gq1, rfl, hgq1, cpq01, hq11⟩; have cpq1 := hide cpq01; have hbq11 : Below wq20.heap.size wq20 wq11 := (Below.refl _ _).drew.trans hq11; clear hq11 cpq01))
      clear cpq1 hbq11 KC71 CT72 CX73 hgq1
      replace X5 := hide (X5.out.later hbq21)
      replace X11 := hide (X11.out.later hbq21)
      replace X43 := hide (X43.out.later hbq21)
      replace X59 := hide (X59.out.later hbq21)
      replace P37 := hide (P37.out.later hbq21)
      replace P53 := hide (P53.out.later hbq21)
      have z74 := hide hbq21.size
      replace hB := hide (hB.out.trans (hbq21.mono hB.out.size))
      clear hbq21
      go_wp2
      go_ret
      exact ⟨rfl, hB.out⟩
    · have hbz0 : Below w.heap.size w w := Below.refl _ _
      have hbbl : Below w.heap.size w (w.alloc (.cells #[.slice al ml cl] 24)) := hbz0.alloc (Nat.le_refl _) _
      have hbbm : Below w.heap.size w ((w.alloc (.cells #[.slice al ml cl] 24)).alloc (.cells #[.slice am mm cm] 24)) := hbbl.alloc (by simp <;> omega) _
      have HB0 := hide hbbm
      have CBm : Hid (CellT 24 ((w.alloc (.cells #[.slice al ml cl] 24)).alloc (.cells #[.slice am mm cm] 24)) (w.heap.size + 1) (.slice am mm cm)) := hide (by have := CellT.new 24 (w.alloc (.cells #[.slice al ml cl] 24)) (.slice am mm cm); rwa [show (w.alloc (.cells #[.slice al ml cl] 24)).heap.size = w.heap.size + 1 by simp] at this)
      have Zl := hide (fun w' (hb : Below w.heap.size w w') => szSeq_from (hal.later hb) hrl (1048576) (by omega))
      rw [if_pos fsl] at Zl
      have Zm := hide (fun w' (hb : Below w.heap.size w w') => szSeq_from (ham.later hb) hrm (1048576 - szAmn l) (by omega))
      rw [if_neg fsm] at Zm
      obtain ⟨Kl, hKl⟩ : ∃ K : Nat, 1048576 - szAmn l = K := ⟨_, rfl⟩
      rw [hKl] at Zl Zm
      have el : decide ((Kl : Int) < 0) = false := by rw [decide_eq_false_iff_not]; omega
      clear hKl
      clear hbz0 hbbl hbbm hal hrl ham hrm fsl fsm
      go_enter Tryd.func5, Tryd.ntmps5
      go_wp2_with fail
      refine (Zl.out _ HB0.out).mono ?_
      rintro e zl ⟨rfl, hzl⟩
      have ckm := (CBm.out.later hzl).cell
      have HZl : Hid (Below w.heap.size w zl) := hide (HB0.out.trans (hzl.mono HB0.out.size))
      clear hzl
      go_wp2_with fail
      refine (Zm.out _ HZl.out).mono ?_
      rintro e zm ⟨rfl, hzm⟩
      have HZm : Hid (Below w.heap.size w zm) := hide (HZl.out.trans (hzm.mono HZl.out.size))
      clear hzm
      go_wp2
      go_ret
      exact ⟨rfl, HZm.out⟩
  · have hbz0 : Below w.heap.size w w := Below.refl _ _
    have hbbl : Below w.heap.size w (w.alloc (.cells #[.slice al ml cl] 24)) := hbz0.alloc (Nat.le_refl _) _
    have hbbm : Below w.heap.size w ((w.alloc (.cells #[.slice al ml cl] 24)).alloc (.cells #[.slice am mm cm] 24)) := hbbl.alloc (by simp <;> omega) _
    have HB0 := hide hbbm
    have Zl := hide (fun w' (hb : Below w.heap.size w w') => szSeq_from (hal.later hb) hrl (1048576) (by omega))
    rw [if_neg fsl] at Zl
    clear hbz0 hbbl hbbm hal hrl ham hrm fsl
    go_enter Tryd.func5, Tryd.ntmps5
    go_wp2_with fail
    refine (Zl.out _ HB0.out).mono ?_
    rintro e zl ⟨rfl, hzl⟩
    have HZl : Hid (Below w.heap.size w zl) := hide (HB0.out.trans (hzl.mono HB0.out.size))
    clear hzl
    go_wp2
    go_ret
    exact ⟨rfl, HZl.out⟩
end Go.Proofs.YtnhooalibadeeabDoor
