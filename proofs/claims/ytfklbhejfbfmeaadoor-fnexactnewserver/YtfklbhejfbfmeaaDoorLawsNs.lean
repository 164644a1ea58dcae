/- The walk of the exact law of NewServer. -/
import Derived.Test.YtfklbhejfbfmeaaDoorSrv4
import Derived.Deep.RegionHeld3
set_option linter.unusedVariables false
namespace Go.Proofs.YtfklbhejfbfmeaaDoor
open Go.RowKit
open Doc1

theorem bdE_nil : BdE ([] : List En) := ⟨by simp, fun i hi => by simp at hi⟩
theorem mkE_nil : mkNE ([] : List En) ≤ 100000000 := by decide

set_option maxRecDepth 100000 in
set_option maxHeartbeats 8000000 in
theorem law_newServer (z : ByteArray) (w : World) (hmz : z.size ≤ maxLen) (hT : Tab w) :
    Calls Tryd.prog 3 #[.string z] w fun e w' => e = .returned (.bool true) ∧ Below w.heap.size w w' := by
  unfold maxLen at hmz
  by_cases fsz : z.size ≤ 1048576
  · skip
    have HTb := hide hT
    have hB := hide (Below.refl w.heap.size w)
    clear hT
    have HS := hide (fun w' (hT : Tab w') => newSvS z w' (by omega))
    have HI := hide (fun w' (hT : Tab w') => newSvI z w' (by omega) hT)
    obtain ⟨R0, hR0⟩ : ∃ R, nsS z = R := ⟨_, rfl⟩
    obtain ⟨R1, hR1⟩ : ∃ R, nsT z = R := ⟨_, rfl⟩
    obtain ⟨R2, hR2⟩ : ∃ R, nsL z = R := ⟨_, rfl⟩
    obtain ⟨R3, hR3⟩ : ∃ R, good z.data.toList = R := ⟨_, rfl⟩
    simp only [hR0, hR1, hR2, hR3] at HS HI
    have BQ : Hid (BdE R2) := hide (by rw [← hR2]; exact bdE_nil)
    have hKb : mkNE R2 ≤ 100000000 := by rw [← hR2]; exact mkE_nil
    clear hR0 hR1 hR2 hR3
    go_enter Tryd.func3, Tryd.ntmps3
    have H3 := hide (HS.out w (HTb.out.below hB.out))
    go_wp2_with fail
    refine (H3.out).mono ?_
    rintro e w1 ⟨xux, rfl, hx4, hb2⟩
    clear H3
    obtain ⟨axux, cxux, rfl⟩ := hx4.shp
    have P5 := hide hx4
    clear hx4
    have z6 := hide hb2.size
    replace hB := hide (hB.out.trans (hb2.mono hB.out.size))
    clear hb2
    obtain ⟨w7, hw8⟩ : ∃ wq0, wq0 = w1.alloc (.cells #[.string R0, .string R1, .slice axux R2.length cxux] 24) := ⟨_, rfl⟩
    have hb9 : Below w1.heap.size w1 w7 := by rw [hw8]; exact (Below.refl _ _).alloc (Nat.le_refl _) _
    have e10 : Hid (w7.heap.size = w1.heap.size + 1) := hide (by rw [hw8]; simp)
    have X11 : Hid (CB w7 w1.heap.size #[.string R0, .string R1, .slice axux R2.length cxux]) := hide (by rw [hw8]; exact CB.new _ _ _)
    replace P5 := hide (P5.out.later hb9)
    have z12 := hide hb9.size
    replace hB := hide (hB.out.trans (hb9.mono hB.out.size))
    clear hb9
    have H15 := hide (HI.out w7 (HTb.out.below hB.out))
    go_wp2_with fail
    rw [← hw8]
    clear hw8
    refine (H15.out).mono ?_
    rintro e w13 ⟨xuy, rfl, hx16, hb14⟩
    clear H15
    obtain ⟨axuy, cxuy, rfl⟩ := hx16.shp
    have P17 := hide hx16
    clear hx16
    replace X11 := hide (X11.out.later hb14)
    replace P5 := hide (P5.out.later hb14)
    have z18 := hide hb14.size
    replace hB := hide (hB.out.trans (hb14.mono hB.out.size))
    clear hb14
    obtain ⟨w19, hw20⟩ : ∃ wq0, wq0 = w13.alloc (.cells #[.string R0, .string R1, .slice axuy R2.length cxuy] 24) := ⟨_, rfl⟩
    have hb21 : Below w13.heap.size w13 w19 := by rw [hw20]; exact (Below.refl _ _).alloc (Nat.le_refl _) _
    have e22 : Hid (w19.heap.size = w13.heap.size + 1) := hide (by rw [hw20]; simp)
    have X23 : Hid (CB w19 w13.heap.size #[.string R0, .string R1, .slice axuy R2.length cxuy]) := hide (by rw [hw20]; exact CB.new _ _ _)
    replace X11 := hide (X11.out.later hb21)
    replace P5 := hide (P5.out.later hb21)
    replace P17 := hide (P17.out.later hb21)
    have z24 := hide hb21.size
    replace hB := hide (hB.out.trans (hb21.mono hB.out.size))
    clear hb21
    have k28 : w19.cell? ⟨w13.heap.size, 0, none⟩ = some (.string R0) := X23.out.cell 0 rfl
    rw [hw20] at k28
    have k29 : w19.cell? ⟨w13.heap.size, 1, none⟩ = some (.string R1) := X23.out.cell 1 rfl
    rw [hw20] at k29
    have k30 : w19.cell? ⟨w13.heap.size, 2, none⟩ = some (.slice axuy R2.length cxuy) := X23.out.cell 2 rfl
    rw [hw20] at k30
    have k31 : w19.cell? ⟨w1.heap.size, 0, none⟩ = some (.string R0) := X11.out.cell 0 rfl
    rw [hw20] at k31
    have k32 : w19.cell? ⟨w1.heap.size, 1, none⟩ = some (.string R1) := X11.out.cell 1 rfl
    rw [hw20] at k32
    have k33 : w19.cell? ⟨w1.heap.size, 2, none⟩ = some (.slice axux R2.length cxux) := X11.out.cell 2 rfl
    rw [hw20] at k33
    have E27 := hide (eqSX (s := R0) (t := R1) P17.out P5.out BQ.out)
    go_wp2_with fail
    rw [← hw20]
    clear hw20
    refine (E27.out).mono ?_
    rintro e w25 ⟨rfl, hb26⟩
    clear E27 k28 k29 k30 k31 k32 k33
    replace X11 := hide (X11.out.later hb26)
    replace X23 := hide (X23.out.later hb26)
    replace P5 := hide (P5.out.later hb26)
    replace P17 := hide (P17.out.later hb26)
    have z34 := hide hb26.size
    replace hB := hide (hB.out.trans (hb26.mono hB.out.size))
    clear hb26
    have k39 : w25.cell? ⟨w13.heap.size, 0, none⟩ = some (.string R0) := X23.out.cell 0 rfl
    have k40 : w25.cell? ⟨w13.heap.size, 1, none⟩ = some (.string R1) := X23.out.cell 1 rfl
    have k41 : w25.cell? ⟨w13.heap.size, 2, none⟩ = some (.slice axuy R2.length cxuy) := X23.out.cell 2 rfl
    have M37 := hide (markSX (s := R0) (t := R1) P17.out BQ.out 1 ⟨by omega, by omega⟩)
    have em0 : decide (((1 + mkNE R2 : Nat) : Int) < 0) = false := by rw [decide_eq_false_iff_not]; omega
    obtain ⟨KM, hKM⟩ : ∃ KM : Int, ((1 + mkNE R2 : Nat) : Int) = KM := ⟨_, rfl⟩
    rw [hKM] at em0 M37
    have HKM := hide hKM
    clear hKM
    have em1 : (KM != KM) = false := by simp
    go_wp2_with fail
    refine (M37.out).mono ?_
    rintro e w35 ⟨rfl, ho36, mk38⟩
    clear M37 k39 k40 k41
    clear P17
    replace X11 := hide (X11.out.outI ho36 (by have q0 := z6.out; have q1 := z12.out; have q2 := e10.out; have q3 := z18.out; have q4 := z24.out; have q5 := e22.out; have q6 := z34.out; omega))
    replace X23 := hide (X23.out.outI ho36 (by have q0 := z6.out; have q1 := z12.out; have q2 := e10.out; have q3 := z18.out; have q4 := z24.out; have q5 := e22.out; have q6 := z34.out; omega))
    replace P5 := hide (P5.out.out ho36 (by have q0 := z6.out; have q1 := z12.out; have q2 := e10.out; have q3 := z18.out; have q4 := z24.out; have q5 := e22.out; have q6 := z34.out; omega))
    have z42 := hide ho36.size
    replace hB := hide (hB.out.trans (ho36.to (fun k hk => by have u0 := hk.1; have q0 := z6.out; have q1 := z12.out; have q2 := e10.out; have q3 := z18.out; have q4 := z24.out; have q5 := e22.out; have q6 := z34.out; omega) hB.out.size))
    clear ho36
    have Y43 := hide mk38
    clear mk38
    have k47 : w35.cell? ⟨w13.heap.size, 0, none⟩ = some (.string R0) := X23.out.cell 0 rfl
    have k48 : w35.cell? ⟨w13.heap.size, 1, none⟩ = some (.string R1) := X23.out.cell 1 rfl
    have k49 : w35.cell? ⟨w13.heap.size, 2, none⟩ = some (.slice axuy R2.length cxuy) := X23.out.cell 2 rfl
    have D46 := hide (heldSX (s := R0) (t := R1) Y43.out BQ.out ⟨by omega, by omega⟩)
    rw [HKM.out] at D46
    go_wp2_with fail
    refine (D46.out).mono ?_
    rintro e w44 ⟨rfl, hb45⟩
    clear D46 k47 k48 k49
    replace X11 := hide (X11.out.later hb45)
    replace X23 := hide (X23.out.later hb45)
    replace P5 := hide (P5.out.later hb45)
    replace Y43 := hide (Y43.out.later hb45)
    have z50 := hide hb45.size
    replace hB := hide (hB.out.trans (hb45.mono hB.out.size))
    clear hb45
    have H53 := hide (HI.out w44 (HTb.out.below hB.out))
    go_wp2_with fail
    refine (H53.out).mono ?_
    rintro e w51 ⟨xuz, rfl, hx54, hb52⟩
    clear H53
    obtain ⟨axuz, cxuz, rfl⟩ := hx54.shp
    have P55 := hide hx54
    clear hx54
    replace X11 := hide (X11.out.later hb52)
    replace X23 := hide (X23.out.later hb52)
    replace P5 := hide (P5.out.later hb52)
    replace Y43 := hide (Y43.out.later hb52)
    have z56 := hide hb52.size
    replace hB := hide (hB.out.trans (hb52.mono hB.out.size))
    clear hb52
    obtain ⟨w57, hw58⟩ : ∃ wq0, wq0 = w51.alloc (.cells #[.string R0, .string R1, .slice axuz R2.length cxuz] 24) := ⟨_, rfl⟩
    have hb59 : Below w51.heap.size w51 w57 := by rw [hw58]; exact (Below.refl _ _).alloc (Nat.le_refl _) _
    have e60 : Hid (w57.heap.size = w51.heap.size + 1) := hide (by rw [hw58]; simp)
    have X61 : Hid (CB w57 w51.heap.size #[.string R0, .string R1, .slice axuz R2.length cxuz]) := hide (by rw [hw58]; exact CB.new _ _ _)
    replace X11 := hide (X11.out.later hb59)
    replace X23 := hide (X23.out.later hb59)
    replace P5 := hide (P5.out.later hb59)
    replace P55 := hide (P55.out.later hb59)
    replace Y43 := hide (Y43.out.later hb59)
    have z62 := hide hb59.size
    replace hB := hide (hB.out.trans (hb59.mono hB.out.size))
    clear hb59
    have k66 : w57.cell? ⟨w51.heap.size, 0, none⟩ = some (.string R0) := X61.out.cell 0 rfl
    rw [hw58] at k66
    have k67 : w57.cell? ⟨w51.heap.size, 1, none⟩ = some (.string R1) := X61.out.cell 1 rfl
    rw [hw58] at k67
    have k68 : w57.cell? ⟨w51.heap.size, 2, none⟩ = some (.slice axuz R2.length cxuz) := X61.out.cell 2 rfl
    rw [hw58] at k68
    have k69 : w57.cell? ⟨w1.heap.size, 0, none⟩ = some (.string R0) := X11.out.cell 0 rfl
    rw [hw58] at k69
    have k70 : w57.cell? ⟨w1.heap.size, 1, none⟩ = some (.string R1) := X11.out.cell 1 rfl
    rw [hw58] at k70
    have k71 : w57.cell? ⟨w1.heap.size, 2, none⟩ = some (.slice axux R2.length cxux) := X11.out.cell 2 rfl
    rw [hw58] at k71
    have E65 := hide (eqSX (s := R0) (t := R1) P55.out P5.out BQ.out)
    go_wp2_with fail
    rw [← hw58]
    clear hw58
    refine (E65.out).mono ?_
    rintro e w63 ⟨rfl, hb64⟩
    clear E65 k66 k67 k68 k69 k70 k71
    replace X11 := hide (X11.out.later hb64)
    replace X23 := hide (X23.out.later hb64)
    replace X61 := hide (X61.out.later hb64)
    replace P5 := hide (P5.out.later hb64)
    replace P55 := hide (P55.out.later hb64)
    replace Y43 := hide (Y43.out.later hb64)
    have z72 := hide hb64.size
    replace hB := hide (hB.out.trans (hb64.mono hB.out.size))
    clear hb64
    have k76 : w63.cell? ⟨w13.heap.size, 0, none⟩ = some (.string R0) := X23.out.cell 0 rfl
    have k77 : w63.cell? ⟨w13.heap.size, 1, none⟩ = some (.string R1) := X23.out.cell 1 rfl
    have k78 : w63.cell? ⟨w13.heap.size, 2, none⟩ = some (.slice axuy R2.length cxuy) := X23.out.cell 2 rfl
    have D75 := hide (heldSX (s := R0) (t := R1) Y43.out BQ.out ⟨by omega, by omega⟩)
    rw [HKM.out] at D75
    go_wp2_with fail
    refine (D75.out).mono ?_
    rintro e w73 ⟨rfl, hb74⟩
    clear D75 k76 k77 k78
    replace X11 := hide (X11.out.later hb74)
    replace X23 := hide (X23.out.later hb74)
    replace X61 := hide (X61.out.later hb74)
    replace P5 := hide (P5.out.later hb74)
    replace P55 := hide (P55.out.later hb74)
    replace Y43 := hide (Y43.out.later hb74)
    have z79 := hide hb74.size
    replace hB := hide (hB.out.trans (hb74.mono hB.out.size))
    clear hb74
    go_wp2
    go_ret
    exact ⟨rfl, hB.out⟩
  · go_enter Tryd.func3, Tryd.ntmps3
    go_wp2
    go_ret
    exact ⟨rfl, Below.refl _ _⟩
end Go.Proofs.YtfklbhejfbfmeaaDoor
