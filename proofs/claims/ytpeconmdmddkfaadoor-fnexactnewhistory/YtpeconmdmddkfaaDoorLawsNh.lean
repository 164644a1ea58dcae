/- The walk of the exact law of NewHistory. -/
import Derived.Test.YtpeconmdmddkfaaDoorHNew
set_option linter.unusedVariables false
namespace Go.Proofs.YtpeconmdmddkfaaDoor
open Go.RowKit
open Doc1

theorem bd_nil : BdC ([] : List (List Pt)) := ⟨by simp, fun i hi => by simp at hi⟩
theorem mk_nil : mkN ([] : List (List Pt)) + mkN ([] : List (List Pt)) ≤ 100000000 := by decide

set_option maxRecDepth 100000 in
set_option maxHeartbeats 8000000 in
theorem law_newHistory (s : ByteArray) (w : World) (hms : s.size ≤ maxLen) (hT : Tab w) :
    Calls Tryd.prog 3 #[.string s] w fun e w' => e = .returned (.bool true) ∧ Below w.heap.size w w' := by
  unfold maxLen at hms
  by_cases fss : s.size ≤ 1048576
  · skip
    have HTb := hide hT
    have hB := hide (Below.refl w.heap.size w)
    clear hT
    have HS := hide (fun w' => newS s w' (by omega))
    have HI := hide (fun w' hT => newI s w' (by omega) hT)
    obtain ⟨R0, hR0⟩ : ∃ R, nhT s = R := ⟨_, rfl⟩
    obtain ⟨R1, hR1⟩ : ∃ R, nhU s = R := ⟨_, rfl⟩
    obtain ⟨R2, hR2⟩ : ∃ R, nhV s = R := ⟨_, rfl⟩
    obtain ⟨R3, hR3⟩ : ∃ R, good s.data.toList = R := ⟨_, rfl⟩
    simp only [hR0, hR1, hR2, hR3] at HS HI
    have BQ1 : Hid (BdC R1) := hide (by rw [← hR1]; exact bd_nil)
    have BQ2 : Hid (BdC R2) := hide (by rw [← hR2]; exact bd_nil)
    have hKb : mkN R1 + mkN R2 ≤ 100000000 := by rw [← hR1, ← hR2]; exact mk_nil
    clear hR0 hR1 hR2 hR3
    go_enter Tryd.func3, Tryd.ntmps3
    have H3 := hide (HS.out w)
    go_wp2_with fail
    refine (H3.out).mono ?_
    rintro e w1 ⟨xux, xrx, rfl, hx4, hb2⟩
    clear H3
    obtain ⟨axux, cxux, axrx, cxrx, rfl, rfl⟩ := hx4.shp
    have P5 := hide hx4
    clear hx4
    have z6 := hide hb2.size
    replace hB := hide (hB.out.trans (hb2.mono hB.out.size))
    clear hb2
    obtain ⟨w7, hw8⟩ : ∃ wq0, wq0 = w1.alloc (.cells #[.string R0, .slice axux R1.length cxux, .slice axrx R2.length cxrx] 24) := ⟨_, rfl⟩
    have hb9 : Below w1.heap.size w1 w7 := by rw [hw8]; exact (Below.refl _ _).alloc (Nat.le_refl _) _
    have e10 : Hid (w7.heap.size = w1.heap.size + 1) := hide (by rw [hw8]; simp)
    have X11 : Hid (CB w7 w1.heap.size #[.string R0, .slice axux R1.length cxux, .slice axrx R2.length cxrx]) := hide (by rw [hw8]; exact CB.new _ _ _)
    replace P5 := hide (P5.out.later hb9)
    have z12 := hide hb9.size
    replace hB := hide (hB.out.trans (hb9.mono hB.out.size))
    clear hb9
    have H15 := hide (HI.out w7 (HTb.out.below hB.out))
    go_wp2_with fail
    rw [← hw8]
    clear hw8
    refine (H15.out).mono ?_
    rintro e w13 ⟨xuy, xry, rfl, hx16, hb14⟩
    clear H15
    obtain ⟨axuy, cxuy, axry, cxry, rfl, rfl⟩ := hx16.shp
    have P17 := hide hx16
    clear hx16
    replace X11 := hide (X11.out.later hb14)
    replace P5 := hide (P5.out.later hb14)
    have z18 := hide hb14.size
    replace hB := hide (hB.out.trans (hb14.mono hB.out.size))
    clear hb14
    obtain ⟨w19, hw20⟩ : ∃ wq0, wq0 = w13.alloc (.cells #[.string R0, .slice axuy R1.length cxuy, .slice axry R2.length cxry] 24) := ⟨_, rfl⟩
    have hb21 : Below w13.heap.size w13 w19 := by rw [hw20]; exact (Below.refl _ _).alloc (Nat.le_refl _) _
    have e22 : Hid (w19.heap.size = w13.heap.size + 1) := hide (by rw [hw20]; simp)
    have X23 : Hid (CB w19 w13.heap.size #[.string R0, .slice axuy R1.length cxuy, .slice axry R2.length cxry]) := hide (by rw [hw20]; exact CB.new _ _ _)
    replace X11 := hide (X11.out.later hb21)
    replace P5 := hide (P5.out.later hb21)
    replace P17 := hide (P17.out.later hb21)
    have z24 := hide hb21.size
    replace hB := hide (hB.out.trans (hb21.mono hB.out.size))
    clear hb21
    have k28 : w19.cell? ⟨w13.heap.size, 0, none⟩ = some (.string R0) := X23.out.cell 0 rfl
    rw [hw20] at k28
    have k29 : w19.cell? ⟨w13.heap.size, 1, none⟩ = some (.slice axuy R1.length cxuy) := X23.out.cell 1 rfl
    rw [hw20] at k29
    have k30 : w19.cell? ⟨w13.heap.size, 2, none⟩ = some (.slice axry R2.length cxry) := X23.out.cell 2 rfl
    rw [hw20] at k30
    have k31 : w19.cell? ⟨w1.heap.size, 0, none⟩ = some (.string R0) := X11.out.cell 0 rfl
    rw [hw20] at k31
    have k32 : w19.cell? ⟨w1.heap.size, 1, none⟩ = some (.slice axux R1.length cxux) := X11.out.cell 1 rfl
    rw [hw20] at k32
    have k33 : w19.cell? ⟨w1.heap.size, 2, none⟩ = some (.slice axrx R2.length cxrx) := X11.out.cell 2 rfl
    rw [hw20] at k33
    have E27 := hide (eqX (t := R0) P17.out P5.out BQ1.out BQ2.out)
    go_wp2_with fail
    rw [← hw20]
    clear hw20
    refine (E27.out).mono ?_
    rintro e w25 ⟨rfl, hb26⟩
    clear E27 k28 k29 k30 k31 k32 k33
    replace X11 := hide (X11.out.later hb26)
    replace X23 := hide (X23.out.later hb26)
    replace P5 := hide (P5.out.later hb26)
    replace P17 := hide (P17.out.later hb26)
    have z34 := hide hb26.size
    replace hB := hide (hB.out.trans (hb26.mono hB.out.size))
    clear hb26
    have k39 : w25.cell? ⟨w13.heap.size, 0, none⟩ = some (.string R0) := X23.out.cell 0 rfl
    have k40 : w25.cell? ⟨w13.heap.size, 1, none⟩ = some (.slice axuy R1.length cxuy) := X23.out.cell 1 rfl
    have k41 : w25.cell? ⟨w13.heap.size, 2, none⟩ = some (.slice axry R2.length cxry) := X23.out.cell 2 rfl
    have M37 := hide (markX (t := R0) P17.out (by have q0 := z6.out; have q1 := z12.out; have q2 := e10.out; have q3 := z18.out; have q4 := z24.out; have q5 := e22.out; have q6 := z34.out; omega) BQ1.out BQ2.out 1 ⟨by omega, by omega⟩)
    have em0 : decide (((1 + mkN R1 + mkN R2 : Nat) : Int) < 0) = false := by rw [decide_eq_false_iff_not]; omega
    obtain ⟨KM, hKM⟩ : ∃ KM : Int, ((1 + mkN R1 + mkN R2 : Nat) : Int) = KM := ⟨_, rfl⟩
    rw [hKM] at em0 M37
    have HKM := hide hKM
    clear hKM
    have em1 : (KM != KM) = false := by simp
    go_wp2_with fail
    refine (M37.out).mono ?_
    rintro e w35 ⟨rfl, ho36, mk38⟩
    clear M37 k39 k40 k41
    clear P17
    replace X11 := hide (X11.out.outI ho36 (by have q0 := z6.out; have q1 := z12.out; have q2 := e10.out; have q3 := z18.out; have q4 := z24.out; have q5 := e22.out; have q6 := z34.out; omega))
    replace X23 := hide (X23.out.outI ho36 (by have q0 := z6.out; have q1 := z12.out; have q2 := e10.out; have q3 := z18.out; have q4 := z24.out; have q5 := e22.out; have q6 := z34.out; omega))
    replace P5 := hide (P5.out.out ho36 (by have q0 := z6.out; have q1 := z12.out; have q2 := e10.out; have q3 := z18.out; have q4 := z24.out; have q5 := e22.out; have q6 := z34.out; omega))
    have z42 := hide ho36.size
    replace hB := hide (hB.out.trans (ho36.to (fun k hk => by have u0 := hk.1; have q0 := z6.out; have q1 := z12.out; have q2 := e10.out; have q3 := z18.out; have q4 := z24.out; have q5 := e22.out; have q6 := z34.out; omega) hB.out.size))
    clear ho36
    have Y43 := hide mk38
    clear mk38
    have k47 : w35.cell? ⟨w13.heap.size, 0, none⟩ = some (.string R0) := X23.out.cell 0 rfl
    have k48 : w35.cell? ⟨w13.heap.size, 1, none⟩ = some (.slice axuy R1.length cxuy) := X23.out.cell 1 rfl
    have k49 : w35.cell? ⟨w13.heap.size, 2, none⟩ = some (.slice axry R2.length cxry) := X23.out.cell 2 rfl
    have D46 := hide (heldX (t := R0) Y43.out BQ1.out BQ2.out ⟨by omega, by omega⟩)
    rw [HKM.out] at D46
    go_wp2_with fail
    refine (D46.out).mono ?_
    rintro e w44 ⟨rfl, hb45⟩
    clear D46 k47 k48 k49
    replace X11 := hide (X11.out.later hb45)
    replace X23 := hide (X23.out.later hb45)
    replace P5 := hide (P5.out.later hb45)
    replace Y43 := hide (Y43.out.later hb45)
    have z50 := hide hb45.size
    replace hB := hide (hB.out.trans (hb45.mono hB.out.size))
    clear hb45
    have H53 := hide (HI.out w44 (HTb.out.below hB.out))
    go_wp2_with fail
    refine (H53.out).mono ?_
    rintro e w51 ⟨xuz, xrz, rfl, hx54, hb52⟩
    clear H53
    obtain ⟨axuz, cxuz, axrz, cxrz, rfl, rfl⟩ := hx54.shp
    have P55 := hide hx54
    clear hx54
    replace X11 := hide (X11.out.later hb52)
    replace X23 := hide (X23.out.later hb52)
    replace P5 := hide (P5.out.later hb52)
    replace Y43 := hide (Y43.out.later hb52)
    have z56 := hide hb52.size
    replace hB := hide (hB.out.trans (hb52.mono hB.out.size))
    clear hb52
    obtain ⟨w57, hw58⟩ : ∃ wq0, wq0 = w51.alloc (.cells #[.string R0, .slice axuz R1.length cxuz, .slice axrz R2.length cxrz] 24) := ⟨_, rfl⟩
    have hb59 : Below w51.heap.size w51 w57 := by rw [hw58]; exact (Below.refl _ _).alloc (Nat.le_refl _) _
    have e60 : Hid (w57.heap.size = w51.heap.size + 1) := hide (by rw [hw58]; simp)
    have X61 : Hid (CB w57 w51.heap.size #[.string R0, .slice axuz R1.length cxuz, .slice axrz R2.length cxrz]) := hide (by rw [hw58]; exact CB.new _ _ _)
    replace X11 := hide (X11.out.later hb59)
    replace X23 := hide (X23.out.later hb59)
    replace P5 := hide (P5.out.later hb59)
    replace P55 := hide (P55.out.later hb59)
    replace Y43 := hide (Y43.out.later hb59)
    have z62 := hide hb59.size
    replace hB := hide (hB.out.trans (hb59.mono hB.out.size))
    clear hb59
    have k66 : w57.cell? ⟨w51.heap.size, 0, none⟩ = some (.string R0) := X61.out.cell 0 rfl
    rw [hw58] at k66
    have k67 : w57.cell? ⟨w51.heap.size, 1, none⟩ = some (.slice axuz R1.length cxuz) := X61.out.cell 1 rfl
    rw [hw58] at k67
    have k68 : w57.cell? ⟨w51.heap.size, 2, none⟩ = some (.slice axrz R2.length cxrz) := X61.out.cell 2 rfl
    rw [hw58] at k68
    have k69 : w57.cell? ⟨w1.heap.size, 0, none⟩ = some (.string R0) := X11.out.cell 0 rfl
    rw [hw58] at k69
    have k70 : w57.cell? ⟨w1.heap.size, 1, none⟩ = some (.slice axux R1.length cxux) := X11.out.cell 1 rfl
    rw [hw58] at k70
    have k71 : w57.cell? ⟨w1.heap.size, 2, none⟩ = some (.slice axrx R2.length cxrx) := X11.out.cell 2 rfl
    rw [hw58] at k71
    have E65 := hide (eqX (t := R0) P55.out P5.out BQ1.out BQ2.out)
    go_wp2_with fail
    rw [← hw58]
    clear hw58
    refine (E65.out).mono ?_
    rintro e w63 ⟨rfl, hb64⟩
    clear E65 k66 k67 k68 k69 k70 k71
    replace X11 := hide (X11.out.later hb64)
    replace X23 := hide (X23.out.later hb64)
    replace X61 := hide (X61.out.later hb64)
    replace P5 := hide (P5.out.later hb64)
    replace P55 := hide (P55.out.later hb64)
    replace Y43 := hide (Y43.out.later hb64)
    have z72 := hide hb64.size
    replace hB := hide (hB.out.trans (hb64.mono hB.out.size))
    clear hb64
    have k76 : w63.cell? ⟨w13.heap.size, 0, none⟩ = some (.string R0) := X23.out.cell 0 rfl
    have k77 : w63.cell? ⟨w13.heap.size, 1, none⟩ = some (.slice axuy R1.length cxuy) := X23.out.cell 1 rfl
    have k78 : w63.cell? ⟨w13.heap.size, 2, none⟩ = some (.slice axry R2.length cxry) := X23.out.cell 2 rfl
    have D75 := hide (heldX (t := R0) Y43.out BQ1.out BQ2.out ⟨by omega, by omega⟩)
    rw [HKM.out] at D75
    go_wp2_with fail
    refine (D75.out).mono ?_
    rintro e w73 ⟨rfl, hb74⟩
    clear D75 k76 k77 k78
    replace X11 := hide (X11.out.later hb74)
    replace X23 := hide (X23.out.later hb74)
    replace X61 := hide (X61.out.later hb74)
    replace P5 := hide (P5.out.later hb74)
    replace P55 := hide (P55.out.later hb74)
    replace Y43 := hide (Y43.out.later hb74)
    have z79 := hide hb74.size
    replace hB := hide (hB.out.trans (hb74.mono hB.out.size))
    clear hb74
    go_wp2
    go_ret
    exact ⟨rfl, hB.out⟩
  · go_enter Tryd.func3, Tryd.ntmps3
    go_wp2
    go_ret
    exact ⟨rfl, Below.refl _ _⟩
end Go.Proofs.YtpeconmdmddkfaaDoor
