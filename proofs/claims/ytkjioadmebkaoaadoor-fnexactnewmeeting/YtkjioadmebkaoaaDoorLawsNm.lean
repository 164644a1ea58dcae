/- The walk of the exact law of NewMeeting. -/
import Derived.Test.YtkjioadmebkaoaaDoorMt3
set_option linter.unusedVariables false
namespace Go.Proofs.YtkjioadmebkaoaaDoor
open Go.RowKit
open Doc1

theorem nmN_le (c : Int) (s : ByteArray) : nmN c s ≤ 4 := by
  unfold nmN nmB
  cases hg : good s.data.toList <;> simp
  by_cases h : 1 ≤ c ∧ c ≤ 4
  · rw [if_pos h]; omega
  · rw [if_neg h]; omega

set_option maxRecDepth 100000 in
set_option maxHeartbeats 8000000 in
theorem law_newMeeting (c : Int) (s : ByteArray) (w : World) (hms : s.size ≤ maxLen) (hT : Tab w) :
    Calls Tryd.prog 7 #[.int .i64 c, .string s] w fun e w' => e = .returned (.bool true) ∧ Below w.heap.size w w' := by
  unfold maxLen at hms
  by_cases fss : s.size ≤ 1048576
  · skip
    have HTb := hide hT
    have hB := hide (Below.refl w.heap.size w)
    clear hT
    have HS := hide (fun w' (hT : Tab w') => newMeetingS c s w' fss)
    have HI := hide (fun w' (hT : Tab w') => newMeetingI c s w' fss hT)
    obtain ⟨R0, hR0⟩ : ∃ R, nmT c s = R := ⟨_, rfl⟩
    obtain ⟨R1, hR1⟩ : ∃ R, nmN c s = R := ⟨_, rfl⟩
    obtain ⟨R2, hR2⟩ : ∃ R, nmB c s = R := ⟨_, rfl⟩
    simp only [hR0, hR1, hR2] at HS HI
    have BQ : Hid (R1 ≤ 1000) := hide (by rw [← hR1]; exact (by have := nmN_le c s; omega))
    have hKb : 6 * R1 ≤ 100000000 := by rw [← hR1]; exact (by have := nmN_le c s; omega)
    clear hR0 hR1 hR2
    go_enter Tryd.func7, Tryd.ntmps7
    have H3 := hide (HS.out w (HTb.out.below hB.out))
    go_wp2_with fail
    refine (H3.out).mono ?_
    rintro e w1 ⟨bxx, bcx, axux, cxux, rfl, hx4, hb2⟩
    clear H3
    have P5 := hide hx4
    clear hx4
    have z6 := hide hb2.size
    replace hB := hide (hB.out.trans (hb2.mono hB.out.size))
    clear hb2
    obtain ⟨w7, hw8⟩ : ∃ wq0, wq0 = w1.alloc (.cells #[.string R0, .string R0, .slice bxx 0 bcx, .slice axux R1 cxux] 82) := ⟨_, rfl⟩
    have hb9 : Below w1.heap.size w1 w7 := by rw [hw8]; exact (Below.refl _ _).alloc (Nat.le_refl _) _
    have e10 : Hid (w7.heap.size = w1.heap.size + 1) := hide (by rw [hw8]; simp)
    have X11 : Hid (CB w7 w1.heap.size #[.string R0, .string R0, .slice bxx 0 bcx, .slice axux R1 cxux]) := hide (by rw [hw8]; exact CB.new _ _ _)
    replace P5 := hide (P5.out.later hb9)
    have z12 := hide hb9.size
    replace hB := hide (hB.out.trans (hb9.mono hB.out.size))
    clear hb9
    have H15 := hide (HI.out w7 (HTb.out.below hB.out))
    go_wp2_with fail
    rw [← hw8]
    clear hw8
    refine (H15.out).mono ?_
    rintro e w13 ⟨bxy, bcy, axuy, cxuy, rfl, hx16, hb14⟩
    clear H15
    have P17 := hide hx16
    clear hx16
    replace X11 := hide (X11.out.later hb14)
    replace P5 := hide (P5.out.later hb14)
    have z18 := hide hb14.size
    replace hB := hide (hB.out.trans (hb14.mono hB.out.size))
    clear hb14
    obtain ⟨w19, hw20⟩ : ∃ wq0, wq0 = w13.alloc (.cells #[.string R0, .string R0, .slice bxy 0 bcy, .slice axuy R1 cxuy] 82) := ⟨_, rfl⟩
    have hb21 : Below w13.heap.size w13 w19 := by rw [hw20]; exact (Below.refl _ _).alloc (Nat.le_refl _) _
    have e22 : Hid (w19.heap.size = w13.heap.size + 1) := hide (by rw [hw20]; simp)
    have X23 : Hid (CB w19 w13.heap.size #[.string R0, .string R0, .slice bxy 0 bcy, .slice axuy R1 cxuy]) := hide (by rw [hw20]; exact CB.new _ _ _)
    replace X11 := hide (X11.out.later hb21)
    replace P5 := hide (P5.out.later hb21)
    replace P17 := hide (P17.out.later hb21)
    have z24 := hide hb21.size
    replace hB := hide (hB.out.trans (hb21.mono hB.out.size))
    clear hb21
    have k28 : w19.cell? ⟨w13.heap.size, 0, none⟩ = some (.string R0) := X23.out.cell 0 rfl
    rw [hw20] at k28
    have k29 : w19.cell? ⟨w13.heap.size, 1, none⟩ = some (.string R0) := X23.out.cell 1 rfl
    rw [hw20] at k29
    have k30 : w19.cell? ⟨w13.heap.size, 2, none⟩ = some (.slice bxy 0 bcy) := X23.out.cell 2 rfl
    rw [hw20] at k30
    have k31 : w19.cell? ⟨w13.heap.size, 3, none⟩ = some (.slice axuy R1 cxuy) := X23.out.cell 3 rfl
    rw [hw20] at k31
    have k32 : w19.cell? ⟨w1.heap.size, 0, none⟩ = some (.string R0) := X11.out.cell 0 rfl
    rw [hw20] at k32
    have k33 : w19.cell? ⟨w1.heap.size, 1, none⟩ = some (.string R0) := X11.out.cell 1 rfl
    rw [hw20] at k33
    have k34 : w19.cell? ⟨w1.heap.size, 2, none⟩ = some (.slice bxx 0 bcx) := X11.out.cell 2 rfl
    rw [hw20] at k34
    have k35 : w19.cell? ⟨w1.heap.size, 3, none⟩ = some (.slice axux R1 cxux) := X11.out.cell 3 rfl
    rw [hw20] at k35
    have E27 := hide (eqMt (t := R0) (ax := bxy) (cx := bcy) (ay := bxx) (cy := bcx) P17.out P5.out BQ.out)
    go_wp2_with fail
    rw [← hw20]
    clear hw20
    refine (E27.out).mono ?_
    rintro e w25 ⟨rfl, hb26⟩
    clear E27 k28 k29 k30 k31 k32 k33 k34 k35
    replace X11 := hide (X11.out.later hb26)
    replace X23 := hide (X23.out.later hb26)
    replace P5 := hide (P5.out.later hb26)
    replace P17 := hide (P17.out.later hb26)
    have z36 := hide hb26.size
    replace hB := hide (hB.out.trans (hb26.mono hB.out.size))
    clear hb26
    have k41 : w25.cell? ⟨w13.heap.size, 0, none⟩ = some (.string R0) := X23.out.cell 0 rfl
    have k42 : w25.cell? ⟨w13.heap.size, 1, none⟩ = some (.string R0) := X23.out.cell 1 rfl
    have k43 : w25.cell? ⟨w13.heap.size, 2, none⟩ = some (.slice bxy 0 bcy) := X23.out.cell 2 rfl
    have k44 : w25.cell? ⟨w13.heap.size, 3, none⟩ = some (.slice axuy R1 cxuy) := X23.out.cell 3 rfl
    have M39 := hide (markMt (t := R0) (ax := bxy) (cx := bcy) P17.out (by have q0 := z6.out; have q1 := z12.out; have q2 := e10.out; have q3 := z18.out; have q4 := z24.out; have q5 := e22.out; have q6 := z36.out; omega) BQ.out 1 ⟨by omega, by omega⟩)
    have em0 : decide (((1 + 6 * R1 : Nat) : Int) < 0) = false := by rw [decide_eq_false_iff_not]; omega
    obtain ⟨KM, hKM⟩ : ∃ KM : Int, ((1 + 6 * R1 : Nat) : Int) = KM := ⟨_, rfl⟩
    rw [hKM] at em0 M39
    have HKM := hide hKM
    clear hKM
    have em1 : (KM != KM) = false := by simp
    go_wp2_with fail
    refine (M39.out).mono ?_
    rintro e w37 ⟨rfl, ho38, mk40⟩
    clear M39 k41 k42 k43 k44
    clear P17
    replace X11 := hide (X11.out.outI ho38 (by have q0 := z6.out; have q1 := z12.out; have q2 := e10.out; have q3 := z18.out; have q4 := z24.out; have q5 := e22.out; have q6 := z36.out; omega))
    replace X23 := hide (X23.out.outI ho38 (by have q0 := z6.out; have q1 := z12.out; have q2 := e10.out; have q3 := z18.out; have q4 := z24.out; have q5 := e22.out; have q6 := z36.out; omega))
    replace P5 := hide (P5.out.out ho38 (by have q0 := z6.out; have q1 := z12.out; have q2 := e10.out; have q3 := z18.out; have q4 := z24.out; have q5 := e22.out; have q6 := z36.out; omega))
    have z45 := hide ho38.size
    replace hB := hide (hB.out.trans (ho38.to (fun k hk => by have u0 := hk.1; have q0 := z6.out; have q1 := z12.out; have q2 := e10.out; have q3 := z18.out; have q4 := z24.out; have q5 := e22.out; have q6 := z36.out; omega) hB.out.size))
    clear ho38
    have Y46 := hide mk40
    clear mk40
    have k50 : w37.cell? ⟨w13.heap.size, 0, none⟩ = some (.string R0) := X23.out.cell 0 rfl
    have k51 : w37.cell? ⟨w13.heap.size, 1, none⟩ = some (.string R0) := X23.out.cell 1 rfl
    have k52 : w37.cell? ⟨w13.heap.size, 2, none⟩ = some (.slice bxy 0 bcy) := X23.out.cell 2 rfl
    have k53 : w37.cell? ⟨w13.heap.size, 3, none⟩ = some (.slice axuy R1 cxuy) := X23.out.cell 3 rfl
    have D49 := hide (heldMt (t := R0) (ax := bxy) (cx := bcy) Y46.out BQ.out ⟨by omega, by omega⟩)
    rw [HKM.out] at D49
    go_wp2_with fail
    refine (D49.out).mono ?_
    rintro e w47 ⟨rfl, hb48⟩
    clear D49 k50 k51 k52 k53
    replace X11 := hide (X11.out.later hb48)
    replace X23 := hide (X23.out.later hb48)
    replace P5 := hide (P5.out.later hb48)
    replace Y46 := hide (Y46.out.later hb48)
    have z54 := hide hb48.size
    replace hB := hide (hB.out.trans (hb48.mono hB.out.size))
    clear hb48
    have H57 := hide (HI.out w47 (HTb.out.below hB.out))
    go_wp2_with fail
    refine (H57.out).mono ?_
    rintro e w55 ⟨bxz, bcz, axuz, cxuz, rfl, hx58, hb56⟩
    clear H57
    have P59 := hide hx58
    clear hx58
    replace X11 := hide (X11.out.later hb56)
    replace X23 := hide (X23.out.later hb56)
    replace P5 := hide (P5.out.later hb56)
    replace Y46 := hide (Y46.out.later hb56)
    have z60 := hide hb56.size
    replace hB := hide (hB.out.trans (hb56.mono hB.out.size))
    clear hb56
    obtain ⟨w61, hw62⟩ : ∃ wq0, wq0 = w55.alloc (.cells #[.string R0, .string R0, .slice bxz 0 bcz, .slice axuz R1 cxuz] 82) := ⟨_, rfl⟩
    have hb63 : Below w55.heap.size w55 w61 := by rw [hw62]; exact (Below.refl _ _).alloc (Nat.le_refl _) _
    have e64 : Hid (w61.heap.size = w55.heap.size + 1) := hide (by rw [hw62]; simp)
    have X65 : Hid (CB w61 w55.heap.size #[.string R0, .string R0, .slice bxz 0 bcz, .slice axuz R1 cxuz]) := hide (by rw [hw62]; exact CB.new _ _ _)
    replace X11 := hide (X11.out.later hb63)
    replace X23 := hide (X23.out.later hb63)
    replace P5 := hide (P5.out.later hb63)
    replace P59 := hide (P59.out.later hb63)
    replace Y46 := hide (Y46.out.later hb63)
    have z66 := hide hb63.size
    replace hB := hide (hB.out.trans (hb63.mono hB.out.size))
    clear hb63
    have k70 : w61.cell? ⟨w55.heap.size, 0, none⟩ = some (.string R0) := X65.out.cell 0 rfl
    rw [hw62] at k70
    have k71 : w61.cell? ⟨w55.heap.size, 1, none⟩ = some (.string R0) := X65.out.cell 1 rfl
    rw [hw62] at k71
    have k72 : w61.cell? ⟨w55.heap.size, 2, none⟩ = some (.slice bxz 0 bcz) := X65.out.cell 2 rfl
    rw [hw62] at k72
    have k73 : w61.cell? ⟨w55.heap.size, 3, none⟩ = some (.slice axuz R1 cxuz) := X65.out.cell 3 rfl
    rw [hw62] at k73
    have k74 : w61.cell? ⟨w1.heap.size, 0, none⟩ = some (.string R0) := X11.out.cell 0 rfl
    rw [hw62] at k74
    have k75 : w61.cell? ⟨w1.heap.size, 1, none⟩ = some (.string R0) := X11.out.cell 1 rfl
    rw [hw62] at k75
    have k76 : w61.cell? ⟨w1.heap.size, 2, none⟩ = some (.slice bxx 0 bcx) := X11.out.cell 2 rfl
    rw [hw62] at k76
    have k77 : w61.cell? ⟨w1.heap.size, 3, none⟩ = some (.slice axux R1 cxux) := X11.out.cell 3 rfl
    rw [hw62] at k77
    have E69 := hide (eqMt (t := R0) (ax := bxz) (cx := bcz) (ay := bxx) (cy := bcx) P59.out P5.out BQ.out)
    go_wp2_with fail
    rw [← hw62]
    clear hw62
    refine (E69.out).mono ?_
    rintro e w67 ⟨rfl, hb68⟩
    clear E69 k70 k71 k72 k73 k74 k75 k76 k77
    replace X11 := hide (X11.out.later hb68)
    replace X23 := hide (X23.out.later hb68)
    replace X65 := hide (X65.out.later hb68)
    replace P5 := hide (P5.out.later hb68)
    replace P59 := hide (P59.out.later hb68)
    replace Y46 := hide (Y46.out.later hb68)
    have z78 := hide hb68.size
    replace hB := hide (hB.out.trans (hb68.mono hB.out.size))
    clear hb68
    have k82 : w67.cell? ⟨w13.heap.size, 0, none⟩ = some (.string R0) := X23.out.cell 0 rfl
    have k83 : w67.cell? ⟨w13.heap.size, 1, none⟩ = some (.string R0) := X23.out.cell 1 rfl
    have k84 : w67.cell? ⟨w13.heap.size, 2, none⟩ = some (.slice bxy 0 bcy) := X23.out.cell 2 rfl
    have k85 : w67.cell? ⟨w13.heap.size, 3, none⟩ = some (.slice axuy R1 cxuy) := X23.out.cell 3 rfl
    have D81 := hide (heldMt (t := R0) (ax := bxy) (cx := bcy) Y46.out BQ.out ⟨by omega, by omega⟩)
    rw [HKM.out] at D81
    go_wp2_with fail
    refine (D81.out).mono ?_
    rintro e w79 ⟨rfl, hb80⟩
    clear D81 k82 k83 k84 k85
    replace X11 := hide (X11.out.later hb80)
    replace X23 := hide (X23.out.later hb80)
    replace X65 := hide (X65.out.later hb80)
    replace P5 := hide (P5.out.later hb80)
    replace P59 := hide (P59.out.later hb80)
    replace Y46 := hide (Y46.out.later hb80)
    have z86 := hide hb80.size
    replace hB := hide (hB.out.trans (hb80.mono hB.out.size))
    clear hb80
    go_wp2
    go_ret
    exact ⟨rfl, hB.out⟩
  · go_enter Tryd.func7, Tryd.ntmps7
    go_wp2
    go_ret
    exact ⟨rfl, Below.refl _ _⟩
end Go.Proofs.YtkjioadmebkaoaaDoor
