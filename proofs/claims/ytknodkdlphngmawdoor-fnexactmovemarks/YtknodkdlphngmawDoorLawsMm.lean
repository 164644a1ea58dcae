/- The law of MoveMarks: whatever the change and the marks, it answers true and turns nothing old. -/
import Derived.Test.YtknodkdlphngmawDoorMmSM
import Derived.Test.YtknodkdlphngmawDoorMmW1
import Derived.Test.YtknodkdlphngmawDoorMarkW3
import Derived.Test.YtknodkdlphngmawDoorMkChain
import Derived.Test.YtknodkdlphngmawDoorLawsO1
namespace Go.Proofs.YtknodkdlphngmawDoor
open Go.RowKit
open Doc1

theorem rsT_len (ok : Bool) (L : List Mk) : (RsT ok L).length ≤ 10000000 := by
  unfold RsT; split
  · rename_i h; have := h.2; omega
  · simp
theorem mm_both (op : List Pt) (l : List Mk) (hf : szPn op ≤ 1048576) (hf2 : szMrn l ≤ 1048576 - szPn op) (_hrp : ∀ i (hi : i < op.length), (op[i].put.size ≤ 9223372036854775807 ∧ op[i].drop.size ≤ 9223372036854775807) ∧ -9223372036854775808 ≤ op[i].keep ∧ op[i].keep ≤ 9223372036854775807) (_hrm : ∀ i (hi : i < l.length), (l[i].style.size ≤ 9223372036854775807) ∧ -9223372036854775808 ≤ l[i].frm ∧ l[i].frm ≤ 9223372036854775807 ∧ -9223372036854775808 ≤ l[i].to ∧ l[i].to ≤ 9223372036854775807) :
    ∃ (T : List Mk) (b : Bool), T.length ≤ 10000000 ∧ (∀ (w : World) (g g2 : Nat), PCp w g op → MrCp w g2 l → Calls Tryd.prog 14 #[.slice (some ⟨g, 0, none⟩) op.length op.length, .slice (some ⟨g2, 0, none⟩) l.length l.length] w fun e w' => ∃ v, e = .returned (.tuple #[v, .bool b]) ∧ MrOwn w' w.heap.size v T ∧ Below w.heap.size w w') ∧
      (∀ (w : World) (g g2 : Nat), Tab w → PCp w g op → MrCp w g2 l → Calls Tryd.prog 16 #[.slice (some ⟨g, 0, none⟩) op.length op.length, .slice (some ⟨g2, 0, none⟩) l.length l.length] w fun e w' => ∃ v, e = .returned (.tuple #[v, .bool b]) ∧ MrOwn w' w.heap.size v T ∧ Below w.heap.size w w') :=
  ⟨RsT (mmOk op l) (mmL op l), RsB (mmOk op l) (mmL op l), rsT_len _ _, fun _ _ _ h h2 => mmS (h.pin hf) (h2.mrIn (by omega)), fun _ _ _ hT h h2 => mmI (h.pin hf) (h2.mrIn (by omega)) hT (fun _ size h1 => goodMarksI size h1)⟩

set_option maxRecDepth 100000 in
set_option maxHeartbeats 4000000 in
theorem law_moveMarks (vop : Value) (op : List Pt) (vl : Value) (l : List Mk) (w : World) (haop : ArgP w vop op) (hrop : (∀ i (hi : i < op.length), (op[i].put.size ≤ 9223372036854775807 ∧ op[i].drop.size ≤ 9223372036854775807) ∧ -9223372036854775808 ≤ op[i].keep ∧ op[i].keep ≤ 9223372036854775807)) (hal : ArgMr w vl l) (hrl : (∀ i (hi : i < l.length), (l[i].style.size ≤ 9223372036854775807) ∧ -9223372036854775808 ≤ l[i].frm ∧ l[i].frm ≤ 9223372036854775807 ∧ -9223372036854775808 ≤ l[i].to ∧ l[i].to ≤ 9223372036854775807)) (hT : Tab w) :
    Calls Tryd.prog 5 #[vop, vl] w fun e w' => e = .returned (.bool true) ∧ Below w.heap.size w w' := by
  have hlop := argP_len haop
  by_cases fsop : szPn op ≤ 1048576
  · skip
    have hll := argMr_len hal
    by_cases fsl : szMrn l ≤ 1048576 - szPn op
    · skip
      obtain ⟨T0, T1, len0, HS, HI⟩ := mm_both op l fsop fsl hrop hrl
      replace HS := hide HS
      replace HI := hide HI
      have hrSop := fun i hi => (hrop i hi).1
      have Zop := hide (fun w' (h : ArgP w' vop op) (lf : Nat) (hlf : lf ≤ 1048576) => szP_from h hrSop hlop lf hlf)
      have Cop : Hid (∀ w', ArgP w' vop op → Calls Tryd.prog 8 #[vop] w' fun e w'' => e = .returned (.slice (some ⟨w'.heap.size, 0, none⟩) op.length op.length) ∧ PCp w'' w'.heap.size op ∧ Below w'.heap.size w' w'') := hide (fun w' h => toP_cp h (by have := fsop; unfold szPn at this; omega))
      have HAop := hide haop
      have hbop : op.length ≤ 1048576 := by have := fsop; unfold szPn at this; omega
      clear haop hrop hrSop
      have hrSl := fun i hi => (hrl i hi).1
      have Zl := hide (fun w' (h : ArgMr w' vl l) (lf : Nat) (hlf : lf ≤ 1048576) => szMr_from h hrSl hll lf hlf)
      have Cl : Hid (∀ w', ArgMr w' vl l → Calls Tryd.prog 15 #[vl] w' fun e w'' => e = .returned (.slice (some ⟨w'.heap.size, 0, none⟩) l.length l.length) ∧ MrCp w'' w'.heap.size l ∧ Below w'.heap.size w' w'') := hide (fun w' h => toMr_cp h (by have := fsl; unfold szMrn at this; omega))
      have HAl := hide hal
      have hbl : l.length ≤ 1048576 := by have := fsl; unfold szMrn at this; omega
      clear hal hrl hrSl
      have hB := Below.refl w.heap.size w
      go_enter Tryd.func5, Tryd.ntmps5
      have Yop := hide (Zop.out w (HAop.out.later hB) (1048576) (by omega))
      go_wp2_with fail
      refine (Yop.out).mono ?_
      rintro e w1 ⟨rfl, hb1⟩
      rw [if_pos fsop]
      have s1 := hide hb1.size
      replace hB := hB.trans (hb1.mono hB.size)
      clear hb1
      have Yl := hide (Zl.out w1 (HAl.out.later hB) (1048576 - szPn op) (by omega))
      go_wp2_with fail
      refine (Yl.out).mono ?_
      rintro e w2 ⟨rfl, hb2⟩
      rw [if_pos fsl]
      have s2 := hide hb2.size
      replace hB := hB.trans (hb2.mono hB.size)
      clear hb2
      go_wp2_with fail
      refine (Cop.out w2 (HAop.out.later hB)).mono ?_
      rintro e w3 ⟨rfl, caop, hb3⟩
      have taop := hide caop.lt
      have s3 := hide hb3.size
      replace hB := hB.trans (hb3.mono hB.size)
      clear hb3
      go_wp2_with fail
      refine (Cl.out w3 (HAl.out.later hB)).mono ?_
      rintro e w4 ⟨rfl, cal, hb4⟩
      have tal := hide cal.lt
      replace caop := caop.later hb4
      have s4 := hide hb4.size
      replace hB := hB.trans (hb4.mono hB.size)
      clear hb4
      go_wp2_with fail
      refine (HS.out w4 w2.heap.size w3.heap.size caop cal).mono ?_
      rintro e w5 ⟨x0, rfl, ox0, hb5⟩
      have lx0 := hide ox0.lt
      replace caop := caop.later hb5
      replace cal := cal.later hb5
      have s5 := hide hb5.size
      replace hB := hB.trans (hb5.mono hB.size)
      clear hb5
      clear caop cal
      go_wp2_with fail
      refine (Cop.out w5 (HAop.out.later hB)).mono ?_
      rintro e w6 ⟨rfl, cbop, hb6⟩
      have tbop := hide cbop.lt
      replace ox0 := own_below ox0 hb6
      have s6 := hide hb6.size
      replace hB := hB.trans (hb6.mono hB.size)
      clear hb6
      go_wp2_with fail
      refine (Cl.out w6 (HAl.out.later hB)).mono ?_
      rintro e w7 ⟨rfl, cbl, hb7⟩
      have tbl := hide cbl.lt
      replace ox0 := own_below ox0 hb7
      replace cbop := cbop.later hb7
      have s7 := hide hb7.size
      replace hB := hB.trans (hb7.mono hB.size)
      clear hb7
      go_wp2_with fail
      refine (HI.out w7 w5.heap.size w6.heap.size (hT.below hB) cbop cbl).mono ?_
      rintro e w8 ⟨y0, rfl, oy0, hb8⟩
      have ly0 := hide oy0.lt
      replace ox0 := own_below ox0 hb8
      replace cbop := cbop.later hb8
      replace cbl := cbl.later hb8
      have s8 := hide hb8.size
      replace hB := hB.trans (hb8.mono hB.size)
      clear hb8
      go_wp2_with fail
      refine (eqMr_own oy0 ox0 (by omega)).mono ?_
      rintro e w9 ⟨rfl, hb9⟩
      replace ox0 := own_below ox0 hb9
      replace cbop := cbop.later hb9
      replace cbl := cbl.later hb9
      replace oy0 := own_below oy0 hb9
      have s9 := hide hb9.size
      replace hB := hB.trans (hb9.mono hB.size)
      clear hb9
      go_wp2_with fail
      refine (Cop.out w9 (HAop.out.later hB)).mono ?_
      rintro e w10 ⟨rfl, ccop, hb10⟩
      replace ox0 := own_below ox0 hb10
      replace cbop := cbop.later hb10
      replace cbl := cbl.later hb10
      replace oy0 := own_below oy0 hb10
      have s10 := hide hb10.size
      replace hB := hB.trans (hb10.mono hB.size)
      clear hb10
      go_wp2_with fail
      refine (eqP_cp cbop ccop (by omega)).mono ?_
      rintro e w11 ⟨rfl, hb11⟩
      clear ccop
      replace ox0 := own_below ox0 hb11
      replace cbop := cbop.later hb11
      replace cbl := cbl.later hb11
      replace oy0 := own_below oy0 hb11
      have s11 := hide hb11.size
      replace hB := hB.trans (hb11.mono hB.size)
      clear hb11
      go_wp2_with fail
      refine (Cl.out w11 (HAl.out.later hB)).mono ?_
      rintro e w12 ⟨rfl, ccl, hb12⟩
      replace ox0 := own_below ox0 hb12
      replace cbop := cbop.later hb12
      replace cbl := cbl.later hb12
      replace oy0 := own_below oy0 hb12
      have s12 := hide hb12.size
      replace hB := hB.trans (hb12.mono hB.size)
      clear hb12
      go_wp2_with fail
      refine (eqMr_cp cbl ccl (by omega)).mono ?_
      rintro e w13 ⟨rfl, hb13⟩
      clear ccl
      replace ox0 := own_below ox0 hb13
      replace cbop := cbop.later hb13
      replace cbl := cbl.later hb13
      replace oy0 := own_below oy0 hb13
      have s13 := hide hb13.size
      replace hB := hB.trans (hb13.mono hB.size)
      clear hb13
      go_wp2_with fail
      refine (markP_cp cbop (by omega)).mono ?_
      rintro e w14 ⟨rfl, hb14⟩
      clear cbop
      replace ox0 := own_grown ox0 hb14 (fun b hb' e => by have q0 := s1.out; have q1 := s2.out; have q2 := s3.out; have q3 := taop.out; have q4 := s4.out; have q5 := tal.out; have q6 := s5.out; have q7 := s6.out; have q8 := tbop.out; have q9 := s7.out; have q10 := tbl.out; have q11 := s8.out; have q12 := s9.out; have q13 := s10.out; have q14 := s11.out; have q15 := s12.out; have q16 := s13.out; have u1 := Option.some.inj e; have u0 := lx0.out b hb'; omega)
      replace cbl := cbl.grown hb14 (fun e => by have q0 := s1.out; have q1 := s2.out; have q2 := s3.out; have q3 := taop.out; have q4 := s4.out; have q5 := tal.out; have q6 := s5.out; have q7 := s6.out; have q8 := tbop.out; have q9 := s7.out; have q10 := tbl.out; have q11 := s8.out; have q12 := s9.out; have q13 := s10.out; have q14 := s11.out; have q15 := s12.out; have q16 := s13.out; omega)
      replace oy0 := own_grown oy0 hb14 (fun b hb' e => by have q0 := s1.out; have q1 := s2.out; have q2 := s3.out; have q3 := taop.out; have q4 := s4.out; have q5 := tal.out; have q6 := s5.out; have q7 := s6.out; have q8 := tbop.out; have q9 := s7.out; have q10 := tbl.out; have q11 := s8.out; have q12 := s9.out; have q13 := s10.out; have q14 := s11.out; have q15 := s12.out; have q16 := s13.out; have u1 := Option.some.inj e; have u0 := ly0.out b hb'; omega)
      have s14 := hide hb14.size
      replace hB := hB.grown hb14 hB.size (fun b e => by have q0 := s1.out; have q1 := s2.out; have q2 := s3.out; have q3 := taop.out; have q4 := s4.out; have q5 := tal.out; have q6 := s5.out; have q7 := s6.out; have q8 := tbop.out; have q9 := s7.out; have q10 := tbl.out; have q11 := s8.out; have q12 := s9.out; have q13 := s10.out; have q14 := s11.out; have q15 := s12.out; have q16 := s13.out; have u1 := Option.some.inj e; omega)
      clear hb14
      go_wp2_with fail
      refine (markMr_on cbl (by omega) (1 + op.length * 3) (by omega) (by omega)).mono ?_
      rintro e w15 ⟨rfl, hb15⟩
      clear cbl
      replace ox0 := own_grown ox0 hb15 (fun b hb' e => by have q0 := s1.out; have q1 := s2.out; have q2 := s3.out; have q3 := taop.out; have q4 := s4.out; have q5 := tal.out; have q6 := s5.out; have q7 := s6.out; have q8 := tbop.out; have q9 := s7.out; have q10 := tbl.out; have q11 := s8.out; have q12 := s9.out; have q13 := s10.out; have q14 := s11.out; have q15 := s12.out; have q16 := s13.out; have q17 := s14.out; have u1 := Option.some.inj e; have u0 := lx0.out b hb'; omega)
      replace oy0 := own_grown oy0 hb15 (fun b hb' e => by have q0 := s1.out; have q1 := s2.out; have q2 := s3.out; have q3 := taop.out; have q4 := s4.out; have q5 := tal.out; have q6 := s5.out; have q7 := s6.out; have q8 := tbop.out; have q9 := s7.out; have q10 := tbl.out; have q11 := s8.out; have q12 := s9.out; have q13 := s10.out; have q14 := s11.out; have q15 := s12.out; have q16 := s13.out; have q17 := s14.out; have u1 := Option.some.inj e; have u0 := ly0.out b hb'; omega)
      have s15 := hide hb15.size
      replace hB := hB.grown hb15 hB.size (fun b e => by have q0 := s1.out; have q1 := s2.out; have q2 := s3.out; have q3 := taop.out; have q4 := s4.out; have q5 := tal.out; have q6 := s5.out; have q7 := s6.out; have q8 := tbop.out; have q9 := s7.out; have q10 := tbl.out; have q11 := s8.out; have q12 := s9.out; have q13 := s10.out; have q14 := s11.out; have q15 := s12.out; have q16 := s13.out; have q17 := s14.out; have u1 := Option.some.inj e; omega)
      clear hb15
      go_wp2_with fail
      refine (eqMr_own oy0 ox0 (by omega)).mono ?_
      rintro e w16 ⟨rfl, hb16⟩
      replace ox0 := own_below ox0 hb16
      replace oy0 := own_below oy0 hb16
      have s16 := hide hb16.size
      replace hB := hB.trans (hb16.mono hB.size)
      clear hb16
      go_wp2_with fail
      refine (markMr_own oy0 (by omega)).mono ?_
      rintro e w17 ⟨rfl, hb17, m0⟩
      clear oy0
      replace ox0 := own_grown ox0 hb17 (fun b hb' e => by have q0 := s1.out; have q1 := s2.out; have q2 := s3.out; have q3 := taop.out; have q4 := s4.out; have q5 := tal.out; have q6 := s5.out; have q7 := s6.out; have q8 := tbop.out; have q9 := s7.out; have q10 := tbl.out; have q11 := s8.out; have q12 := s9.out; have q13 := s10.out; have q14 := s11.out; have q15 := s12.out; have q16 := s13.out; have q17 := s14.out; have q18 := s15.out; have q19 := s16.out; have u1 := ly0.out _ e; have u0 := lx0.out b hb'; omega)
      have s17 := hide hb17.size
      replace hB := hB.grown hb17 hB.size (fun b e => by have q0 := s1.out; have q1 := s2.out; have q2 := s3.out; have q3 := taop.out; have q4 := s4.out; have q5 := tal.out; have q6 := s5.out; have q7 := s6.out; have q8 := tbop.out; have q9 := s7.out; have q10 := tbl.out; have q11 := s8.out; have q12 := s9.out; have q13 := s10.out; have q14 := s11.out; have q15 := s12.out; have q16 := s13.out; have q17 := s14.out; have q18 := s15.out; have q19 := s16.out; have u1 := ly0.out _ e; omega)
      clear hb17
      go_wp2_with fail
      refine (heldMr_own m0 (by omega)).mono ?_
      rintro e w18 ⟨rfl, hb18⟩
      replace ox0 := own_below ox0 hb18
      replace m0 := m0.later hb18
      have s18 := hide hb18.size
      replace hB := hB.trans (hb18.mono hB.size)
      clear hb18
      go_wp2_with fail
      refine (Cop.out w18 (HAop.out.later hB)).mono ?_
      rintro e w19 ⟨rfl, cdop, hb19⟩
      have tdop := hide cdop.lt
      replace ox0 := own_below ox0 hb19
      replace m0 := m0.later hb19
      have s19 := hide hb19.size
      replace hB := hB.trans (hb19.mono hB.size)
      clear hb19
      go_wp2_with fail
      refine (Cl.out w19 (HAl.out.later hB)).mono ?_
      rintro e w20 ⟨rfl, cdl, hb20⟩
      have tdl := hide cdl.lt
      replace ox0 := own_below ox0 hb20
      replace m0 := m0.later hb20
      replace cdop := cdop.later hb20
      have s20 := hide hb20.size
      replace hB := hB.trans (hb20.mono hB.size)
      clear hb20
      go_wp2_with fail
      refine (HI.out w20 w18.heap.size w19.heap.size (hT.below hB) cdop cdl).mono ?_
      rintro e w21 ⟨z0, rfl, oz0, hb21⟩
      have lz0 := hide oz0.lt
      replace ox0 := own_below ox0 hb21
      replace m0 := m0.later hb21
      replace cdop := cdop.later hb21
      replace cdl := cdl.later hb21
      have s21 := hide hb21.size
      replace hB := hB.trans (hb21.mono hB.size)
      clear hb21
      clear cdop cdl
      go_wp2_with fail
      refine (eqMr_own oz0 ox0 (by omega)).mono ?_
      rintro e w22 ⟨rfl, hb22⟩
      replace ox0 := own_below ox0 hb22
      replace m0 := m0.later hb22
      replace oz0 := own_below oz0 hb22
      have s22 := hide hb22.size
      replace hB := hB.trans (hb22.mono hB.size)
      clear hb22
      clear oz0 ox0
      go_wp2_with fail
      refine (heldMr_own m0 (by omega)).mono ?_
      rintro e w23 ⟨rfl, hb23⟩
      replace m0 := m0.later hb23
      have s23 := hide hb23.size
      replace hB := hB.trans (hb23.mono hB.size)
      clear hb23
      go_wp2
      go_ret
      exact ⟨rfl, hB⟩
    · have hrSl := fun i hi => (hrl i hi).1
      have hrSop := fun i hi => (hrop i hi).1
      go_enter Tryd.func5, Tryd.ntmps5
      have Z0 := hide (szP_from haop hrSop hlop 1048576 (by omega))
      go_wp2_with fail
      refine Z0.out.mono ?_
      rintro e z0 ⟨rfl, hz0⟩
      rw [if_pos fsop]
      go_wp2_with fail
      have Z1 := hide (szMr_from (ArgMr.later hal hz0) hrSl hll (1048576 - szPn op) (by omega))
      refine Z1.out.mono ?_
      rintro e z1 ⟨rfl, hz1⟩
      replace hz1 := hz0.trans (hz1.mono hz0.size)
      rw [if_neg fsl]
      go_wp2
      go_ret
      exact ⟨rfl, hz1⟩
  · have hrSop := fun i hi => (hrop i hi).1
    go_enter Tryd.func5, Tryd.ntmps5
    have Z0 := hide (szP_from haop hrSop hlop 1048576 (by omega))
    go_wp2_with fail
    refine Z0.out.mono ?_
    rintro e z0 ⟨rfl, hz0⟩
    rw [if_neg fsop]
    go_wp2
    go_ret
    exact ⟨rfl, hz0⟩

end Go.Proofs.YtknodkdlphngmawDoor
