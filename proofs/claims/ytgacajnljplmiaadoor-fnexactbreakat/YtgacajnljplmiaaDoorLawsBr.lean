/- The law of BreakAt: whatever the words, the cuts and the width, it answers true and turns nothing old. -/
import Derived.Test.YtgacajnljplmiaaDoorLinc
import Derived.Test.YtgacajnljplmiaaDoorIntCp
import Derived.Test.YtgacajnljplmiaaDoorRwArg
set_option linter.unusedVariables false
namespace Go.Proofs.YtgacajnljplmiaaDoor
open Go.RowKit
open Doc1

theorem StCp.st {w : World} {g : Nat} {l : List ByteArray} (h : StCp w g l) (hl : l.length ≤ 1048576) : StIn w (some ⟨g, 0, none⟩) l.length l :=
  ⟨Nat.le_refl _, by unfold maxLen; omega, fun i hi => ⟨g, 0, rfl, h.lt, by rw [Nat.zero_add]; exact h.at'.stat i hi⟩⟩
theorem ICp.nu {w : World} {g : Nat} {l : List Int} (h : ICp w g l) (hl : l.length ≤ 1048576) : NuIn w (some ⟨g, 0, none⟩) l.length l :=
  ⟨Nat.le_refl _, by unfold maxLen; omega, fun i hi => ⟨g, 0, rfl, h.lt, by rw [Nat.zero_add]; exact h.at' i hi⟩⟩
theorem brL_le (l : List ByteArray) (c : List Int) (n : Int) : (brL l c n).1.length ≤ 10000000 := by
  unfold brL
  split
  · rename_i h
    have := cut_len (said_iff.1 h.1) h.2.1
    show (lnE l 0 (cutE l (c.map Int.toNat))).length ≤ _
    omega
  · simp
theorem break_both (l : List ByteArray) (c : List Int) (n : Int) (hc : c.length ≤ 1048576) (hf : szSt l ≤ 1048576) (_hr : ∀ i (hi : i < l.length), l[i].size ≤ 9223372036854775807 ∧ True) (hrc : ∀ j (hj : j < c.length), -9223372036854775808 ≤ c[j] ∧ c[j] ≤ 9223372036854775807) :
    ∃ (T : List ByteArray) (b : Bool), T.length ≤ 10000000 ∧ (∀ (w : World) (g gc : Nat), StCp w g l → ICp w gc c → Calls Tryd.prog 20 #[.slice (some ⟨g, 0, none⟩) l.length l.length, .slice (some ⟨gc, 0, none⟩) c.length c.length, .int .i64 n] w fun e w' => ∃ v, e = .returned (.tuple #[v, .bool b]) ∧ SOwn w' w.heap.size v T ∧ Below w.heap.size w w') ∧
      (∀ (w : World) (g gc : Nat), Tab w → StCp w g l → ICp w gc c → Calls Tryd.prog 22 #[.slice (some ⟨g, 0, none⟩) l.length l.length, .slice (some ⟨gc, 0, none⟩) c.length c.length, .int .i64 n] w fun e w' => ∃ v, e = .returned (.tuple #[v, .bool b]) ∧ SOwn w' w.heap.size v T ∧ Below w.heap.size w w') := by
  have hl : l.length ≤ 1048576 := by unfold szSt at hf; omega
  exact ⟨(brL l c n).1, (brL l c n).2, brL_le l c n, fun w g gc h h2 => breakS_any l c n _ _ _ _ w (h.st hl) (szSt_at hf) (h2.nu hc) hrc (by omega) (by omega), fun w g gc hT h h2 => breakI_any l c n _ _ _ _ w (h.st hl) (szSt_at hf) (h2.nu hc) hrc (by omega) hT⟩

set_option maxRecDepth 100000 in
set_option maxHeartbeats 4000000 in
theorem law_breakA (vl : Value) (l : List ByteArray) (vac : Option Addr) (vcc : Nat) (c : List Int) (n : Int) (w : World) (hal : ArgS w vl l) (hrl : (∀ i (hi : i < l.length), l[i].size ≤ 9223372036854775807 ∧ True)) (hac : ArgI w (.slice vac c.length vcc) c) (hrc : (∀ j (hj : j < c.length), -9223372036854775808 ≤ c[j] ∧ c[j] ≤ 9223372036854775807)) (hT : Tab w) :
    Calls Tryd.prog 6 #[vl, .slice vac c.length vcc, .int .i64 n] w fun e w' => e = .returned (.bool true) ∧ Below w.heap.size w w' := by
  have hlc := argI_len hac
  by_cases fsc : c.length ≤ 1048576
  · skip
    have hll := argS_len hal
    by_cases fsl : szSt l ≤ 1048576
    · skip
      obtain ⟨T0, T1, len0, HS, HI⟩ := break_both l c n fsc fsl hrl hrc
      replace HS := hide HS
      replace HI := hide HI
      have hrSl := fun i hi => (hrl i hi).1
      have Zl := hide (fun w' (h : ArgS w' vl l) (lf : Nat) (hlf : lf ≤ 1048576) => szS_from h hrSl hll lf hlf)
      have Cl : Hid (∀ w', ArgS w' vl l → Calls Tryd.prog 16 #[vl] w' fun e w'' => e = .returned (.slice (some ⟨w'.heap.size, 0, none⟩) l.length l.length) ∧ StCp w'' w'.heap.size l ∧ Below w'.heap.size w' w'') := hide (fun w' h => toS_cp h (by have := fsl; unfold szSt at this; omega))
      have HAl := hide hal
      have hbl : l.length ≤ 1048576 := by have := fsl; unfold szSt at this; omega
      clear hal hrl hrSl
      have Cc : Hid (∀ w', ArgI w' (.slice vac c.length vcc) c → Calls Tryd.prog 21 #[(.slice vac c.length vcc)] w' fun e w'' => e = .returned (.slice (some ⟨w'.heap.size, 0, none⟩) c.length c.length) ∧ ICp w'' w'.heap.size c ∧ Below w'.heap.size w' w'') := hide (fun w' h => toI_cp h (by omega))
      have HAc := hide hac
      have hbc : c.length ≤ 1048576 := by have := fsc; omega
      clear hac hrc
      have hB := Below.refl w.heap.size w
      go_enter Tryd.func6, Tryd.ntmps6
      have Yl := hide (Zl.out w (HAl.out.later hB) (1048576) (by omega))
      go_wp2_with fail
      refine (Yl.out).mono ?_
      rintro e w1 ⟨rfl, hb1⟩
      rw [if_pos fsl]
      have s1 := hide hb1.size
      replace hB := hB.trans (hb1.mono hB.size)
      clear hb1
      go_wp2_with fail
      refine (Cl.out w1 (HAl.out.later hB)).mono ?_
      rintro e w2 ⟨rfl, cal, hb2⟩
      have tal := hide cal.lt
      have s2 := hide hb2.size
      replace hB := hB.trans (hb2.mono hB.size)
      clear hb2
      go_wp2_with fail
      refine (Cc.out w2 (HAc.out.later hB)).mono ?_
      rintro e w3 ⟨rfl, cac, hb3⟩
      have tac := hide cac.lt
      replace cal := cal.later hb3
      have s3 := hide hb3.size
      replace hB := hB.trans (hb3.mono hB.size)
      clear hb3
      go_wp2_with fail
      refine (HS.out w3 w1.heap.size w2.heap.size cal cac).mono ?_
      rintro e w4 ⟨x0, rfl, ox0, hb4⟩
      have lx0 := hide ox0.lt
      replace cal := cal.later hb4
      replace cac := cac.later hb4
      have s4 := hide hb4.size
      replace hB := hB.trans (hb4.mono hB.size)
      clear hb4
      clear cal cac
      go_wp2_with fail
      refine (Cl.out w4 (HAl.out.later hB)).mono ?_
      rintro e w5 ⟨rfl, cbl, hb5⟩
      have tbl := hide cbl.lt
      replace ox0 := own_below ox0 hb5
      have s5 := hide hb5.size
      replace hB := hB.trans (hb5.mono hB.size)
      clear hb5
      go_wp2_with fail
      refine (Cc.out w5 (HAc.out.later hB)).mono ?_
      rintro e w6 ⟨rfl, cbc, hb6⟩
      have tbc := hide cbc.lt
      replace ox0 := own_below ox0 hb6
      replace cbl := cbl.later hb6
      have s6 := hide hb6.size
      replace hB := hB.trans (hb6.mono hB.size)
      clear hb6
      go_wp2_with fail
      refine (HI.out w6 w4.heap.size w5.heap.size (hT.below hB) cbl cbc).mono ?_
      rintro e w7 ⟨y0, rfl, oy0, hb7⟩
      have ly0 := hide oy0.lt
      replace ox0 := own_below ox0 hb7
      replace cbl := cbl.later hb7
      replace cbc := cbc.later hb7
      have s7 := hide hb7.size
      replace hB := hB.trans (hb7.mono hB.size)
      clear hb7
      go_wp2_with fail
      refine (eqS_own oy0 ox0 (by omega)).mono ?_
      rintro e w8 ⟨rfl, hb8⟩
      replace ox0 := own_below ox0 hb8
      replace cbl := cbl.later hb8
      replace cbc := cbc.later hb8
      replace oy0 := own_below oy0 hb8
      have s8 := hide hb8.size
      replace hB := hB.trans (hb8.mono hB.size)
      clear hb8
      go_wp2_with fail
      refine (Cl.out w8 (HAl.out.later hB)).mono ?_
      rintro e w9 ⟨rfl, ccl, hb9⟩
      replace ox0 := own_below ox0 hb9
      replace cbl := cbl.later hb9
      replace cbc := cbc.later hb9
      replace oy0 := own_below oy0 hb9
      have s9 := hide hb9.size
      replace hB := hB.trans (hb9.mono hB.size)
      clear hb9
      go_wp2_with fail
      refine (eqS_cp cbl ccl (by omega)).mono ?_
      rintro e w10 ⟨rfl, hb10⟩
      clear ccl
      replace ox0 := own_below ox0 hb10
      replace cbl := cbl.later hb10
      replace cbc := cbc.later hb10
      replace oy0 := own_below oy0 hb10
      have s10 := hide hb10.size
      replace hB := hB.trans (hb10.mono hB.size)
      clear hb10
      go_wp2_with fail
      refine (Cc.out w10 (HAc.out.later hB)).mono ?_
      rintro e w11 ⟨rfl, ccc, hb11⟩
      replace ox0 := own_below ox0 hb11
      replace cbl := cbl.later hb11
      replace cbc := cbc.later hb11
      replace oy0 := own_below oy0 hb11
      have s11 := hide hb11.size
      replace hB := hB.trans (hb11.mono hB.size)
      clear hb11
      go_wp2_with fail
      refine (eqI_cp cbc ccc (by omega)).mono ?_
      rintro e w12 ⟨rfl, hb12⟩
      clear ccc
      replace ox0 := own_below ox0 hb12
      replace cbl := cbl.later hb12
      replace cbc := cbc.later hb12
      replace oy0 := own_below oy0 hb12
      have s12 := hide hb12.size
      replace hB := hB.trans (hb12.mono hB.size)
      clear hb12
      go_wp2_with fail
      refine (markS_cp cbl (by omega)).mono ?_
      rintro e w13 ⟨rfl, hb13⟩
      clear cbl
      replace ox0 := own_grown ox0 hb13 (fun b hb' e => by have q0 := s1.out; have q1 := s2.out; have q2 := tal.out; have q3 := s3.out; have q4 := tac.out; have q5 := s4.out; have q6 := s5.out; have q7 := tbl.out; have q8 := s6.out; have q9 := tbc.out; have q10 := s7.out; have q11 := s8.out; have q12 := s9.out; have q13 := s10.out; have q14 := s11.out; have q15 := s12.out; have u1 := Option.some.inj e; have u0 := lx0.out b hb'; omega)
      replace cbc := cbc.grown hb13 (fun e => by have q0 := s1.out; have q1 := s2.out; have q2 := tal.out; have q3 := s3.out; have q4 := tac.out; have q5 := s4.out; have q6 := s5.out; have q7 := tbl.out; have q8 := s6.out; have q9 := tbc.out; have q10 := s7.out; have q11 := s8.out; have q12 := s9.out; have q13 := s10.out; have q14 := s11.out; have q15 := s12.out; omega)
      replace oy0 := own_grown oy0 hb13 (fun b hb' e => by have q0 := s1.out; have q1 := s2.out; have q2 := tal.out; have q3 := s3.out; have q4 := tac.out; have q5 := s4.out; have q6 := s5.out; have q7 := tbl.out; have q8 := s6.out; have q9 := tbc.out; have q10 := s7.out; have q11 := s8.out; have q12 := s9.out; have q13 := s10.out; have q14 := s11.out; have q15 := s12.out; have u1 := Option.some.inj e; have u0 := ly0.out b hb'; omega)
      have s13 := hide hb13.size
      replace hB := hB.grown hb13 hB.size (fun b e => by have q0 := s1.out; have q1 := s2.out; have q2 := tal.out; have q3 := s3.out; have q4 := tac.out; have q5 := s4.out; have q6 := s5.out; have q7 := tbl.out; have q8 := s6.out; have q9 := tbc.out; have q10 := s7.out; have q11 := s8.out; have q12 := s9.out; have q13 := s10.out; have q14 := s11.out; have q15 := s12.out; have u1 := Option.some.inj e; omega)
      clear hb13
      go_wp2_with fail
      refine (markI_on cbc (by omega) (1 + l.length) (by omega) (by omega)).mono ?_
      rintro e w14 ⟨rfl, hb14⟩
      clear cbc
      replace ox0 := own_grown ox0 hb14 (fun b hb' e => by have q0 := s1.out; have q1 := s2.out; have q2 := tal.out; have q3 := s3.out; have q4 := tac.out; have q5 := s4.out; have q6 := s5.out; have q7 := tbl.out; have q8 := s6.out; have q9 := tbc.out; have q10 := s7.out; have q11 := s8.out; have q12 := s9.out; have q13 := s10.out; have q14 := s11.out; have q15 := s12.out; have q16 := s13.out; have u1 := Option.some.inj e; have u0 := lx0.out b hb'; omega)
      replace oy0 := own_grown oy0 hb14 (fun b hb' e => by have q0 := s1.out; have q1 := s2.out; have q2 := tal.out; have q3 := s3.out; have q4 := tac.out; have q5 := s4.out; have q6 := s5.out; have q7 := tbl.out; have q8 := s6.out; have q9 := tbc.out; have q10 := s7.out; have q11 := s8.out; have q12 := s9.out; have q13 := s10.out; have q14 := s11.out; have q15 := s12.out; have q16 := s13.out; have u1 := Option.some.inj e; have u0 := ly0.out b hb'; omega)
      have s14 := hide hb14.size
      replace hB := hB.grown hb14 hB.size (fun b e => by have q0 := s1.out; have q1 := s2.out; have q2 := tal.out; have q3 := s3.out; have q4 := tac.out; have q5 := s4.out; have q6 := s5.out; have q7 := tbl.out; have q8 := s6.out; have q9 := tbc.out; have q10 := s7.out; have q11 := s8.out; have q12 := s9.out; have q13 := s10.out; have q14 := s11.out; have q15 := s12.out; have q16 := s13.out; have u1 := Option.some.inj e; omega)
      clear hb14
      go_wp2_with fail
      refine (eqS_own oy0 ox0 (by omega)).mono ?_
      rintro e w15 ⟨rfl, hb15⟩
      replace ox0 := own_below ox0 hb15
      replace oy0 := own_below oy0 hb15
      have s15 := hide hb15.size
      replace hB := hB.trans (hb15.mono hB.size)
      clear hb15
      go_wp2_with fail
      refine (markS_own oy0 (by omega)).mono ?_
      rintro e w16 ⟨rfl, hb16, m0⟩
      clear oy0
      replace ox0 := own_grown ox0 hb16 (fun b hb' e => by have q0 := s1.out; have q1 := s2.out; have q2 := tal.out; have q3 := s3.out; have q4 := tac.out; have q5 := s4.out; have q6 := s5.out; have q7 := tbl.out; have q8 := s6.out; have q9 := tbc.out; have q10 := s7.out; have q11 := s8.out; have q12 := s9.out; have q13 := s10.out; have q14 := s11.out; have q15 := s12.out; have q16 := s13.out; have q17 := s14.out; have q18 := s15.out; have u1 := ly0.out _ e; have u0 := lx0.out b hb'; omega)
      have s16 := hide hb16.size
      replace hB := hB.grown hb16 hB.size (fun b e => by have q0 := s1.out; have q1 := s2.out; have q2 := tal.out; have q3 := s3.out; have q4 := tac.out; have q5 := s4.out; have q6 := s5.out; have q7 := tbl.out; have q8 := s6.out; have q9 := tbc.out; have q10 := s7.out; have q11 := s8.out; have q12 := s9.out; have q13 := s10.out; have q14 := s11.out; have q15 := s12.out; have q16 := s13.out; have q17 := s14.out; have q18 := s15.out; have u1 := ly0.out _ e; omega)
      clear hb16
      go_wp2_with fail
      refine (heldS_own m0 (by omega)).mono ?_
      rintro e w17 ⟨rfl, hb17⟩
      replace ox0 := own_below ox0 hb17
      replace m0 := m0.later hb17
      have s17 := hide hb17.size
      replace hB := hB.trans (hb17.mono hB.size)
      clear hb17
      go_wp2_with fail
      refine (Cl.out w17 (HAl.out.later hB)).mono ?_
      rintro e w18 ⟨rfl, cdl, hb18⟩
      have tdl := hide cdl.lt
      replace ox0 := own_below ox0 hb18
      replace m0 := m0.later hb18
      have s18 := hide hb18.size
      replace hB := hB.trans (hb18.mono hB.size)
      clear hb18
      go_wp2_with fail
      refine (Cc.out w18 (HAc.out.later hB)).mono ?_
      rintro e w19 ⟨rfl, cdc, hb19⟩
      have tdc := hide cdc.lt
      replace ox0 := own_below ox0 hb19
      replace m0 := m0.later hb19
      replace cdl := cdl.later hb19
      have s19 := hide hb19.size
      replace hB := hB.trans (hb19.mono hB.size)
      clear hb19
      go_wp2_with fail
      refine (HI.out w19 w17.heap.size w18.heap.size (hT.below hB) cdl cdc).mono ?_
      rintro e w20 ⟨z0, rfl, oz0, hb20⟩
      have lz0 := hide oz0.lt
      replace ox0 := own_below ox0 hb20
      replace m0 := m0.later hb20
      replace cdl := cdl.later hb20
      replace cdc := cdc.later hb20
      have s20 := hide hb20.size
      replace hB := hB.trans (hb20.mono hB.size)
      clear hb20
      clear cdl cdc
      go_wp2_with fail
      refine (eqS_own oz0 ox0 (by omega)).mono ?_
      rintro e w21 ⟨rfl, hb21⟩
      replace ox0 := own_below ox0 hb21
      replace m0 := m0.later hb21
      replace oz0 := own_below oz0 hb21
      have s21 := hide hb21.size
      replace hB := hB.trans (hb21.mono hB.size)
      clear hb21
      clear oz0 ox0
      go_wp2_with fail
      refine (heldS_own m0 (by omega)).mono ?_
      rintro e w22 ⟨rfl, hb22⟩
      replace m0 := m0.later hb22
      have s22 := hide hb22.size
      replace hB := hB.trans (hb22.mono hB.size)
      clear hb22
      go_wp2
      go_ret
      exact ⟨rfl, hB⟩
    · have hrSl := fun i hi => (hrl i hi).1
      go_enter Tryd.func6, Tryd.ntmps6
      have Z0 := hide (szS_from hal hrSl hll 1048576 (by omega))
      go_wp2_with fail
      refine Z0.out.mono ?_
      rintro e z0 ⟨rfl, hz0⟩
      rw [if_neg fsl]
      go_wp2
      go_ret
      exact ⟨rfl, hz0⟩
  · go_enter Tryd.func6, Tryd.ntmps6
    go_wp2
    go_ret
    exact ⟨rfl, Below.refl _ _⟩


theorem law_break (vl : Value) (l : List ByteArray) (v : Value) (c : List Int) (n : Int) (w : World) (hal : ArgS w vl l) (hrl : ∀ i (hi : i < l.length), l[i].size ≤ 9223372036854775807 ∧ True) (hac : ArgI w v c) (hrc : ∀ j (hj : j < c.length), -9223372036854775808 ≤ c[j] ∧ c[j] ≤ 9223372036854775807) (hT : Tab w) :
    Calls Tryd.prog 6 #[vl, v, .int .i64 n] w fun e w' => e = .returned (.bool true) ∧ Below w.heap.size w w' := by
  obtain ⟨a, k, rfl⟩ := argI_shp hac
  exact law_breakA vl l a k c n w hal hrl hac hrc hT
end Go.Proofs.YtgacajnljplmiaaDoor
