/- The law of CutMarks: whatever the marks and the cut, it answers true and turns nothing old. -/
import Derived.Test.YtknodkdlphngmaxCutS1
import Derived.Test.YtknodkdlphngmaxMarkW3
namespace Go.Proofs.Ytknodkdlphngmax
open Go.RowKit
open Doc1

theorem cutT_len (l : List Mk) (size fr to : Int) (st : ByteArray) : (cutT l size fr to st).length ≤ 10000000 := by
  unfold cutT; split
  · rename_i h; have := h.2; omega
  · simp
theorem cut_both (l : List Mk) (size fr to : Int) (st : ByteArray) (hs : st.size ≤ 1048576) (hf : szMrn l ≤ 1048576) (_hr : ∀ i (hi : i < l.length), (l[i].style.size ≤ 9223372036854775807) ∧ -9223372036854775808 ≤ l[i].frm ∧ l[i].frm ≤ 9223372036854775807 ∧ -9223372036854775808 ≤ l[i].to ∧ l[i].to ≤ 9223372036854775807) :
    ∃ (T : List Mk) (b : Bool), T.length ≤ 10000000 ∧ (∀ (w : World) (g : Nat), MrCp w g l → Calls Try.prog 10 #[.slice (some ⟨g, 0, none⟩) l.length l.length, .int .i64 size, .int .i64 fr, .int .i64 to, .string st] w fun e w' => ∃ v, e = .returned (.tuple #[v, .bool b]) ∧ MrOwn w' w.heap.size v T ∧ Below w.heap.size w w') ∧
      (∀ (w : World) (g : Nat), MrCp w g l → Calls Try.prog 12 #[.slice (some ⟨g, 0, none⟩) l.length l.length, .int .i64 size, .int .i64 fr, .int .i64 to, .string st] w fun e w' => ∃ v, e = .returned (.tuple #[v, .bool b]) ∧ MrOwn w' w.heap.size v T ∧ Below w.heap.size w w') :=
  ⟨cutT l size fr to st, cutB l size fr to st, cutT_len _ _ _ _ _, fun _ _ h => cutS size fr to st hs (h.mrIn hf), fun _ _ h => cutI size fr to st hs (h.mrIn hf) (goodMarksI size (h.mrIn hf))⟩

set_option maxRecDepth 100000 in
set_option maxHeartbeats 4000000 in
theorem law_cutMarks (vl : Value) (l : List Mk) (size : Int) (fr : Int) (to : Int) (st : ByteArray) (w : World) (hal : ArgMr w vl l) (hrl : (∀ i (hi : i < l.length), (l[i].style.size ≤ 9223372036854775807) ∧ -9223372036854775808 ≤ l[i].frm ∧ l[i].frm ≤ 9223372036854775807 ∧ -9223372036854775808 ≤ l[i].to ∧ l[i].to ≤ 9223372036854775807)) (hmst : st.size ≤ maxLen) :
    Calls Try.prog 3 #[vl, .int .i64 size, .int .i64 fr, .int .i64 to, .string st] w fun e w' => e = .returned (.bool true) ∧ Below w.heap.size w w' := by
  unfold maxLen at hmst
  by_cases fsst : st.size ≤ 1048576
  · skip
    have hll := argMr_len hal
    by_cases fsl : szMrn l ≤ 1048576
    · skip
      obtain ⟨T0, T1, len0, HS, HI⟩ := cut_both l size fr to st fsst fsl hrl
      replace HS := hide HS
      replace HI := hide HI
      have hrSl := fun i hi => (hrl i hi).1
      have Zl := hide (fun w' (h : ArgMr w' vl l) (lf : Nat) (hlf : lf ≤ 1048576) => szMr_from h hrSl hll lf hlf)
      have Cl : Hid (∀ w', ArgMr w' vl l → Calls Try.prog 11 #[vl] w' fun e w'' => e = .returned (.slice (some ⟨w'.heap.size, 0, none⟩) l.length l.length) ∧ MrCp w'' w'.heap.size l ∧ Below w'.heap.size w' w'') := hide (fun w' h => toMr_cp h (by have := fsl; unfold szMrn at this; omega))
      have HAl := hide hal
      have hbl : l.length ≤ 1048576 := by have := fsl; unfold szMrn at this; omega
      clear hal hrl hrSl
      have hB := Below.refl w.heap.size w
      go_enter Try.func3, Try.ntmps3
      have Yl := hide (Zl.out w (HAl.out.later hB) (1048576) (by omega))
      go_wp2_with fail
      refine (Yl.out).mono ?_
      rintro e w1 ⟨rfl, hb1⟩
      rw [if_pos fsl]
      have s1 := hide hb1.size
      replace hB := hB.trans (hb1.mono hB.size)
      clear hb1
      go_wp2_with fail
      refine (Cl.out w1 (HAl.out.later hB)).mono ?_
      rintro e w2 ⟨rfl, cal, hb2⟩
      have tal := hide cal.lt
      have s2 := hide hb2.size
      replace hB := hB.trans (hb2.mono hB.size)
      clear hb2
      go_wp2_with fail
      refine (HS.out w2 w1.heap.size cal).mono ?_
      rintro e w3 ⟨x0, rfl, ox0, hb3⟩
      have lx0 := hide ox0.lt
      replace cal := cal.later hb3
      have s3 := hide hb3.size
      replace hB := hB.trans (hb3.mono hB.size)
      clear hb3
      clear cal
      go_wp2_with fail
      refine (Cl.out w3 (HAl.out.later hB)).mono ?_
      rintro e w4 ⟨rfl, cbl, hb4⟩
      have tbl := hide cbl.lt
      replace ox0 := own_below ox0 hb4
      have s4 := hide hb4.size
      replace hB := hB.trans (hb4.mono hB.size)
      clear hb4
      go_wp2_with fail
      refine (HI.out w4 w3.heap.size cbl).mono ?_
      rintro e w5 ⟨y0, rfl, oy0, hb5⟩
      have ly0 := hide oy0.lt
      replace ox0 := own_below ox0 hb5
      replace cbl := cbl.later hb5
      have s5 := hide hb5.size
      replace hB := hB.trans (hb5.mono hB.size)
      clear hb5
      go_wp2_with fail
      refine (eqMr_own oy0 ox0 (by omega)).mono ?_
      rintro e w6 ⟨rfl, hb6⟩
      replace ox0 := own_below ox0 hb6
      replace cbl := cbl.later hb6
      replace oy0 := own_below oy0 hb6
      have s6 := hide hb6.size
      replace hB := hB.trans (hb6.mono hB.size)
      clear hb6
      go_wp2_with fail
      refine (Cl.out w6 (HAl.out.later hB)).mono ?_
      rintro e w7 ⟨rfl, ccl, hb7⟩
      replace ox0 := own_below ox0 hb7
      replace cbl := cbl.later hb7
      replace oy0 := own_below oy0 hb7
      have s7 := hide hb7.size
      replace hB := hB.trans (hb7.mono hB.size)
      clear hb7
      go_wp2_with fail
      refine (eqMr_cp cbl ccl (by omega)).mono ?_
      rintro e w8 ⟨rfl, hb8⟩
      clear ccl
      replace ox0 := own_below ox0 hb8
      replace cbl := cbl.later hb8
      replace oy0 := own_below oy0 hb8
      have s8 := hide hb8.size
      replace hB := hB.trans (hb8.mono hB.size)
      clear hb8
      go_wp2_with fail
      refine (markMr_cp cbl (by omega)).mono ?_
      rintro e w9 ⟨rfl, hb9⟩
      clear cbl
      replace ox0 := own_grown ox0 hb9 (fun b hb' e => by have q0 := s1.out; have q1 := s2.out; have q2 := tal.out; have q3 := s3.out; have q4 := s4.out; have q5 := tbl.out; have q6 := s5.out; have q7 := s6.out; have q8 := s7.out; have q9 := s8.out; have u1 := Option.some.inj e; have u0 := lx0.out b hb'; omega)
      replace oy0 := own_grown oy0 hb9 (fun b hb' e => by have q0 := s1.out; have q1 := s2.out; have q2 := tal.out; have q3 := s3.out; have q4 := s4.out; have q5 := tbl.out; have q6 := s5.out; have q7 := s6.out; have q8 := s7.out; have q9 := s8.out; have u1 := Option.some.inj e; have u0 := ly0.out b hb'; omega)
      have s9 := hide hb9.size
      replace hB := hB.grown hb9 hB.size (fun b e => by have q0 := s1.out; have q1 := s2.out; have q2 := tal.out; have q3 := s3.out; have q4 := s4.out; have q5 := tbl.out; have q6 := s5.out; have q7 := s6.out; have q8 := s7.out; have q9 := s8.out; have u1 := Option.some.inj e; omega)
      clear hb9
      go_wp2_with fail
      refine (eqMr_own oy0 ox0 (by omega)).mono ?_
      rintro e w10 ⟨rfl, hb10⟩
      replace ox0 := own_below ox0 hb10
      replace oy0 := own_below oy0 hb10
      have s10 := hide hb10.size
      replace hB := hB.trans (hb10.mono hB.size)
      clear hb10
      go_wp2_with fail
      refine (markMr_own oy0 (by omega)).mono ?_
      rintro e w11 ⟨rfl, hb11, m0⟩
      clear oy0
      replace ox0 := own_grown ox0 hb11 (fun b hb' e => by have q0 := s1.out; have q1 := s2.out; have q2 := tal.out; have q3 := s3.out; have q4 := s4.out; have q5 := tbl.out; have q6 := s5.out; have q7 := s6.out; have q8 := s7.out; have q9 := s8.out; have q10 := s9.out; have q11 := s10.out; have u1 := ly0.out _ e; have u0 := lx0.out b hb'; omega)
      have s11 := hide hb11.size
      replace hB := hB.grown hb11 hB.size (fun b e => by have q0 := s1.out; have q1 := s2.out; have q2 := tal.out; have q3 := s3.out; have q4 := s4.out; have q5 := tbl.out; have q6 := s5.out; have q7 := s6.out; have q8 := s7.out; have q9 := s8.out; have q10 := s9.out; have q11 := s10.out; have u1 := ly0.out _ e; omega)
      clear hb11
      go_wp2_with fail
      refine (heldMr_own m0 (by omega)).mono ?_
      rintro e w12 ⟨rfl, hb12⟩
      replace ox0 := own_below ox0 hb12
      replace m0 := m0.later hb12
      have s12 := hide hb12.size
      replace hB := hB.trans (hb12.mono hB.size)
      clear hb12
      go_wp2_with fail
      refine (Cl.out w12 (HAl.out.later hB)).mono ?_
      rintro e w13 ⟨rfl, cdl, hb13⟩
      have tdl := hide cdl.lt
      replace ox0 := own_below ox0 hb13
      replace m0 := m0.later hb13
      have s13 := hide hb13.size
      replace hB := hB.trans (hb13.mono hB.size)
      clear hb13
      go_wp2_with fail
      refine (HI.out w13 w12.heap.size cdl).mono ?_
      rintro e w14 ⟨z0, rfl, oz0, hb14⟩
      have lz0 := hide oz0.lt
      replace ox0 := own_below ox0 hb14
      replace m0 := m0.later hb14
      replace cdl := cdl.later hb14
      have s14 := hide hb14.size
      replace hB := hB.trans (hb14.mono hB.size)
      clear hb14
      clear cdl
      go_wp2_with fail
      refine (eqMr_own oz0 ox0 (by omega)).mono ?_
      rintro e w15 ⟨rfl, hb15⟩
      replace ox0 := own_below ox0 hb15
      replace m0 := m0.later hb15
      replace oz0 := own_below oz0 hb15
      have s15 := hide hb15.size
      replace hB := hB.trans (hb15.mono hB.size)
      clear hb15
      clear oz0 ox0
      go_wp2_with fail
      refine (heldMr_own m0 (by omega)).mono ?_
      rintro e w16 ⟨rfl, hb16⟩
      replace m0 := m0.later hb16
      have s16 := hide hb16.size
      replace hB := hB.trans (hb16.mono hB.size)
      clear hb16
      go_wp2
      go_ret
      exact ⟨rfl, hB⟩
    · have hrSl := fun i hi => (hrl i hi).1
      go_enter Try.func3, Try.ntmps3
      have Z0 := hide (szMr_from hal hrSl hll 1048576 (by omega))
      go_wp2_with fail
      refine Z0.out.mono ?_
      rintro e z0 ⟨rfl, hz0⟩
      rw [if_neg fsl]
      go_wp2
      go_ret
      exact ⟨rfl, hz0⟩
  · go_enter Try.func3, Try.ntmps3
    go_wp2
    go_ret
    exact ⟨rfl, Below.refl _ _⟩

end Go.Proofs.Ytknodkdlphngmax
