/- The laws of CoveredBy: whatever the marks, each answers true and turns nothing old. -/
import Derived.Test.YtpgacpfdchckfaxMarkW4
namespace Go.Proofs.Ytpgacpfdchckfax
open Go.RowKit
open Doc1

theorem covered_both (l : List Mk) (size : Int) (st : ByteArray) (hs : st.size ≤ 1048576) (hf : szMrn l ≤ 1048576) (_hr : ∀ i (hi : i < l.length), (l[i].style.size ≤ 9223372036854775807) ∧ -9223372036854775808 ≤ l[i].frm ∧ l[i].frm ≤ 9223372036854775807 ∧ -9223372036854775808 ≤ l[i].to ∧ l[i].to ≤ 9223372036854775807) :
    ∃ (x : Int) (b : Bool), (∀ (w : World) (g : Nat), MrCp w g l → Calls Try.prog 13 #[.slice (some ⟨g, 0, none⟩) l.length l.length, .int .i64 size, .string st] w fun e w' => e = .returned (.tuple #[.int .i64 x, .bool b]) ∧ Below w.heap.size w w') ∧
      (∀ (w : World) (g : Nat), MrCp w g l → Calls Try.prog 14 #[.slice (some ⟨g, 0, none⟩) l.length l.length, .int .i64 size, .string st] w fun e w' => e = .returned (.tuple #[.int .i64 x, .bool b]) ∧ Below w.heap.size w w') :=
  ⟨covT l size st, goodM l size && isSt st, fun _ _ h => coveredS size st hs (h.mrIn hf), fun _ _ h => coveredI size st hs (h.mrIn hf)⟩

set_option maxRecDepth 100000 in
set_option maxHeartbeats 4000000 in
theorem law_coveredBy (vl : Value) (l : List Mk) (size : Int) (st : ByteArray) (w : World) (hal : ArgMr w vl l) (hrl : (∀ i (hi : i < l.length), (l[i].style.size ≤ 9223372036854775807) ∧ -9223372036854775808 ≤ l[i].frm ∧ l[i].frm ≤ 9223372036854775807 ∧ -9223372036854775808 ≤ l[i].to ∧ l[i].to ≤ 9223372036854775807)) (hmst : st.size ≤ maxLen) :
    Calls Try.prog 4 #[vl, .int .i64 size, .string st] w fun e w' => e = .returned (.bool true) ∧ Below w.heap.size w w' := by
  unfold maxLen at hmst
  by_cases fsst : st.size ≤ 1048576
  · skip
    have hll := argMr_len hal
    by_cases fsl : szMrn l ≤ 1048576
    · skip
      obtain ⟨T0, T1, HS, HI⟩ := covered_both l size st fsst fsl hrl
      replace HS := hide HS
      replace HI := hide HI
      have hrSl := fun i hi => (hrl i hi).1
      have Zl := hide (fun w' (h : ArgMr w' vl l) (lf : Nat) (hlf : lf ≤ 1048576) => szMr_from h hrSl hll lf hlf)
      have Cl : Hid (∀ w', ArgMr w' vl l → Calls Try.prog 8 #[vl] w' fun e w'' => e = .returned (.slice (some ⟨w'.heap.size, 0, none⟩) l.length l.length) ∧ MrCp w'' w'.heap.size l ∧ Below w'.heap.size w' w'') := hide (fun w' h => toMr_cp h (by have := fsl; unfold szMrn at this; omega))
      have HAl := hide hal
      have hbl : l.length ≤ 1048576 := by have := fsl; unfold szMrn at this; omega
      clear hal hrl hrSl
      have hB := Below.refl w.heap.size w
      go_enter Try.func4, Try.ntmps4
      have Yl := hide (Zl.out w (HAl.out.later hB) (1048576) (by omega))
      go_wp2_with fail
      refine (Yl.out).mono ?_
      rintro e w1 ⟨rfl, hb1⟩
      rw [if_pos fsl]
      have s1 := hide hb1.size
      replace hB := hB.trans (hb1.mono hB.size)
      clear hb1
      go_wp2_with fail
      refine (Cl.out w1 (HAl.out.later hB)).mono ?_
      rintro e w2 ⟨rfl, cal, hb2⟩
      have tal := hide cal.lt
      have s2 := hide hb2.size
      replace hB := hB.trans (hb2.mono hB.size)
      clear hb2
      go_wp2_with fail
      refine (HS.out w2 w1.heap.size cal).mono ?_
      rintro e w3 ⟨rfl, hb3⟩
      replace cal := cal.later hb3
      have s3 := hide hb3.size
      replace hB := hB.trans (hb3.mono hB.size)
      clear hb3
      clear cal
      go_wp2_with fail
      refine (Cl.out w3 (HAl.out.later hB)).mono ?_
      rintro e w4 ⟨rfl, cbl, hb4⟩
      have tbl := hide cbl.lt
      have s4 := hide hb4.size
      replace hB := hB.trans (hb4.mono hB.size)
      clear hb4
      go_wp2_with fail
      refine (HI.out w4 w3.heap.size cbl).mono ?_
      rintro e w5 ⟨rfl, hb5⟩
      replace cbl := cbl.later hb5
      have s5 := hide hb5.size
      replace hB := hB.trans (hb5.mono hB.size)
      clear hb5
      go_wp2_with fail
      refine (Cl.out w5 (HAl.out.later hB)).mono ?_
      rintro e w6 ⟨rfl, ccl, hb6⟩
      replace cbl := cbl.later hb6
      have s6 := hide hb6.size
      replace hB := hB.trans (hb6.mono hB.size)
      clear hb6
      go_wp2_with fail
      refine (eqMr_cp cbl ccl (by omega)).mono ?_
      rintro e w7 ⟨rfl, hb7⟩
      clear ccl
      replace cbl := cbl.later hb7
      have s7 := hide hb7.size
      replace hB := hB.trans (hb7.mono hB.size)
      clear hb7
      go_wp2
      go_ret
      exact ⟨rfl, hB⟩
    · have hrSl := fun i hi => (hrl i hi).1
      go_enter Try.func4, Try.ntmps4
      have Z0 := hide (szMr_from hal hrSl hll 1048576 (by omega))
      go_wp2_with fail
      refine Z0.out.mono ?_
      rintro e z0 ⟨rfl, hz0⟩
      rw [if_neg fsl]
      go_wp2
      go_ret
      exact ⟨rfl, hz0⟩
  · go_enter Try.func4, Try.ntmps4
    go_wp2
    go_ret
    exact ⟨rfl, Below.refl _ _⟩

end Go.Proofs.Ytpgacpfdchckfax
