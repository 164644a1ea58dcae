/- The law of ComposeOps: whatever the changes, it answers true and turns nothing old. -/
import Derived.Test.YtknilofnelhgmaaDoorCmpW3
import Derived.Test.YtknilofnelhgmaaDoorCmpSM
import Derived.Test.YtknilofnelhgmaaDoorMkChain
import Derived.Test.YtknilofnelhgmaaDoorLawsO1
namespace Go.Proofs.YtknilofnelhgmaaDoor
open Go.RowKit
open Doc1

theorem cmpO_len (a b : List Pt) : (cmpO a b).1.length ≤ 60 := by
  unfold cmpO
  split
  · split
    · simp
    · split
      · rename_i h; exact (goodO_le h).1
      · simp
  · simp
theorem comp_both (a b : List Pt) (ha : szPn a ≤ 1048576) (hb : szPn b ≤ 1048576 - szPn a) (_h1 : (∀ i (hi : i < a.length), (a[i].put.size ≤ 9223372036854775807 ∧ a[i].drop.size ≤ 9223372036854775807) ∧ -9223372036854775808 ≤ a[i].keep ∧ a[i].keep ≤ 9223372036854775807)) (_h2 : (∀ i (hi : i < b.length), (b[i].put.size ≤ 9223372036854775807 ∧ b[i].drop.size ≤ 9223372036854775807) ∧ -9223372036854775808 ≤ b[i].keep ∧ b[i].keep ≤ 9223372036854775807)) :
    ∃ (T : List Pt) (y : Bool), T.length ≤ 10000000 ∧ (∀ (w : World) (g h : Nat), PCp w g a → PCp w h b → Calls Tryd.prog 19 #[.slice (some ⟨g, 0, none⟩) a.length a.length, .slice (some ⟨h, 0, none⟩) b.length b.length] w fun e w' => ∃ v, e = .returned (.tuple #[v, .bool y]) ∧ POwn w' w.heap.size v T ∧ Below w.heap.size w w') ∧
      (∀ (w : World) (g h : Nat), Tab w → PCp w g a → PCp w h b → Calls Tryd.prog 18 #[.slice (some ⟨g, 0, none⟩) a.length a.length, .slice (some ⟨h, 0, none⟩) b.length b.length] w fun e w' => ∃ v, e = .returned (.tuple #[v, .bool y]) ∧ POwn w' w.heap.size v T ∧ Below w.heap.size w w') :=
  ⟨(cmpO a b).1, (cmpO a b).2, by have := cmpO_len a b; omega, fun _ _ _ p q => compS (p.pin ha) (q.pin (by omega)), fun _ _ _ hT p q => compI (p.pin ha) (q.pin (by omega)) hT⟩

set_option maxRecDepth 100000 in
set_option maxHeartbeats 4000000 in
theorem law_composeOps (va : Value) (a : List Pt) (vb : Value) (b : List Pt) (w : World) (haa : ArgP w va a) (hra : (∀ i (hi : i < a.length), (a[i].put.size ≤ 9223372036854775807 ∧ a[i].drop.size ≤ 9223372036854775807) ∧ -9223372036854775808 ≤ a[i].keep ∧ a[i].keep ≤ 9223372036854775807)) (hab : ArgP w vb b) (hrb : (∀ i (hi : i < b.length), (b[i].put.size ≤ 9223372036854775807 ∧ b[i].drop.size ≤ 9223372036854775807) ∧ -9223372036854775808 ≤ b[i].keep ∧ b[i].keep ≤ 9223372036854775807)) (hT : Tab w) :
    Calls Tryd.prog 8 #[va, vb] w fun e w' => e = .returned (.bool true) ∧ Below w.heap.size w w' := by
  have hla := argP_len haa
  by_cases fsa : szPn a ≤ 1048576
  · skip
    have hlb := argP_len hab
    by_cases fsb : szPn b ≤ 1048576 - szPn a
    · skip
      obtain ⟨T0, T1, len0, HS, HI⟩ := comp_both a b fsa fsb hra hrb
      replace HS := hide HS
      replace HI := hide HI
      have hrSa := fun i hi => (hra i hi).1
      have Za := hide (fun w' (h : ArgP w' va a) (lf : Nat) (hlf : lf ≤ 1048576) => szP_from h hrSa hla lf hlf)
      have Ca : Hid (∀ w', ArgP w' va a → Calls Tryd.prog 42 #[va] w' fun e w'' => e = .returned (.slice (some ⟨w'.heap.size, 0, none⟩) a.length a.length) ∧ PCp w'' w'.heap.size a ∧ Below w'.heap.size w' w'') := hide (fun w' h => toP_cp h (by have := fsa; unfold szPn at this; omega))
      have HAa := hide haa
      have hba : a.length ≤ 1048576 := by have := fsa; unfold szPn at this; omega
      clear haa hra hrSa
      have hrSb := fun i hi => (hrb i hi).1
      have Zb := hide (fun w' (h : ArgP w' vb b) (lf : Nat) (hlf : lf ≤ 1048576) => szP_from h hrSb hlb lf hlf)
      have Cb : Hid (∀ w', ArgP w' vb b → Calls Tryd.prog 42 #[vb] w' fun e w'' => e = .returned (.slice (some ⟨w'.heap.size, 0, none⟩) b.length b.length) ∧ PCp w'' w'.heap.size b ∧ Below w'.heap.size w' w'') := hide (fun w' h => toP_cp h (by have := fsb; unfold szPn at this; omega))
      have HAb := hide hab
      have hbb : b.length ≤ 1048576 := by have := fsb; unfold szPn at this; omega
      clear hab hrb hrSb
      have hB := Below.refl w.heap.size w
      go_enter Tryd.func8, Tryd.ntmps8
      have Ya := hide (Za.out w (HAa.out.later hB) (1048576) (by omega))
      go_wp2_with fail
      refine (Ya.out).mono ?_
      rintro e w1 ⟨rfl, hb1⟩
      rw [if_pos fsa]
      have s1 := hide hb1.size
      replace hB := hB.trans (hb1.mono hB.size)
      clear hb1
      have Yb := hide (Zb.out w1 (HAb.out.later hB) (1048576 - szPn a) (by omega))
      go_wp2_with fail
      refine (Yb.out).mono ?_
      rintro e w2 ⟨rfl, hb2⟩
      rw [if_pos fsb]
      have s2 := hide hb2.size
      replace hB := hB.trans (hb2.mono hB.size)
      clear hb2
      go_wp2_with fail
      refine (Ca.out w2 (HAa.out.later hB)).mono ?_
      rintro e w3 ⟨rfl, caa, hb3⟩
      have taa := hide caa.lt
      have s3 := hide hb3.size
      replace hB := hB.trans (hb3.mono hB.size)
      clear hb3
      go_wp2_with fail
      refine (Cb.out w3 (HAb.out.later hB)).mono ?_
      rintro e w4 ⟨rfl, cab, hb4⟩
      have tab := hide cab.lt
      replace caa := caa.later hb4
      have s4 := hide hb4.size
      replace hB := hB.trans (hb4.mono hB.size)
      clear hb4
      go_wp2_with fail
      refine (HS.out w4 w2.heap.size w3.heap.size caa cab).mono ?_
      rintro e w5 ⟨x0, rfl, ox0, hb5⟩
      have lx0 := hide ox0.lt
      replace caa := caa.later hb5
      replace cab := cab.later hb5
      have s5 := hide hb5.size
      replace hB := hB.trans (hb5.mono hB.size)
      clear hb5
      clear caa cab
      go_wp2_with fail
      refine (Ca.out w5 (HAa.out.later hB)).mono ?_
      rintro e w6 ⟨rfl, cba, hb6⟩
      have tba := hide cba.lt
      replace ox0 := own_below ox0 hb6
      have s6 := hide hb6.size
      replace hB := hB.trans (hb6.mono hB.size)
      clear hb6
      go_wp2_with fail
      refine (Cb.out w6 (HAb.out.later hB)).mono ?_
      rintro e w7 ⟨rfl, cbb, hb7⟩
      have tbb := hide cbb.lt
      replace ox0 := own_below ox0 hb7
      replace cba := cba.later hb7
      have s7 := hide hb7.size
      replace hB := hB.trans (hb7.mono hB.size)
      clear hb7
      go_wp2_with fail
      refine (HI.out w7 w5.heap.size w6.heap.size (hT.below hB) cba cbb).mono ?_
      rintro e w8 ⟨y0, rfl, oy0, hb8⟩
      have ly0 := hide oy0.lt
      replace ox0 := own_below ox0 hb8
      replace cba := cba.later hb8
      replace cbb := cbb.later hb8
      have s8 := hide hb8.size
      replace hB := hB.trans (hb8.mono hB.size)
      clear hb8
      go_wp2_with fail
      refine (eqP_own oy0 ox0 (by omega)).mono ?_
      rintro e w9 ⟨rfl, hb9⟩
      replace ox0 := own_below ox0 hb9
      replace cba := cba.later hb9
      replace cbb := cbb.later hb9
      replace oy0 := own_below oy0 hb9
      have s9 := hide hb9.size
      replace hB := hB.trans (hb9.mono hB.size)
      clear hb9
      go_wp2_with fail
      refine (Ca.out w9 (HAa.out.later hB)).mono ?_
      rintro e w10 ⟨rfl, cca, hb10⟩
      replace ox0 := own_below ox0 hb10
      replace cba := cba.later hb10
      replace cbb := cbb.later hb10
      replace oy0 := own_below oy0 hb10
      have s10 := hide hb10.size
      replace hB := hB.trans (hb10.mono hB.size)
      clear hb10
      go_wp2_with fail
      refine (eqP_cp cba cca (by omega)).mono ?_
      rintro e w11 ⟨rfl, hb11⟩
      clear cca
      replace ox0 := own_below ox0 hb11
      replace cba := cba.later hb11
      replace cbb := cbb.later hb11
      replace oy0 := own_below oy0 hb11
      have s11 := hide hb11.size
      replace hB := hB.trans (hb11.mono hB.size)
      clear hb11
      go_wp2_with fail
      refine (Cb.out w11 (HAb.out.later hB)).mono ?_
      rintro e w12 ⟨rfl, ccb, hb12⟩
      replace ox0 := own_below ox0 hb12
      replace cba := cba.later hb12
      replace cbb := cbb.later hb12
      replace oy0 := own_below oy0 hb12
      have s12 := hide hb12.size
      replace hB := hB.trans (hb12.mono hB.size)
      clear hb12
      go_wp2_with fail
      refine (eqP_cp cbb ccb (by omega)).mono ?_
      rintro e w13 ⟨rfl, hb13⟩
      clear ccb
      replace ox0 := own_below ox0 hb13
      replace cba := cba.later hb13
      replace cbb := cbb.later hb13
      replace oy0 := own_below oy0 hb13
      have s13 := hide hb13.size
      replace hB := hB.trans (hb13.mono hB.size)
      clear hb13
      go_wp2_with fail
      refine (markP_cp cba (by omega)).mono ?_
      rintro e w14 ⟨rfl, hb14⟩
      clear cba
      replace ox0 := own_grown ox0 hb14 (fun b hb' e => by have q0 := s1.out; have q1 := s2.out; have q2 := s3.out; have q3 := taa.out; have q4 := s4.out; have q5 := tab.out; have q6 := s5.out; have q7 := s6.out; have q8 := tba.out; have q9 := s7.out; have q10 := tbb.out; have q11 := s8.out; have q12 := s9.out; have q13 := s10.out; have q14 := s11.out; have q15 := s12.out; have q16 := s13.out; have u1 := Option.some.inj e; have u0 := lx0.out b hb'; omega)
      replace cbb := cbb.grown hb14 (fun e => by have q0 := s1.out; have q1 := s2.out; have q2 := s3.out; have q3 := taa.out; have q4 := s4.out; have q5 := tab.out; have q6 := s5.out; have q7 := s6.out; have q8 := tba.out; have q9 := s7.out; have q10 := tbb.out; have q11 := s8.out; have q12 := s9.out; have q13 := s10.out; have q14 := s11.out; have q15 := s12.out; have q16 := s13.out; omega)
      replace oy0 := own_grown oy0 hb14 (fun b hb' e => by have q0 := s1.out; have q1 := s2.out; have q2 := s3.out; have q3 := taa.out; have q4 := s4.out; have q5 := tab.out; have q6 := s5.out; have q7 := s6.out; have q8 := tba.out; have q9 := s7.out; have q10 := tbb.out; have q11 := s8.out; have q12 := s9.out; have q13 := s10.out; have q14 := s11.out; have q15 := s12.out; have q16 := s13.out; have u1 := Option.some.inj e; have u0 := ly0.out b hb'; omega)
      have s14 := hide hb14.size
      replace hB := hB.grown hb14 hB.size (fun b e => by have q0 := s1.out; have q1 := s2.out; have q2 := s3.out; have q3 := taa.out; have q4 := s4.out; have q5 := tab.out; have q6 := s5.out; have q7 := s6.out; have q8 := tba.out; have q9 := s7.out; have q10 := tbb.out; have q11 := s8.out; have q12 := s9.out; have q13 := s10.out; have q14 := s11.out; have q15 := s12.out; have q16 := s13.out; have u1 := Option.some.inj e; omega)
      clear hb14
      go_wp2_with fail
      refine (markP_on cbb (by omega) (1 + a.length * 3) (by omega) (by omega)).mono ?_
      rintro e w15 ⟨rfl, hb15⟩
      clear cbb
      replace ox0 := own_grown ox0 hb15 (fun b hb' e => by have q0 := s1.out; have q1 := s2.out; have q2 := s3.out; have q3 := taa.out; have q4 := s4.out; have q5 := tab.out; have q6 := s5.out; have q7 := s6.out; have q8 := tba.out; have q9 := s7.out; have q10 := tbb.out; have q11 := s8.out; have q12 := s9.out; have q13 := s10.out; have q14 := s11.out; have q15 := s12.out; have q16 := s13.out; have q17 := s14.out; have u1 := Option.some.inj e; have u0 := lx0.out b hb'; omega)
      replace oy0 := own_grown oy0 hb15 (fun b hb' e => by have q0 := s1.out; have q1 := s2.out; have q2 := s3.out; have q3 := taa.out; have q4 := s4.out; have q5 := tab.out; have q6 := s5.out; have q7 := s6.out; have q8 := tba.out; have q9 := s7.out; have q10 := tbb.out; have q11 := s8.out; have q12 := s9.out; have q13 := s10.out; have q14 := s11.out; have q15 := s12.out; have q16 := s13.out; have q17 := s14.out; have u1 := Option.some.inj e; have u0 := ly0.out b hb'; omega)
      have s15 := hide hb15.size
      replace hB := hB.grown hb15 hB.size (fun b e => by have q0 := s1.out; have q1 := s2.out; have q2 := s3.out; have q3 := taa.out; have q4 := s4.out; have q5 := tab.out; have q6 := s5.out; have q7 := s6.out; have q8 := tba.out; have q9 := s7.out; have q10 := tbb.out; have q11 := s8.out; have q12 := s9.out; have q13 := s10.out; have q14 := s11.out; have q15 := s12.out; have q16 := s13.out; have q17 := s14.out; have u1 := Option.some.inj e; omega)
      clear hb15
      go_wp2_with fail
      refine (eqP_own oy0 ox0 (by omega)).mono ?_
      rintro e w16 ⟨rfl, hb16⟩
      replace ox0 := own_below ox0 hb16
      replace oy0 := own_below oy0 hb16
      have s16 := hide hb16.size
      replace hB := hB.trans (hb16.mono hB.size)
      clear hb16
      go_wp2_with fail
      refine (markP_own oy0 (by omega)).mono ?_
      rintro e w17 ⟨rfl, hb17, m0⟩
      clear oy0
      replace ox0 := own_grown ox0 hb17 (fun b hb' e => by have q0 := s1.out; have q1 := s2.out; have q2 := s3.out; have q3 := taa.out; have q4 := s4.out; have q5 := tab.out; have q6 := s5.out; have q7 := s6.out; have q8 := tba.out; have q9 := s7.out; have q10 := tbb.out; have q11 := s8.out; have q12 := s9.out; have q13 := s10.out; have q14 := s11.out; have q15 := s12.out; have q16 := s13.out; have q17 := s14.out; have q18 := s15.out; have q19 := s16.out; have u1 := ly0.out _ e; have u0 := lx0.out b hb'; omega)
      have s17 := hide hb17.size
      replace hB := hB.grown hb17 hB.size (fun b e => by have q0 := s1.out; have q1 := s2.out; have q2 := s3.out; have q3 := taa.out; have q4 := s4.out; have q5 := tab.out; have q6 := s5.out; have q7 := s6.out; have q8 := tba.out; have q9 := s7.out; have q10 := tbb.out; have q11 := s8.out; have q12 := s9.out; have q13 := s10.out; have q14 := s11.out; have q15 := s12.out; have q16 := s13.out; have q17 := s14.out; have q18 := s15.out; have q19 := s16.out; have u1 := ly0.out _ e; omega)
      clear hb17
      go_wp2_with fail
      refine (heldP_own m0 (by omega)).mono ?_
      rintro e w18 ⟨rfl, hb18⟩
      replace ox0 := own_below ox0 hb18
      replace m0 := m0.later hb18
      have s18 := hide hb18.size
      replace hB := hB.trans (hb18.mono hB.size)
      clear hb18
      go_wp2_with fail
      refine (Ca.out w18 (HAa.out.later hB)).mono ?_
      rintro e w19 ⟨rfl, cda, hb19⟩
      have tda := hide cda.lt
      replace ox0 := own_below ox0 hb19
      replace m0 := m0.later hb19
      have s19 := hide hb19.size
      replace hB := hB.trans (hb19.mono hB.size)
      clear hb19
      go_wp2_with fail
      refine (Cb.out w19 (HAb.out.later hB)).mono ?_
      rintro e w20 ⟨rfl, cdb, hb20⟩
      have tdb := hide cdb.lt
      replace ox0 := own_below ox0 hb20
      replace m0 := m0.later hb20
      replace cda := cda.later hb20
      have s20 := hide hb20.size
      replace hB := hB.trans (hb20.mono hB.size)
      clear hb20
      go_wp2_with fail
      refine (HI.out w20 w18.heap.size w19.heap.size (hT.below hB) cda cdb).mono ?_
      rintro e w21 ⟨z0, rfl, oz0, hb21⟩
      have lz0 := hide oz0.lt
      replace ox0 := own_below ox0 hb21
      replace m0 := m0.later hb21
      replace cda := cda.later hb21
      replace cdb := cdb.later hb21
      have s21 := hide hb21.size
      replace hB := hB.trans (hb21.mono hB.size)
      clear hb21
      clear cda cdb
      go_wp2_with fail
      refine (eqP_own oz0 ox0 (by omega)).mono ?_
      rintro e w22 ⟨rfl, hb22⟩
      replace ox0 := own_below ox0 hb22
      replace m0 := m0.later hb22
      replace oz0 := own_below oz0 hb22
      have s22 := hide hb22.size
      replace hB := hB.trans (hb22.mono hB.size)
      clear hb22
      clear oz0 ox0
      go_wp2_with fail
      refine (heldP_own m0 (by omega)).mono ?_
      rintro e w23 ⟨rfl, hb23⟩
      replace m0 := m0.later hb23
      have s23 := hide hb23.size
      replace hB := hB.trans (hb23.mono hB.size)
      clear hb23
      go_wp2
      go_ret
      exact ⟨rfl, hB⟩
    · have hrSb := fun i hi => (hrb i hi).1
      have hrSa := fun i hi => (hra i hi).1
      go_enter Tryd.func8, Tryd.ntmps8
      have Z0 := hide (szP_from haa hrSa hla 1048576 (by omega))
      go_wp2_with fail
      refine Z0.out.mono ?_
      rintro e z0 ⟨rfl, hz0⟩
      rw [if_pos fsa]
      go_wp2_with fail
      have Z1 := hide (szP_from (ArgP.later hab hz0) hrSb hlb (1048576 - szPn a) (by omega))
      refine Z1.out.mono ?_
      rintro e z1 ⟨rfl, hz1⟩
      replace hz1 := hz0.trans (hz1.mono hz0.size)
      rw [if_neg fsb]
      go_wp2
      go_ret
      exact ⟨rfl, hz1⟩
  · have hrSa := fun i hi => (hra i hi).1
    go_enter Tryd.func8, Tryd.ntmps8
    have Z0 := hide (szP_from haa hrSa hla 1048576 (by omega))
    go_wp2_with fail
    refine Z0.out.mono ?_
    rintro e z0 ⟨rfl, hz0⟩
    rw [if_neg fsa]
    go_wp2
    go_ret
    exact ⟨rfl, hz0⟩

end Go.Proofs.YtknilofnelhgmaaDoor
