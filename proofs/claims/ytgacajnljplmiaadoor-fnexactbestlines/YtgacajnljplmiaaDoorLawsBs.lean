/- The law of BestLines: whatever the words and the width, it answers true and turns nothing old. -/
import Derived.Test.YtgacajnljplmiaaDoorLbs5
import Derived.Test.YtgacajnljplmiaaDoorRwArg
set_option linter.unusedVariables false
namespace Go.Proofs.YtgacajnljplmiaaDoor
open Go.RowKit
open Doc1

theorem StCp.st {w : World} {g : Nat} {l : List ByteArray} (h : StCp w g l) (hl : l.length ≤ 1048576) : StIn w (some ⟨g, 0, none⟩) l.length l :=
  ⟨Nat.le_refl _, by unfold maxLen; omega, fun i hi => ⟨g, 0, rfl, h.lt, by rw [Nat.zero_add]; exact h.at'.stat i hi⟩⟩
theorem bsT_le (l : List ByteArray) (n : Int) : (bsT l n).1.length ≤ 10000000 := by
  unfold bsT
  split
  · rename_i h
    have hd := said_iff.1 h
    show (lnE l 0 (bEs l n 0)).length ≤ _
    rw [lnE_len]
    have : ∀ (m a : Nat), l.length - a = m → (bEs l n a).length ≤ m := by
      intro m
      induction m using Nat.strongRecOn with
      | ind m ih =>
        intro a ha
        by_cases h : a < l.length
        · rw [bEs_on hd h, List.length_cons]
          have h2 := bE1_cut hd h
          have := ih (l.length - (bE1 l n a).cut) (by omega) _ rfl
          omega
        · rw [bEs_end (by omega)]; exact Nat.zero_le _
    have h1 := this _ 0 rfl
    have := hd.len
    omega
  · simp
theorem best_both (l : List ByteArray) (n : Int) (hf : szSt l ≤ 1048576) (_hr : ∀ i (hi : i < l.length), l[i].size ≤ 9223372036854775807 ∧ True) :
    ∃ (T : List ByteArray) (c : Int) (b : Bool), T.length ≤ 10000000 ∧ (∀ (w : World) (g : Nat), StCp w g l → Calls Tryd.prog 18 #[.slice (some ⟨g, 0, none⟩) l.length l.length, .int .i64 n] w fun e w' => ∃ v, e = .returned (.tuple #[v, .int .i64 c, .bool b]) ∧ SOwn w' w.heap.size v T ∧ Below w.heap.size w w') ∧
      (∀ (w : World) (g : Nat), Tab w → StCp w g l → Calls Tryd.prog 19 #[.slice (some ⟨g, 0, none⟩) l.length l.length, .int .i64 n] w fun e w' => ∃ v, e = .returned (.tuple #[v, .int .i64 c, .bool b]) ∧ SOwn w' w.heap.size v T ∧ Below w.heap.size w w') := by
  have hl : l.length ≤ 1048576 := by unfold szSt at hf; omega
  exact ⟨(bsT l n).1, ((bsT l n).2.1 : Int), (bsT l n).2.2, bsT_le l n, fun w g h => bestS_any l n _ _ w (h.st hl) (szSt_at hf) (by omega), fun w g hT h => bestI_any l n _ _ w (h.st hl) (szSt_at hf) hT⟩

set_option maxRecDepth 100000 in
set_option maxHeartbeats 4000000 in
theorem law_best (vl : Value) (l : List ByteArray) (n : Int) (w : World) (hal : ArgS w vl l) (hrl : (∀ i (hi : i < l.length), l[i].size ≤ 9223372036854775807 ∧ True)) (hT : Tab w) :
    Calls Tryd.prog 5 #[vl, .int .i64 n] w fun e w' => e = .returned (.bool true) ∧ Below w.heap.size w w' := by
  have hll := argS_len hal
  by_cases fsl : szSt l ≤ 1048576
  · skip
    obtain ⟨T0, T1, T2, len0, HS, HI⟩ := best_both l n fsl hrl
    replace HS := hide HS
    replace HI := hide HI
    have hrSl := fun i hi => (hrl i hi).1
    have Zl := hide (fun w' (h : ArgS w' vl l) (lf : Nat) (hlf : lf ≤ 1048576) => szS_from h hrSl hll lf hlf)
    have Cl : Hid (∀ w', ArgS w' vl l → Calls Tryd.prog 16 #[vl] w' fun e w'' => e = .returned (.slice (some ⟨w'.heap.size, 0, none⟩) l.length l.length) ∧ StCp w'' w'.heap.size l ∧ Below w'.heap.size w' w'') := hide (fun w' h => toS_cp h (by have := fsl; unfold szSt at this; omega))
    have HAl := hide hal
    have hbl : l.length ≤ 1048576 := by have := fsl; unfold szSt at this; omega
    clear hal hrl hrSl
    have hB := Below.refl w.heap.size w
    go_enter Tryd.func5, Tryd.ntmps5
    have Yl := hide (Zl.out w (HAl.out.later hB) (1048576) (by omega))
    go_wp2_with fail
    refine (Yl.out).mono ?_
    rintro e w1 ⟨rfl, hb1⟩
    rw [if_pos fsl]
    have s1 := hide hb1.size
    replace hB := hB.trans (hb1.mono hB.size)
    clear hb1
    go_wp2_with fail
    refine (Cl.out w1 (HAl.out.later hB)).mono ?_
    rintro e w2 ⟨rfl, cal, hb2⟩
    have tal := hide cal.lt
    have s2 := hide hb2.size
    replace hB := hB.trans (hb2.mono hB.size)
    clear hb2
    go_wp2_with fail
    refine (HS.out w2 w1.heap.size cal).mono ?_
    rintro e w3 ⟨x0, rfl, ox0, hb3⟩
    have lx0 := hide ox0.lt
    replace cal := cal.later hb3
    have s3 := hide hb3.size
    replace hB := hB.trans (hb3.mono hB.size)
    clear hb3
    clear cal
    go_wp2_with fail
    refine (Cl.out w3 (HAl.out.later hB)).mono ?_
    rintro e w4 ⟨rfl, cbl, hb4⟩
    have tbl := hide cbl.lt
    replace ox0 := own_below ox0 hb4
    have s4 := hide hb4.size
    replace hB := hB.trans (hb4.mono hB.size)
    clear hb4
    go_wp2_with fail
    refine (HI.out w4 w3.heap.size (hT.below hB) cbl).mono ?_
    rintro e w5 ⟨y0, rfl, oy0, hb5⟩
    have ly0 := hide oy0.lt
    replace ox0 := own_below ox0 hb5
    replace cbl := cbl.later hb5
    have s5 := hide hb5.size
    replace hB := hB.trans (hb5.mono hB.size)
    clear hb5
    go_wp2_with fail
    refine (eqS_own oy0 ox0 (by omega)).mono ?_
    rintro e w6 ⟨rfl, hb6⟩
    replace ox0 := own_below ox0 hb6
    replace cbl := cbl.later hb6
    replace oy0 := own_below oy0 hb6
    have s6 := hide hb6.size
    replace hB := hB.trans (hb6.mono hB.size)
    clear hb6
    go_wp2_with fail
    refine (Cl.out w6 (HAl.out.later hB)).mono ?_
    rintro e w7 ⟨rfl, ccl, hb7⟩
    replace ox0 := own_below ox0 hb7
    replace cbl := cbl.later hb7
    replace oy0 := own_below oy0 hb7
    have s7 := hide hb7.size
    replace hB := hB.trans (hb7.mono hB.size)
    clear hb7
    go_wp2_with fail
    refine (eqS_cp cbl ccl (by omega)).mono ?_
    rintro e w8 ⟨rfl, hb8⟩
    clear ccl
    replace ox0 := own_below ox0 hb8
    replace cbl := cbl.later hb8
    replace oy0 := own_below oy0 hb8
    have s8 := hide hb8.size
    replace hB := hB.trans (hb8.mono hB.size)
    clear hb8
    go_wp2_with fail
    refine (markS_cp cbl (by omega)).mono ?_
    rintro e w9 ⟨rfl, hb9⟩
    clear cbl
    replace ox0 := own_grown ox0 hb9 (fun b hb' e => by have q0 := s1.out; have q1 := s2.out; have q2 := tal.out; have q3 := s3.out; have q4 := s4.out; have q5 := tbl.out; have q6 := s5.out; have q7 := s6.out; have q8 := s7.out; have q9 := s8.out; have u1 := Option.some.inj e; have u0 := lx0.out b hb'; omega)
    replace oy0 := own_grown oy0 hb9 (fun b hb' e => by have q0 := s1.out; have q1 := s2.out; have q2 := tal.out; have q3 := s3.out; have q4 := s4.out; have q5 := tbl.out; have q6 := s5.out; have q7 := s6.out; have q8 := s7.out; have q9 := s8.out; have u1 := Option.some.inj e; have u0 := ly0.out b hb'; omega)
    have s9 := hide hb9.size
    replace hB := hB.grown hb9 hB.size (fun b e => by have q0 := s1.out; have q1 := s2.out; have q2 := tal.out; have q3 := s3.out; have q4 := s4.out; have q5 := tbl.out; have q6 := s5.out; have q7 := s6.out; have q8 := s7.out; have q9 := s8.out; have u1 := Option.some.inj e; omega)
    clear hb9
    go_wp2_with fail
    refine (eqS_own oy0 ox0 (by omega)).mono ?_
    rintro e w10 ⟨rfl, hb10⟩
    replace ox0 := own_below ox0 hb10
    replace oy0 := own_below oy0 hb10
    have s10 := hide hb10.size
    replace hB := hB.trans (hb10.mono hB.size)
    clear hb10
    go_wp2_with fail
    refine (markS_own oy0 (by omega)).mono ?_
    rintro e w11 ⟨rfl, hb11, m0⟩
    clear oy0
    replace ox0 := own_grown ox0 hb11 (fun b hb' e => by have q0 := s1.out; have q1 := s2.out; have q2 := tal.out; have q3 := s3.out; have q4 := s4.out; have q5 := tbl.out; have q6 := s5.out; have q7 := s6.out; have q8 := s7.out; have q9 := s8.out; have q10 := s9.out; have q11 := s10.out; have u1 := ly0.out _ e; have u0 := lx0.out b hb'; omega)
    have s11 := hide hb11.size
    replace hB := hB.grown hb11 hB.size (fun b e => by have q0 := s1.out; have q1 := s2.out; have q2 := tal.out; have q3 := s3.out; have q4 := s4.out; have q5 := tbl.out; have q6 := s5.out; have q7 := s6.out; have q8 := s7.out; have q9 := s8.out; have q10 := s9.out; have q11 := s10.out; have u1 := ly0.out _ e; omega)
    clear hb11
    go_wp2_with fail
    refine (heldS_own m0 (by omega)).mono ?_
    rintro e w12 ⟨rfl, hb12⟩
    replace ox0 := own_below ox0 hb12
    replace m0 := m0.later hb12
    have s12 := hide hb12.size
    replace hB := hB.trans (hb12.mono hB.size)
    clear hb12
    go_wp2_with fail
    refine (Cl.out w12 (HAl.out.later hB)).mono ?_
    rintro e w13 ⟨rfl, cdl, hb13⟩
    have tdl := hide cdl.lt
    replace ox0 := own_below ox0 hb13
    replace m0 := m0.later hb13
    have s13 := hide hb13.size
    replace hB := hB.trans (hb13.mono hB.size)
    clear hb13
    go_wp2_with fail
    refine (HI.out w13 w12.heap.size (hT.below hB) cdl).mono ?_
    rintro e w14 ⟨z0, rfl, oz0, hb14⟩
    have lz0 := hide oz0.lt
    replace ox0 := own_below ox0 hb14
    replace m0 := m0.later hb14
    replace cdl := cdl.later hb14
    have s14 := hide hb14.size
    replace hB := hB.trans (hb14.mono hB.size)
    clear hb14
    clear cdl
    go_wp2_with fail
    refine (eqS_own oz0 ox0 (by omega)).mono ?_
    rintro e w15 ⟨rfl, hb15⟩
    replace ox0 := own_below ox0 hb15
    replace m0 := m0.later hb15
    replace oz0 := own_below oz0 hb15
    have s15 := hide hb15.size
    replace hB := hB.trans (hb15.mono hB.size)
    clear hb15
    clear oz0 ox0
    go_wp2_with fail
    refine (heldS_own m0 (by omega)).mono ?_
    rintro e w16 ⟨rfl, hb16⟩
    replace m0 := m0.later hb16
    have s16 := hide hb16.size
    replace hB := hB.trans (hb16.mono hB.size)
    clear hb16
    go_wp2
    go_ret
    exact ⟨rfl, hB⟩
  · have hrSl := fun i hi => (hrl i hi).1
    go_enter Tryd.func5, Tryd.ntmps5
    have Z0 := hide (szS_from hal hrSl hll 1048576 (by omega))
    go_wp2_with fail
    refine Z0.out.mono ?_
    rintro e z0 ⟨rfl, hz0⟩
    rw [if_neg fsl]
    go_wp2
    go_ret
    exact ⟨rfl, hz0⟩

end Go.Proofs.YtgacajnljplmiaaDoor
