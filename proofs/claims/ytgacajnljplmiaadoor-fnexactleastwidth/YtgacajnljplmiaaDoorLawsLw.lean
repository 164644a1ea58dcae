/- The law of LeastWidth: whatever the words and the lines, it answers true and turns nothing old. -/
import Derived.Test.YtgacajnljplmiaaDoorLina
import Derived.Test.YtgacajnljplmiaaDoorRwArg
set_option linter.unusedVariables false
namespace Go.Proofs.YtgacajnljplmiaaDoor
open Go.RowKit
open Doc1

theorem StCp.st {w : World} {g : Nat} {l : List ByteArray} (h : StCp w g l) (hl : l.length ≤ 1048576) : StIn w (some ⟨g, 0, none⟩) l.length l :=
  ⟨Nat.le_refl _, by unfold maxLen; omega, fun i hi => ⟨g, 0, rfl, h.lt, by rw [Nat.zero_add]; exact h.at'.stat i hi⟩⟩
theorem least_both (l : List ByteArray) (n : Int) (hf : szSt l ≤ 1048576) (_hr : ∀ i (hi : i < l.length), l[i].size ≤ 9223372036854775807 ∧ True) :
    ∃ (T : Int) (b : Bool), (∀ (w : World) (g : Nat), StCp w g l → Calls Tryd.prog 25 #[.slice (some ⟨g, 0, none⟩) l.length l.length, .int .i64 n] w fun e w' => e = .returned (.tuple #[.int .i64 T, .bool b]) ∧ Below w.heap.size w w') ∧
      (∀ (w : World) (g : Nat), Tab w → StCp w g l → Calls Tryd.prog 26 #[.slice (some ⟨g, 0, none⟩) l.length l.length, .int .i64 n] w fun e w' => e = .returned (.tuple #[.int .i64 T, .bool b]) ∧ Below w.heap.size w w') := by
  have hl : l.length ≤ 1048576 := by unfold szSt at hf; omega
  exact ⟨(lwT l n).1, (lwT l n).2, fun w g h => leastS_any l n _ _ w (h.st hl) (szSt_at hf) (by omega), fun w g hT h => leastI_any l n _ _ w (h.st hl) (szSt_at hf) hT⟩

set_option maxRecDepth 100000 in
set_option maxHeartbeats 4000000 in
theorem law_least (vl : Value) (l : List ByteArray) (n : Int) (w : World) (hal : ArgS w vl l) (hrl : (∀ i (hi : i < l.length), l[i].size ≤ 9223372036854775807 ∧ True)) (hT : Tab w) :
    Calls Tryd.prog 7 #[vl, .int .i64 n] w fun e w' => e = .returned (.bool true) ∧ Below w.heap.size w w' := by
  have hll := argS_len hal
  by_cases fsl : szSt l ≤ 1048576
  · skip
    obtain ⟨T0, T1, HS, HI⟩ := least_both l n fsl hrl
    replace HS := hide HS
    replace HI := hide HI
    have hrSl := fun i hi => (hrl i hi).1
    have Zl := hide (fun w' (h : ArgS w' vl l) (lf : Nat) (hlf : lf ≤ 1048576) => szS_from h hrSl hll lf hlf)
    have Cl : Hid (∀ w', ArgS w' vl l → Calls Tryd.prog 16 #[vl] w' fun e w'' => e = .returned (.slice (some ⟨w'.heap.size, 0, none⟩) l.length l.length) ∧ StCp w'' w'.heap.size l ∧ Below w'.heap.size w' w'') := hide (fun w' h => toS_cp h (by have := fsl; unfold szSt at this; omega))
    have HAl := hide hal
    have hbl : l.length ≤ 1048576 := by have := fsl; unfold szSt at this; omega
    clear hal hrl hrSl
    have hB := Below.refl w.heap.size w
    go_enter Tryd.func7, Tryd.ntmps7
    have Yl := hide (Zl.out w (HAl.out.later hB) (1048576) (by omega))
    go_wp2_with fail
    refine (Yl.out).mono ?_
    rintro e w1 ⟨rfl, hb1⟩
    rw [if_pos fsl]
    have s1 := hide hb1.size
    replace hB := hB.trans (hb1.mono hB.size)
    clear hb1
    go_wp2_with fail
    refine (Cl.out w1 (HAl.out.later hB)).mono ?_
    rintro e w2 ⟨rfl, cal, hb2⟩
    have tal := hide cal.lt
    have s2 := hide hb2.size
    replace hB := hB.trans (hb2.mono hB.size)
    clear hb2
    go_wp2_with fail
    refine (HS.out w2 w1.heap.size cal).mono ?_
    rintro e w3 ⟨rfl, hb3⟩
    replace cal := cal.later hb3
    have s3 := hide hb3.size
    replace hB := hB.trans (hb3.mono hB.size)
    clear hb3
    clear cal
    go_wp2_with fail
    refine (Cl.out w3 (HAl.out.later hB)).mono ?_
    rintro e w4 ⟨rfl, cbl, hb4⟩
    have tbl := hide cbl.lt
    have s4 := hide hb4.size
    replace hB := hB.trans (hb4.mono hB.size)
    clear hb4
    go_wp2_with fail
    refine (HI.out w4 w3.heap.size (hT.below hB) cbl).mono ?_
    rintro e w5 ⟨rfl, hb5⟩
    replace cbl := cbl.later hb5
    have s5 := hide hb5.size
    replace hB := hB.trans (hb5.mono hB.size)
    clear hb5
    go_wp2_with fail
    refine (Cl.out w5 (HAl.out.later hB)).mono ?_
    rintro e w6 ⟨rfl, ccl, hb6⟩
    replace cbl := cbl.later hb6
    have s6 := hide hb6.size
    replace hB := hB.trans (hb6.mono hB.size)
    clear hb6
    go_wp2_with fail
    refine (eqS_cp cbl ccl (by omega)).mono ?_
    rintro e w7 ⟨rfl, hb7⟩
    clear ccl
    replace cbl := cbl.later hb7
    have s7 := hide hb7.size
    replace hB := hB.trans (hb7.mono hB.size)
    clear hb7
    go_wp2
    go_ret
    exact ⟨rfl, hB⟩
  · have hrSl := fun i hi => (hrl i hi).1
    go_enter Tryd.func7, Tryd.ntmps7
    have Z0 := hide (szS_from hal hrSl hll 1048576 (by omega))
    go_wp2_with fail
    refine Z0.out.mono ?_
    rintro e z0 ⟨rfl, hz0⟩
    rw [if_neg fsl]
    go_wp2
    go_ret
    exact ⟨rfl, hz0⟩

end Go.Proofs.YtgacajnljplmiaaDoor
