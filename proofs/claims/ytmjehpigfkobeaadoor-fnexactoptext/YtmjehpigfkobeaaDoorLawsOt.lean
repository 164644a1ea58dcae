/- The laws of OpText: whatever the parts, each answers true and turns nothing old. -/
import Derived.Test.YtmjehpigfkobeaaDoorOpT3
import Derived.Test.YtmjehpigfkobeaaDoorLawsO1
namespace Go.Proofs.YtmjehpigfkobeaaDoor
open Go.RowKit
open Doc1

theorem opText_both (l : List Pt) (hf : szPn l ≤ 1048576) (_hr : ∀ i (hi : i < l.length), (l[i].put.size ≤ 9223372036854775807 ∧ l[i].drop.size ≤ 9223372036854775807) ∧ -9223372036854775808 ≤ l[i].keep ∧ l[i].keep ≤ 9223372036854775807) :
    ∃ (x : ByteArray) (b : Bool), (∀ (w : World) (g : Nat), PCp w g l → Calls Tryd.prog 9 #[.slice (some ⟨g, 0, none⟩) l.length l.length] w fun e w' => e = .returned (.tuple #[.string x, .bool b]) ∧ Below w.heap.size w w') ∧
      (∀ (w : World) (g : Nat), TabN w → PCp w g l → Calls Tryd.prog 8 #[.slice (some ⟨g, 0, none⟩) l.length l.length] w fun e w' => e = .returned (.tuple #[.string x, .bool b]) ∧ Below w.heap.size w w') :=
  ⟨opR l, goodO l, fun _ _ h => opTextS (h.pin hf), fun _ _ hT h => opTextI (h.pin hf) hT⟩

set_option maxRecDepth 100000 in
set_option maxHeartbeats 4000000 in
theorem law_opText (vl : Value) (l : List Pt) (w : World) (hal : ArgP w vl l) (hrl : (∀ i (hi : i < l.length), (l[i].put.size ≤ 9223372036854775807 ∧ l[i].drop.size ≤ 9223372036854775807) ∧ -9223372036854775808 ≤ l[i].keep ∧ l[i].keep ≤ 9223372036854775807)) (hT : TabN w) :
    Calls Tryd.prog 4 #[vl] w fun e w' => e = .returned (.bool true) ∧ Below w.heap.size w w' := by
  have hll := argP_len hal
  by_cases fsl : szPn l ≤ 1048576
  · skip
    obtain ⟨T0, T1, HS, HI⟩ := opText_both l fsl hrl
    replace HS := hide HS
    replace HI := hide HI
    have hrSl := fun i hi => (hrl i hi).1
    have Zl := hide (fun w' (h : ArgP w' vl l) (lf : Nat) (hlf : lf ≤ 1048576) => szP_from h hrSl hll lf hlf)
    have Cl : Hid (∀ w', ArgP w' vl l → Calls Tryd.prog 20 #[vl] w' fun e w'' => e = .returned (.slice (some ⟨w'.heap.size, 0, none⟩) l.length l.length) ∧ PCp w'' w'.heap.size l ∧ Below w'.heap.size w' w'') := hide (fun w' h => toP_cp h (by have := fsl; unfold szPn at this; omega))
    have HAl := hide hal
    have hbl : l.length ≤ 1048576 := by have := fsl; unfold szPn at this; omega
    clear hal hrl hrSl
    have hB := Below.refl w.heap.size w
    go_enter Tryd.func4, Tryd.ntmps4
    have Yl := hide (Zl.out w (HAl.out.later hB) (1048576) (by omega))
    go_wp2_with fail
    refine (Yl.out).mono ?_
    rintro e w1 ⟨rfl, hb1⟩
    rw [if_pos fsl]
    have s1 := hide hb1.size
    replace hB := hB.trans (hb1.mono hB.size)
    clear hb1
    go_wp2_with fail
    refine (Cl.out w1 (HAl.out.later hB)).mono ?_
    rintro e w2 ⟨rfl, cal, hb2⟩
    have tal := hide cal.lt
    have s2 := hide hb2.size
    replace hB := hB.trans (hb2.mono hB.size)
    clear hb2
    go_wp2_with fail
    refine (HS.out w2 w1.heap.size cal).mono ?_
    rintro e w3 ⟨rfl, hb3⟩
    replace cal := cal.later hb3
    have s3 := hide hb3.size
    replace hB := hB.trans (hb3.mono hB.size)
    clear hb3
    clear cal
    go_wp2_with fail
    refine (Cl.out w3 (HAl.out.later hB)).mono ?_
    rintro e w4 ⟨rfl, cbl, hb4⟩
    have tbl := hide cbl.lt
    have s4 := hide hb4.size
    replace hB := hB.trans (hb4.mono hB.size)
    clear hb4
    go_wp2_with fail
    refine (HI.out w4 w3.heap.size (hT.below hB) cbl).mono ?_
    rintro e w5 ⟨rfl, hb5⟩
    replace cbl := cbl.later hb5
    have s5 := hide hb5.size
    replace hB := hB.trans (hb5.mono hB.size)
    clear hb5
    go_wp2_with fail
    refine (Cl.out w5 (HAl.out.later hB)).mono ?_
    rintro e w6 ⟨rfl, ccl, hb6⟩
    replace cbl := cbl.later hb6
    have s6 := hide hb6.size
    replace hB := hB.trans (hb6.mono hB.size)
    clear hb6
    go_wp2_with fail
    refine (eqP_cp cbl ccl (by omega)).mono ?_
    rintro e w7 ⟨rfl, hb7⟩
    clear ccl
    replace cbl := cbl.later hb7
    have s7 := hide hb7.size
    replace hB := hB.trans (hb7.mono hB.size)
    clear hb7
    go_wp2
    go_ret
    exact ⟨rfl, hB⟩
  · have hrSl := fun i hi => (hrl i hi).1
    go_enter Tryd.func4, Tryd.ntmps4
    have Z0 := hide (szP_from hal hrSl hll 1048576 (by omega))
    go_wp2_with fail
    refine Z0.out.mono ?_
    rintro e z0 ⟨rfl, hz0⟩
    rw [if_neg fsl]
    go_wp2
    go_ret
    exact ⟨rfl, hz0⟩

end Go.Proofs.YtmjehpigfkobeaaDoor
