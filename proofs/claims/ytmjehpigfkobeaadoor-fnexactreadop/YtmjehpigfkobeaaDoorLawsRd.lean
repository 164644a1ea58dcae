/- The laws of ReadOp: whatever the parts, each answers true and turns nothing old. -/
import Derived.Test.YtmjehpigfkobeaaDoorRdT
import Derived.Test.YtmjehpigfkobeaaDoorLawsO1
namespace Go.Proofs.YtmjehpigfkobeaaDoor
open Go.RowKit
open Doc1

theorem rdO_len (s : List UInt8) : (rdO s).1.length ≤ 10000000 := by
  unfold rdO
  split
  · split
    · split
      · rename_i l _ hg
        have := goodO_few hg
        show l.length ≤ _
        omega
      · simp
    · simp
  · simp
theorem readOp_both (s : ByteArray) (hf : s.size ≤ 1048576) :
    ∃ (T : List Pt) (b : Bool), T.length ≤ 10000000 ∧ (∀ (w : World), Tab w → Calls Tryd.prog 22 #[.string s] w fun e w' => ∃ v, e = .returned (.tuple #[v, .bool b]) ∧ POwn w' w.heap.size v T ∧ Below w.heap.size w w') ∧
      (∀ (w : World), Tab w → Calls Tryd.prog 10 #[.string s] w fun e w' => ∃ v, e = .returned (.tuple #[v, .bool b]) ∧ POwn w' w.heap.size v T ∧ Below w.heap.size w w') :=
  ⟨(rdO s.data.toList).1, (rdO s.data.toList).2, rdO_len _, fun w hT => readOpS s w hf hT, fun w hT => readOpI s w hf hT⟩

set_option maxRecDepth 100000 in
set_option maxHeartbeats 4000000 in
theorem law_readOp (s : ByteArray) (w : World) (hms : s.size ≤ maxLen) (hT : Tab w) :
    Calls Tryd.prog 5 #[.string s] w fun e w' => e = .returned (.bool true) ∧ Below w.heap.size w w' := by
  unfold maxLen at hms
  by_cases fss : s.size ≤ 1048576
  · skip
    obtain ⟨T0, T1, len0, HS, HI⟩ := readOp_both s fss 
    replace HS := hide HS
    replace HI := hide HI
    have hB := Below.refl w.heap.size w
    go_enter Tryd.func5, Tryd.ntmps5
    go_wp2_with fail
    refine (HS.out w hT).mono ?_
    rintro e w1 ⟨x0, rfl, ox0, hb1⟩
    have lx0 := hide ox0.lt
    have s1 := hide hb1.size
    replace hB := hB.trans (hb1.mono hB.size)
    clear hb1
    go_wp2_with fail
    refine (HI.out w1 (hT.below hB)).mono ?_
    rintro e w2 ⟨y0, rfl, oy0, hb2⟩
    have ly0 := hide oy0.lt
    replace ox0 := own_below ox0 hb2
    have s2 := hide hb2.size
    replace hB := hB.trans (hb2.mono hB.size)
    clear hb2
    go_wp2_with fail
    refine (eqP_own oy0 ox0 (by omega)).mono ?_
    rintro e w3 ⟨rfl, hb3⟩
    replace ox0 := own_below ox0 hb3
    replace oy0 := own_below oy0 hb3
    have s3 := hide hb3.size
    replace hB := hB.trans (hb3.mono hB.size)
    clear hb3
    go_wp2_with fail
    refine (markP_own oy0 (by omega)).mono ?_
    rintro e w4 ⟨rfl, hb4, m0⟩
    clear oy0
    replace ox0 := own_grown ox0 hb4 (fun b hb' e => by have q0 := s1.out; have q1 := s2.out; have q2 := s3.out; have u1 := ly0.out _ e; have u0 := lx0.out b hb'; omega)
    have s4 := hide hb4.size
    replace hB := hB.grown hb4 hB.size (fun b e => by have q0 := s1.out; have q1 := s2.out; have q2 := s3.out; have u1 := ly0.out _ e; omega)
    clear hb4
    go_wp2_with fail
    refine (heldP_own m0 (by omega)).mono ?_
    rintro e w5 ⟨rfl, hb5⟩
    replace ox0 := own_below ox0 hb5
    replace m0 := m0.later hb5
    have s5 := hide hb5.size
    replace hB := hB.trans (hb5.mono hB.size)
    clear hb5
    go_wp2_with fail
    refine (HI.out w5 (hT.below hB)).mono ?_
    rintro e w6 ⟨z0, rfl, oz0, hb6⟩
    have lz0 := hide oz0.lt
    replace ox0 := own_below ox0 hb6
    replace m0 := m0.later hb6
    have s6 := hide hb6.size
    replace hB := hB.trans (hb6.mono hB.size)
    clear hb6
    go_wp2_with fail
    refine (eqP_own oz0 ox0 (by omega)).mono ?_
    rintro e w7 ⟨rfl, hb7⟩
    replace ox0 := own_below ox0 hb7
    replace m0 := m0.later hb7
    replace oz0 := own_below oz0 hb7
    have s7 := hide hb7.size
    replace hB := hB.trans (hb7.mono hB.size)
    clear hb7
    clear oz0 ox0
    go_wp2_with fail
    refine (heldP_own m0 (by omega)).mono ?_
    rintro e w8 ⟨rfl, hb8⟩
    replace m0 := m0.later hb8
    have s8 := hide hb8.size
    replace hB := hB.trans (hb8.mono hB.size)
    clear hb8
    go_wp2
    go_ret
    exact ⟨rfl, hB⟩
  · go_enter Tryd.func5, Tryd.ntmps5
    go_wp2
    go_ret
    exact ⟨rfl, Below.refl _ _⟩

end Go.Proofs.YtmjehpigfkobeaaDoor
