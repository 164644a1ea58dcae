/- The law of RowOf: whatever the text and the place, it answers true and turns nothing old. -/
import Derived.Test.YtknodkdlphngmayDoorRowW2
namespace Go.Proofs.YtknodkdlphngmayDoor
open Go.RowKit
open Doc1

theorem row_both (s : ByteArray) (a : Int) (hs : s.size ≤ 1048576) :
    ∃ (x : ByteArray) (b : Bool), (∀ (w : World), Calls Tryd.prog 13 #[.string s, .int .i64 a] w fun e w' => e = .returned (.tuple #[.string x, .bool b]) ∧ Below w.heap.size w w') ∧
      (∀ (w : World), Tab w → Calls Tryd.prog 14 #[.string s, .int .i64 a] w fun e w' => e = .returned (.tuple #[.string x, .bool b]) ∧ Below w.heap.size w w') := by
  obtain ⟨T, b, hc⟩ := rc_ex s a
  exact ⟨⟨T.toArray⟩, b, rowS s a T b hc hs, rowI s a T b hc hs⟩

set_option maxRecDepth 100000 in
set_option maxHeartbeats 4000000 in
theorem law_rowOf (s : ByteArray) (a : Int) (w : World) (hms : s.size ≤ maxLen) (hT : Tab w) :
    Calls Tryd.prog 5 #[.string s, .int .i64 a] w fun e w' => e = .returned (.bool true) ∧ Below w.heap.size w w' := by
  unfold maxLen at hms
  by_cases fss : s.size ≤ 1048576
  · skip
    obtain ⟨T0, T1, HS, HI⟩ := row_both s a fss 
    replace HS := hide HS
    replace HI := hide HI
    have hB := Below.refl w.heap.size w
    go_enter Tryd.func5, Tryd.ntmps5
    go_wp2_with fail
    refine (HS.out w).mono ?_
    rintro e w1 ⟨rfl, hb1⟩
    have s1 := hide hb1.size
    replace hB := hB.trans (hb1.mono hB.size)
    clear hb1
    go_wp2_with fail
    refine (HI.out w1 (hT.below hB)).mono ?_
    rintro e w2 ⟨rfl, hb2⟩
    have s2 := hide hb2.size
    replace hB := hB.trans (hb2.mono hB.size)
    clear hb2
    go_wp2
    go_ret
    exact ⟨rfl, hB⟩
  · go_enter Tryd.func5, Tryd.ntmps5
    go_wp2
    go_ret
    exact ⟨rfl, Below.refl _ _⟩

end Go.Proofs.YtknodkdlphngmayDoor
