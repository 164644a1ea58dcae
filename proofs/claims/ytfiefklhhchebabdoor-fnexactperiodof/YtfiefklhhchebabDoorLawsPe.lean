/- The law of PeriodOf: whatever the texts, it answers true and turns nothing old. -/
import Derived.Test.YtfiefklhhchebabDoorKmp7
namespace Go.Proofs.YtfiefklhhchebabDoor
open Go.RowKit
open Doc1

theorem periodOf_both (p : ByteArray) (hp : p.size ≤ 1048576) :
    ∃ (x : Int) (y : Bool), (∀ (w : World), Calls Tryd.prog 6 #[.string p] w fun e w' => e = .returned (.tuple #[.int .i64 x, .bool y]) ∧ Below w.heap.size w w') ∧
      (∀ (w : World), Tab w → Calls Tryd.prog 7 #[.string p] w fun e w' => e = .returned (.tuple #[.int .i64 x, .bool y]) ∧ Below w.heap.size w w') :=
  ⟨perO p, sgt p, fun w => periS_any p w hp, fun w hT => periI_any p w hp hT⟩

set_option maxRecDepth 100000 in
set_option maxHeartbeats 4000000 in
theorem law_periodOf (p : ByteArray) (w : World) (hmp : p.size ≤ maxLen) (hT : Tab w) :
    Calls Tryd.prog 3 #[.string p] w fun e w' => e = .returned (.bool true) ∧ Below w.heap.size w w' := by
  unfold maxLen at hmp
  by_cases fsp : p.size ≤ 1048576
  · skip
    obtain ⟨T0, T1, HS, HI⟩ := periodOf_both p fsp 
    replace HS := hide HS
    replace HI := hide HI
    have hB := Below.refl w.heap.size w
    go_enter Tryd.func3, Tryd.ntmps3
    go_wp2_with fail
    refine (HS.out w).mono ?_
    rintro e w1 ⟨rfl, hb1⟩
    have s1 := hide hb1.size
    replace hB := hB.trans (hb1.mono hB.size)
    clear hb1
    go_wp2_with fail
    refine (HI.out w1 (hT.below hB)).mono ?_
    rintro e w2 ⟨rfl, hb2⟩
    have s2 := hide hb2.size
    replace hB := hB.trans (hb2.mono hB.size)
    clear hb2
    go_wp2
    go_ret
    exact ⟨rfl, hB⟩
  · go_enter Tryd.func3, Tryd.ntmps3
    go_wp2
    go_ret
    exact ⟨rfl, Below.refl _ _⟩

end Go.Proofs.YtfiefklhhchebabDoor
