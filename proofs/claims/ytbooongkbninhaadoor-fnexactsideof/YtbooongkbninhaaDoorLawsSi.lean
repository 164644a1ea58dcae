/- The law of SideOf: whatever the texts, it answers true and turns nothing old. -/
import Derived.Test.YtbooongkbninhaaDoorSid1
namespace Go.Proofs.YtbooongkbninhaaDoor
open Go.RowKit
open Doc1

theorem sideOf_both (c a b : ByteArray) (hc : c.size ≤ 1048576) (ha : a.size ≤ 1048576) (hb : b.size ≤ 1048576) :
    ∃ (x : Int) (y : Bool), (∀ (w : World), Calls Tryd.prog 20 #[.string c, .string a, .string b] w fun e w' => e = .returned (.tuple #[.int .i64 x, .bool y]) ∧ Below w.heap.size w w') ∧
      (∀ (w : World), Tab w → Calls Tryd.prog 21 #[.string c, .string a, .string b] w fun e w' => e = .returned (.tuple #[.int .i64 x, .bool y]) ∧ Below w.heap.size w w') :=
  ⟨_, _, fun w => sideS c a b w hc ha hb, fun w hT => sideI c a b w hc ha hb hT⟩

set_option maxRecDepth 100000 in
set_option maxHeartbeats 4000000 in
theorem law_sideOf (c : ByteArray) (a : ByteArray) (b : ByteArray) (w : World) (hmc : c.size ≤ maxLen) (hma : a.size ≤ maxLen) (hmb : b.size ≤ maxLen) (hT : Tab w) :
    Calls Tryd.prog 5 #[.string c, .string a, .string b] w fun e w' => e = .returned (.bool true) ∧ Below w.heap.size w w' := by
  unfold maxLen at hmc
  unfold maxLen at hma
  unfold maxLen at hmb
  by_cases fsc : c.size ≤ 1048576
  · skip
    by_cases fsa : a.size ≤ 1048576
    · skip
      by_cases fsb : b.size ≤ 1048576
      · skip
        obtain ⟨T0, T1, HS, HI⟩ := sideOf_both c a b fsc fsa fsb 
        replace HS := hide HS
        replace HI := hide HI
        have hB := Below.refl w.heap.size w
        go_enter Tryd.func5, Tryd.ntmps5
        go_wp2_with fail
        refine (HS.out w).mono ?_
        rintro e w1 ⟨rfl, hb1⟩
        have s1 := hide hb1.size
        replace hB := hB.trans (hb1.mono hB.size)
        clear hb1
        go_wp2_with fail
        refine (HI.out w1 (hT.below hB)).mono ?_
        rintro e w2 ⟨rfl, hb2⟩
        have s2 := hide hb2.size
        replace hB := hB.trans (hb2.mono hB.size)
        clear hb2
        go_wp2
        go_ret
        exact ⟨rfl, hB⟩
      · go_enter Tryd.func5, Tryd.ntmps5
        go_wp2
        go_ret
        exact ⟨rfl, Below.refl _ _⟩
    · go_enter Tryd.func5, Tryd.ntmps5
      go_wp2
      go_ret
      exact ⟨rfl, Below.refl _ _⟩
  · go_enter Tryd.func5, Tryd.ntmps5
    go_wp2
    go_ret
    exact ⟨rfl, Below.refl _ _⟩

end Go.Proofs.YtbooongkbninhaaDoor
