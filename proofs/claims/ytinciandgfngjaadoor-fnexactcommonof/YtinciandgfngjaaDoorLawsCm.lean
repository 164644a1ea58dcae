/- The law of CommonOf: whatever the texts, it answers true and turns nothing old. -/
import Derived.Test.YtinciandgfngjaaDoorCom4
namespace Go.Proofs.YtinciandgfngjaaDoor
open Go.RowKit
open Doc1

set_option maxRecDepth 100000 in
set_option maxHeartbeats 4000000 in
theorem law_commonOf (a : ByteArray) (b : ByteArray) (w : World) (hma : a.size ≤ maxLen) (hmb : b.size ≤ maxLen) (hT : Tab w) :
    Calls Tryd.prog 4 #[.string a, .string b] w fun e w' => e = .returned (.bool true) ∧ Below w.heap.size w w' := by
  unfold maxLen at hma
  unfold maxLen at hmb
  by_cases fsa : a.size ≤ 1048576
  · skip
    by_cases fsb : b.size ≤ 1048576
    · skip
      obtain ⟨T0, T1, HS, HI⟩ := commonOf_both a b fsa fsb 
      replace HS := hide HS
      replace HI := hide HI
      have hB := Below.refl w.heap.size w
      go_enter Tryd.func4, Tryd.ntmps4
      go_wp2_with fail
      refine (HS.out w).mono ?_
      rintro e w1 ⟨rfl, hb1⟩
      have s1 := hide hb1.size
      replace hB := hB.trans (hb1.mono hB.size)
      clear hb1
      go_wp2_with fail
      refine (HI.out w1 (hT.below hB)).mono ?_
      rintro e w2 ⟨rfl, hb2⟩
      have s2 := hide hb2.size
      replace hB := hB.trans (hb2.mono hB.size)
      clear hb2
      go_wp2
      go_ret
      exact ⟨rfl, hB⟩
    · go_enter Tryd.func4, Tryd.ntmps4
      go_wp2
      go_ret
      exact ⟨rfl, Below.refl _ _⟩
  · go_enter Tryd.func4, Tryd.ntmps4
    go_wp2
    go_ret
    exact ⟨rfl, Below.refl _ _⟩

end Go.Proofs.YtinciandgfngjaaDoor
