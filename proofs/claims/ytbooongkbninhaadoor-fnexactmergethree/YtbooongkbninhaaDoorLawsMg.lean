/- The law of MergeThree: whatever the texts, it answers true and turns nothing old. -/
import Derived.Test.YtbooongkbninhaaDoorMrgZ
namespace Go.Proofs.YtbooongkbninhaaDoor
open Go.RowKit
open Doc1

theorem mergeThree_both (c a b : ByteArray) (hc : c.size ≤ 1048576) (ha : a.size ≤ 1048576) (hb : b.size ≤ 1048576) :
    ∃ (t : ByteArray) (x : Int) (y : Bool), (∀ (w : World), Tab w → Calls Tryd.prog 18 #[.string c, .string a, .string b] w fun e w' => e = .returned (.tuple #[.string t, .int .i64 x, .bool y]) ∧ Below w.heap.size w w') ∧
      (∀ (w : World), Tab w → Calls Tryd.prog 19 #[.string c, .string a, .string b] w fun e w' => e = .returned (.tuple #[.string t, .int .i64 x, .bool y]) ∧ Below w.heap.size w w') :=
  ⟨_, _, _, fun w hT => mergeThreeS c a b w (Nat.lt_of_le_of_lt (Nat.zero_le _) hT.lt) hc ha hb, fun w hT => mergeThreeI c a b w hT hc ha hb⟩

set_option maxRecDepth 100000 in
set_option maxHeartbeats 4000000 in
theorem law_mergeThree (c : ByteArray) (a : ByteArray) (b : ByteArray) (w : World) (hmc : c.size ≤ maxLen) (hma : a.size ≤ maxLen) (hmb : b.size ≤ maxLen) (hT : Tab w) :
    Calls Tryd.prog 4 #[.string c, .string a, .string b] w fun e w' => e = .returned (.bool true) ∧ Below w.heap.size w w' := by
  unfold maxLen at hmc
  unfold maxLen at hma
  unfold maxLen at hmb
  by_cases fsc : c.size ≤ 1048576
  · skip
    by_cases fsa : a.size ≤ 1048576
    · skip
      by_cases fsb : b.size ≤ 1048576
      · skip
        obtain ⟨T0, T1, T2, HS, HI⟩ := mergeThree_both c a b fsc fsa fsb 
        replace HS := hide HS
        replace HI := hide HI
        have hB := Below.refl w.heap.size w
        go_enter Tryd.func4, Tryd.ntmps4
        go_wp2_with fail
        refine (HS.out w hT).mono ?_
        rintro e w1 ⟨rfl, hb1⟩
        have s1 := hide hb1.size
        replace hB := hB.trans (hb1.mono hB.size)
        clear hb1
        go_wp2_with fail
        refine (HI.out w1 (hT.below hB)).mono ?_
        rintro e w2 ⟨rfl, hb2⟩
        have s2 := hide hb2.size
        replace hB := hB.trans (hb2.mono hB.size)
        clear hb2
        go_wp2
        go_ret
        exact ⟨rfl, hB⟩
      · go_enter Tryd.func4, Tryd.ntmps4
        go_wp2
        go_ret
        exact ⟨rfl, Below.refl _ _⟩
    · go_enter Tryd.func4, Tryd.ntmps4
      go_wp2
      go_ret
      exact ⟨rfl, Below.refl _ _⟩
  · go_enter Tryd.func4, Tryd.ntmps4
    go_wp2
    go_ret
    exact ⟨rfl, Below.refl _ _⟩

end Go.Proofs.YtbooongkbninhaaDoor
