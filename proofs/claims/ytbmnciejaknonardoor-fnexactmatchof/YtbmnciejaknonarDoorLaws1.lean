/- The laws of DepthAt and MatchOf: whatever the arguments, they answer true and turn nothing old. -/
import Derived.Test.YtbmnciejaknonarDoorWalks5
namespace Go.Proofs.YtbmnciejaknonarDoor
open Go.RowKit
open Doc1

set_option maxHeartbeats 400000 in
theorem law_depthAt (s : ByteArray) (a : Int) (w : World) (hm : s.size ≤ maxLen) (hT : Tab w) :
    Calls Tryd.prog 5 #[.string s, .int .i64 a] w fun e w' => e = .returned (.bool true) ∧ Below w.heap.size w w' := by
  unfold maxLen at hm
  by_cases hs : s.size ≤ 1048576
  · have c1 := depthAtS_any s a w hs
    have c2 := depthAtI_any s a w hs hT
    obtain ⟨x, hx⟩ : ∃ x, x = (depAt s.data.toList a).1 := ⟨_, rfl⟩
    obtain ⟨b, hb⟩ : ∃ b, b = (depAt s.data.toList a).2 := ⟨_, rfl⟩
    rw [← hx, ← hb] at c1 c2
    have H1 := hide c1
    have H2 := hide c2
    clear c1 c2 hT hx hb
    go_enter Tryd.func5, Tryd.ntmps5
    go_wp2_with (first | (go_at_call 11; refine (H1.out).mono ?_; rintro e w' ⟨rfl, hw⟩; replace hw := hw.symm; subst hw) | (go_at_call 12; refine (H2.out).mono ?_; rintro e w' ⟨rfl, hbel⟩))
    all_goals first
      | (go_ret; exact ⟨rfl, hbel⟩)
      | (exfalso; simp_all)
  · go_enter Tryd.func5, Tryd.ntmps5
    go_wp2
    go_ret
    exact ⟨rfl, Below.refl _ _⟩

set_option maxHeartbeats 400000 in
theorem law_matchOf (s : ByteArray) (a : Int) (w : World) (hm : s.size ≤ maxLen) (hT : Tab w) :
    Calls Tryd.prog 6 #[.string s, .int .i64 a] w fun e w' => e = .returned (.bool true) ∧ Below w.heap.size w w' := by
  unfold maxLen at hm
  by_cases hs : s.size ≤ 1048576
  · obtain ⟨x, b, hx⟩ := mt_ex s a
    have c1 := matchS_any s a x b w hs hx
    have c2 := matchI_any s a x b w hs hT hx
    have H1 := hide c1
    have H2 := hide c2
    clear c1 c2 hT hx
    go_enter Tryd.func6, Tryd.ntmps6
    go_wp2_with (first | (go_at_call 13; refine (H1.out).mono ?_; rintro e w' ⟨rfl, hw⟩; replace hw := hw.symm; subst hw) | (go_at_call 14; refine (H2.out).mono ?_; rintro e w' ⟨rfl, hbel⟩))
    all_goals first
      | (go_ret; exact ⟨rfl, hbel⟩)
      | (exfalso; simp_all)
  · go_enter Tryd.func6, Tryd.ntmps6
    go_wp2
    go_ret
    exact ⟨rfl, Below.refl _ _⟩
end Go.Proofs.YtbmnciejaknonarDoor
