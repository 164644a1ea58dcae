/- The law of ReplaceAll: whatever the texts, it answers true and turns nothing old. -/
import Derived.Test.YtfiefklhhchebabDoorRepY
namespace Go.Proofs.YtfiefklhhchebabDoor
open Go.RowKit
open Doc1

theorem replaceAll_both (s p W : ByteArray) (hs : s.size ≤ 1048576) (hp : p.size ≤ 1048576) (hW : W.size ≤ 1048576) :
    ∃ (t : ByteArray) (n : Int) (b : Bool), (∀ (w : World), Calls Tryd.prog 8 #[.string s, .string p, .string W] w fun e w' => e = .returned (.tuple #[.string t, .int .i64 n, .bool b]) ∧ Below w.heap.size w w') ∧
      (∀ (w : World), Tab w → Calls Tryd.prog 9 #[.string s, .string p, .string W] w fun e w' => e = .returned (.tuple #[.string t, .int .i64 n, .bool b]) ∧ Below w.heap.size w w') :=
  ⟨raT p s W, raN p s W, raB p s W, fun w => allS_any p s W w hp hs hW, fun w hT => allI_any p s W w hp hs hW hT⟩

set_option maxRecDepth 100000 in
set_option maxHeartbeats 4000000 in
theorem law_replaceAll (s : ByteArray) (p : ByteArray) (W : ByteArray) (w : World) (hms : s.size ≤ maxLen) (hmp : p.size ≤ maxLen) (hmW : W.size ≤ maxLen) (hT : Tab w) :
    Calls Tryd.prog 4 #[.string s, .string p, .string W] w fun e w' => e = .returned (.bool true) ∧ Below w.heap.size w w' := by
  unfold maxLen at hms
  unfold maxLen at hmp
  unfold maxLen at hmW
  by_cases fss : s.size ≤ 1048576
  · skip
    by_cases fsp : p.size ≤ 1048576
    · skip
      by_cases fsW : W.size ≤ 1048576
      · skip
        obtain ⟨T0, T1, T2, HS, HI⟩ := replaceAll_both s p W fss fsp fsW 
        replace HS := hide HS
        replace HI := hide HI
        have hB := Below.refl w.heap.size w
        go_enter Tryd.func4, Tryd.ntmps4
        go_wp2_with fail
        refine (HS.out w).mono ?_
        rintro e w1 ⟨rfl, hb1⟩
        have s1 := hide hb1.size
        replace hB := hB.trans (hb1.mono hB.size)
        clear hb1
        go_wp2_with fail
        refine (HI.out w1 (hT.below hB)).mono ?_
        rintro e w2 ⟨rfl, hb2⟩
        have s2 := hide hb2.size
        replace hB := hB.trans (hb2.mono hB.size)
        clear hb2
        go_wp2
        go_ret
        exact ⟨rfl, hB⟩
      · go_enter Tryd.func4, Tryd.ntmps4
        go_wp2
        go_ret
        exact ⟨rfl, Below.refl _ _⟩
    · go_enter Tryd.func4, Tryd.ntmps4
      go_wp2
      go_ret
      exact ⟨rfl, Below.refl _ _⟩
  · go_enter Tryd.func4, Tryd.ntmps4
    go_wp2
    go_ret
    exact ⟨rfl, Below.refl _ _⟩

end Go.Proofs.YtfiefklhhchebabDoor
