/- Two texts as the model draws them. -/
import Derived.Test.YtojlnnlcbpjdlaaDoorChg1
set_option linter.unusedVariables false
namespace Go.Proofs.YtojlnnlcbpjdlaaDoor
open Go.RowKit
open Doc1

/-- Two texts as they are drawn. -/
def TwoPost (g : Nat) (w : World) (e : Ending) (w' : World) : Prop :=
  ∃ s t : ByteArray, e = .returned (.tuple #[.string s, .string t]) ∧ s.size ≤ 300 ∧ t.size ≤ 10000000000000000 ∧ w.grownBy w' (some g)

set_option maxRecDepth 100000 in
set_option maxHeartbeats 2000000 in
theorem twoTexts_any (g : Nat) (C : Value) (M : Nat) (w : World) (hcur : CurAt g C M w) (hco : CodeAt g C w) (hC : codeLen C ≤ 1048576) (hM : M ≤ 70000000) :
    Calls Tryd.prog 88 #[.pointer (some ⟨g, 0, none⟩)] w (TwoPost g w) := by
  have P1 := hide (plainText_any g C M w hcur hco (by omega))
  have HCO := hide hco
  clear hcur hco
  go_enter Tryd.func88, Tryd.ntmps88
  go_wp2_with fail
  refine P1.out.mono ?_
  rintro e w1 ⟨s, rfl, hs, hcur1, hg1⟩
  have P2 := hide (pick_any g C (M + 500000) 4 w1 hcur1 (HCO.out.grown hg1) (by omega))
  have HG1 := hide hg1
  clear hcur1 hg1 P1
  go_wp2_with fail
  refine P2.out.mono ?_
  rintro e w2 ⟨y, rfl, hy0, hy1, hy4, hcur2, hg2⟩
  have hg12 := HG1.out.trans hg2
  have HCO2 := hide (HCO.out.grown hg12)
  have HG12 := hide hg12
  clear hg12 hg2 P2 hy4
  by_cases e0 : y = 0
  · subst e0
    have P3 := hide (plainText_any g C (M + 500000 + 2) w2 hcur2 HCO2.out (by omega))
    clear hcur2
    go_wp2_with fail
    refine P3.out.mono ?_
    rintro e w3 ⟨t, rfl, ht, -, hg3⟩
    have HF := hide (HG12.out.trans hg3)
    clear hg3 P3
    go_wp2
    go_ret2
    exact ⟨s, t, rfl, hs, by omega, HF.out⟩
  · by_cases e1 : y = 1
    · subst e1
      clear hcur2
      go_wp2
      go_ret2
      exact ⟨s, s, rfl, hs, by omega, HG12.out⟩
    · have q0 : (y == 0) = false := by simpa using e0
      have q1 : (y == 1) = false := by simpa using e1
      have P3 := hide (changed_any g C (M + 500000 + 2) s w2 hcur2 HCO2.out hC (by omega) hs)
      clear hcur2
      go_wp2_with fail
      refine P3.out.mono ?_
      rintro e w3 ⟨t, rfl, ht, -, hg3⟩
      have HF := hide (HG12.out.trans hg3)
      clear hg3 P3
      go_wp2
      go_ret2
      exact ⟨s, t, rfl, hs, ht, HF.out⟩

/-- What is drawn for two texts. -/
def DrawnTexts (w : World) (e : Ending) (w' : World) : Prop := ∃ s t : ByteArray, e = .returned (.tuple #[.string s, .string t]) ∧ s.size ≤ 300 ∧ t.size ≤ 10000000000000000 ∧ Below w.heap.size w w'

set_option maxRecDepth 100000 in
set_option maxHeartbeats 1000000 in
theorem drawDistanceOf_any (C : Value) (w : World) (hco : CodeAt w.heap.size C w) (hC : codeLen C ≤ 1048576) :
    Calls Tryd.prog 35 #[C] w (DrawnTexts w) := by
  have hcur := cur_new w C
  have hco1 := hco.grown (World.grownBy_alloc w (.cells #[C, .int .i64 0, .int .u64 0] 75) (some w.heap.size))
  obtain ⟨a, len, cap, rfl⟩ := hco.shape
  have T := hide (twoTexts_any _ _ _ _ hcur hco1 hC (by omega))
  clear hco hcur hco1
  go_enter Tryd.func35, Tryd.ntmps35
  go_wp2_with fail
  refine T.out.mono ?_
  rintro e w1 ⟨s, t, rfl, hs, ht, hg⟩
  have HB := hide (below_of_grown hg)
  clear hg T
  go_wp2
  go_ret2
  exact ⟨s, t, rfl, hs, ht, HB.out⟩

theorem drawEditsOf_any (C : Value) (w : World) (hco : CodeAt w.heap.size C w) (hC : codeLen C ≤ 1048576) :
    Calls Tryd.prog 36 #[C] w (DrawnTexts w) := by
  obtain ⟨a, len, cap, rfl⟩ := hco.shape
  have T := hide (drawDistanceOf_any _ w hco hC)
  clear hco
  go_enter Tryd.func36, Tryd.ntmps36
  go_wp2_with fail
  refine T.out.mono ?_
  rintro e w1 ⟨s, t, rfl, hs, ht, hb⟩
  go_wp2
  go_ret2
  exact ⟨s, t, rfl, hs, ht, hb⟩

theorem drawCommonOf_any (C : Value) (w : World) (hco : CodeAt w.heap.size C w) (hC : codeLen C ≤ 1048576) :
    Calls Tryd.prog 48 #[C] w (DrawnTexts w) := by
  obtain ⟨a, len, cap, rfl⟩ := hco.shape
  have T := hide (drawDistanceOf_any _ w hco hC)
  clear hco
  go_enter Tryd.func48, Tryd.ntmps48
  go_wp2_with fail
  refine T.out.mono ?_
  rintro e w1 ⟨s, t, rfl, hs, ht, hb⟩
  go_wp2
  go_ret2
  exact ⟨s, t, rfl, hs, ht, hb⟩

theorem drawDiffOps_any (C : Value) (w : World) (hco : CodeAt w.heap.size C w) (hC : codeLen C ≤ 1048576) :
    Calls Tryd.prog 42 #[C] w (DrawnTexts w) := by
  obtain ⟨a, len, cap, rfl⟩ := hco.shape
  have T := hide (drawDistanceOf_any _ w hco hC)
  clear hco
  go_enter Tryd.func42, Tryd.ntmps42
  go_wp2_with fail
  refine T.out.mono ?_
  rintro e w1 ⟨s, t, rfl, hs, ht, hb⟩
  go_wp2
  go_ret2
  exact ⟨s, t, rfl, hs, ht, hb⟩
end Go.Proofs.YtojlnnlcbpjdlaaDoor
