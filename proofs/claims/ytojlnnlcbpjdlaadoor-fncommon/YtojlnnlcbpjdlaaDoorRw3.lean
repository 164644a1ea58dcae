/- How far two texts are apart: the program's DistanceOf and EditsOf. -/
import Derived.Test.YtojlnnlcbpjdlaaDoorRw2
set_option linter.unusedVariables false
namespace Go.Proofs.YtojlnnlcbpjdlaaDoor
open Go.RowKit
open Doc1

set_option maxRecDepth 100000 in
set_option maxHeartbeats 2000000 in
theorem apart_any (t G : Nat) (a b : ByteArray) (w : World) (hr : TbAt w G t a b 0) :
    Calls Tryd.prog 90 #[.agg #[.string a, .string b, .slice (some ⟨G, 0, none⟩) (a.size + 1) (a.size + 1)]] w fun e w' => e = .returned (.int .i64 (edF t a.data.toList b.data.toList 0)) ∧ Below w.heap.size w w' := by
  have c0 := ((hr.r 0 (Nat.le_refl _) (Nat.zero_le _)).alloc (.cells #[.string a, .string b, .slice (some ⟨G, 0, none⟩) (a.size + 1) (a.size + 1)] 123)).c 0 (by omega)
  rw [List.drop_zero] at c0
  simp only [Nat.zero_mul, Nat.add_zero] at c0
  obtain ⟨x, hx⟩ : ∃ x, edF t a.data.toList b.data.toList 0 = x := ⟨_, rfl⟩
  rw [hx] at c0 ⊢
  clear hx hr
  go_enter Tryd.func90, Tryd.ntmps90
  go_wp2
  go_ret
  exact ⟨rfl, (Below.refl _ _).alloc (Nat.le_refl _) _⟩

/-- What DistanceOf and EditsOf answer. -/
def edA (t : Nat) (a b : List UInt8) : Int := if good a && good b then (ed t a b : Int) else 0
theorem good_len' {s : ByteArray} (h : good s.data.toList = true) : s.size ≤ 300 := by
  unfold good at h
  simp only [Bool.and_eq_true, decide_eq_true_eq] at h
  simpa using h.2
theorem edF_0 (t : Nat) (a b : List UInt8) : edF t a b 0 = (ed t a b : Int) := by unfold edF; rw [if_pos (Nat.zero_le _)]; rfl

set_option maxRecDepth 100000 in
set_option maxHeartbeats 2000000 in
theorem distI_any (a b : ByteArray) (w : World) (ha : a.size ≤ 1048576) (hb : b.size ≤ 1048576) (hT : Tab w) :
    Calls Tryd.prog 37 #[.string a, .string b] w fun e w' => e = .returned (.tuple #[.int .i64 (edA 2 a.data.toList b.data.toList), .bool (good a.data.toList && good b.data.toList)]) ∧ Below w.heap.size w w' := by
  by_cases h : (good a.data.toList && good b.data.toList) = true
  · unfold edA
    rw [h, if_pos rfl, ← edF_0]
    rw [Bool.and_eq_true] at h
    have M := hide (measure_good 2 a b w hT h.1 h.2 (good_len' h.1) (good_len' h.2) (by omega))
    have AP := hide (fun G w1 (h : TbAt w1 G 2 a b 0) => apart_any 2 G a b w1 h)
    clear h hT
    go_enter Tryd.func37, Tryd.ntmps37
    go_wp2_with fail
    refine M.out.mono ?_
    rintro e w1 ⟨G, rfl, hG, hTb, hb1⟩
    have HT := hide (And.intro hTb hb1)
    clear hTb hb1 M
    go_wp2_with fail
    refine (AP.out G _ (HT.out.1.later ((Below.refl _ _).alloc (Nat.le_refl _) _))).mono ?_
    rintro e w2 ⟨rfl, hb2⟩
    go_wp2
    go_ret2
    exact ⟨rfl, (HT.out.2.alloc HT.out.2.size _).trans (hb2.mono (by have := HT.out.2.size; simp; omega))⟩
  · rw [Bool.not_eq_true] at h
    unfold edA
    rw [h]
    have M := hide (measure_bad 2 a b w hT ha hb h)
    clear h hT
    go_enter Tryd.func37, Tryd.ntmps37
    go_wp2_with fail
    refine M.out.mono ?_
    rintro e w1 ⟨rfl, hb1⟩
    go_wp2
    go_ret2
    exact ⟨rfl, hb1.alloc hb1.size _⟩

set_option maxRecDepth 100000 in
set_option maxHeartbeats 2000000 in
theorem editsI_any (a b : ByteArray) (w : World) (ha : a.size ≤ 1048576) (hb : b.size ≤ 1048576) (hT : Tab w) :
    Calls Tryd.prog 39 #[.string a, .string b] w fun e w' => e = .returned (.tuple #[.int .i64 (edA 1 a.data.toList b.data.toList), .bool (good a.data.toList && good b.data.toList)]) ∧ Below w.heap.size w w' := by
  by_cases h : (good a.data.toList && good b.data.toList) = true
  · unfold edA
    rw [h, if_pos rfl, ← edF_0]
    rw [Bool.and_eq_true] at h
    have M := hide (measure_good 1 a b w hT h.1 h.2 (good_len' h.1) (good_len' h.2) (by omega))
    have AP := hide (fun G w1 (h : TbAt w1 G 1 a b 0) => apart_any 1 G a b w1 h)
    clear h hT
    go_enter Tryd.func39, Tryd.ntmps39
    go_wp2_with fail
    refine M.out.mono ?_
    rintro e w1 ⟨G, rfl, hG, hTb, hb1⟩
    have HT := hide (And.intro hTb hb1)
    clear hTb hb1 M
    go_wp2_with fail
    refine (AP.out G _ (HT.out.1.later ((Below.refl _ _).alloc (Nat.le_refl _) _))).mono ?_
    rintro e w2 ⟨rfl, hb2⟩
    go_wp2
    go_ret2
    exact ⟨rfl, (HT.out.2.alloc HT.out.2.size _).trans (hb2.mono (by have := HT.out.2.size; simp; omega))⟩
  · rw [Bool.not_eq_true] at h
    unfold edA
    rw [h]
    have M := hide (measure_bad 1 a b w hT ha hb h)
    clear h hT
    go_enter Tryd.func39, Tryd.ntmps39
    go_wp2_with fail
    refine M.out.mono ?_
    rintro e w1 ⟨rfl, hb1⟩
    go_wp2
    go_ret2
    exact ⟨rfl, hb1.alloc hb1.size _⟩
end Go.Proofs.YtojlnnlcbpjdlaaDoor
