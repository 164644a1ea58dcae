/- The least change: the model's DiffOps, whole, and what both answer. -/
import Derived.Test.YtinciandgfngjaaDoorDif4
set_option linter.unusedVariables false
namespace Go.Proofs.YtinciandgfngjaaDoor
open Go.RowKit
open Doc1

theorem good_all {s : List UInt8} (h : good s = true) : ∀ c ∈ s, okC c = true := by
  unfold good allOk at h
  simp only [Bool.and_eq_true] at h
  exact List.all_eq_true.1 h.1
theorem dst_good {a b : List UInt8} (h1 : good a = true) (h2 : good b = true) : ∀ x ∈ dst a b, so x ∧ (x.k = 1 → x.c = 0) := dst_so _ a b (Nat.le_refl _) (good_all h1) (good_all h2)
theorem dst_600 {a b : ByteArray} (ha : a.size ≤ 300) (hb : b.size ≤ 300) : (dst a.data.toList b.data.toList).length ≤ 600 := by
  have := dst_len _ a.data.toList b.data.toList (Nat.le_refl _)
  simp at this
  omega

set_option maxRecDepth 100000 in
set_option maxHeartbeats 4000000 in
theorem diffS_good (a b : ByteArray) (w : World) (h1 : good a.data.toList = true) (h2 : good b.data.toList = true) (ha : a.size ≤ 300) (hb : b.size ≤ 300) :
    Calls Tryd.prog 13 #[.string a, .string b] w fun e w' => ∃ v, e = .returned (.tuple #[v, .bool (dfG a.data.toList b.data.toList)]) ∧ POwn w' w.heap.size v (dfO a.data.toList b.data.toList) ∧ Below w.heap.size w w' := by
  have H1 := l9Texts_any a b w (by omega) (by omega)
  rw [h1, h2] at H1
  replace H1 := hide H1
  have hd := dst_good h1 h2
  have hl := dst_600 ha hb
  have T := hide (l9Diff_any a b w ha hb (fun x hx => (hd x hx).1))
  rw [norm_P _ hd] at T
  have hpk : ∀ p ∈ (dst a.data.toList b.data.toList).map stP, pk p ≠ 0 := fun p hh => by
    obtain ⟨y, hy, rfl⟩ := List.mem_map.1 hh
    exact pk_P (hd y hy).1
  have hn := norm_bd _ hpk _ (Nat.le_refl _)
  rw [List.take_length, List.length_map, norm_P _ hd] at hn
  unfold dfO dfG
  generalize (gath g0 (dst a.data.toList b.data.toList)).out = O at *
  have GO : Hid (∀ w1 v, 0 < w1.heap.size → POwn w1 w.heap.size v O → Calls Tryd.prog 33 #[v] w1 fun e w' => e = .returned (.bool (goodO O)) ∧ Below w1.heap.size w1 w') := hide (fun w1 v h0 ho => by
    obtain ⟨aw, g, cap, rfl, hp⟩ := own_pinD ho h0 (fun p hp => by have := (hn.2 p hp).2; have h6 : 300 * (dst a.data.toList b.data.toList).length ≤ 180000 := (by omega); omega) (by omega)
    exact goodOpS hp)
  clear h1 h2 hd hpk hn hl
  cases hg : goodO O with
  | true =>
    rw [hg] at GO
    simp only [if_true]
    clear hg
    go_enter Tryd.func13, Tryd.ntmps13
    go_wp2_with fail
    refine H1.out.mono ?_
    rintro e w' ⟨rfl, hw⟩
    replace hw := hw.symm
    subst hw
    go_wp2_with fail
    refine T.out.mono ?_
    rintro e w2 ⟨v, rfl, ho, hb2, hlt⟩
    have GO' := hide (GO.out w2 v (by omega) ho)
    have HO := hide (And.intro ho hb2)
    clear ho hb2 T GO
    go_wp2_with fail
    refine GO'.out.mono ?_
    rintro e w3 ⟨rfl, hb3⟩
    have HF := hide (And.intro (own_below HO.out.1 hb3) (HO.out.2.trans (hb3.mono HO.out.2.size)))
    clear hb3 HO GO'
    go_wp2
    go_ret2
    exact ⟨v, rfl, HF.out.1, HF.out.2⟩
  | false =>
    rw [hg] at GO
    simp only [Bool.false_eq_true, if_false]
    clear hg
    go_enter Tryd.func13, Tryd.ntmps13
    go_wp2_with fail
    refine H1.out.mono ?_
    rintro e w' ⟨rfl, hw⟩
    replace hw := hw.symm
    subst hw
    go_wp2_with fail
    refine T.out.mono ?_
    rintro e w2 ⟨v, rfl, ho, hb2, hlt⟩
    have GO' := hide (GO.out w2 v (by omega) ho)
    have HO := hide (And.intro ho hb2)
    clear ho hb2 T GO
    go_wp2_with fail
    refine GO'.out.mono ?_
    rintro e w3 ⟨rfl, hb3⟩
    have HF := hide (And.intro (own_below HO.out.1 hb3) (HO.out.2.trans (hb3.mono HO.out.2.size)))
    clear hb3 HO GO'
    go_wp2
    go_ret2
    exact ⟨_, rfl, World.ownsRow_nil _ _ _ _, HF.out.2⟩

set_option maxRecDepth 100000 in
theorem diffI_bad {a b : ByteArray} (w : World) (hT : Tab w) (ha : a.size ≤ 1048576) (hb : b.size ≤ 1048576) (h : (good a.data.toList && good b.data.toList) = false) :
    Calls Tryd.prog 14 #[.string a, .string b] w fun e w' => ∃ v, e = .returned (.tuple #[v, .bool false]) ∧ POwn w' w.heap.size v [] ∧ Below w.heap.size w w' := by
  have M := hide (measure_bad 2 a b w hT ha hb h)
  clear h hT
  go_enter Tryd.func14, Tryd.ntmps14
  go_wp2_with fail
  refine M.out.mono ?_
  rintro e w1 ⟨rfl, hb1⟩
  go_wp2
  go_ret2
  exact ⟨_, rfl, World.ownsRow_nil _ _ _ _, hb1.alloc hb1.size _⟩
theorem diffS_bad {a b : ByteArray} (w : World) (ha : a.size ≤ 1048576) (hb : b.size ≤ 1048576) (h : (good a.data.toList && good b.data.toList) = false) :
    Calls Tryd.prog 13 #[.string a, .string b] w fun e w' => ∃ v, e = .returned (.tuple #[v, .bool false]) ∧ POwn w' w.heap.size v [] ∧ Below w.heap.size w w' := by
  have H1 := l9Texts_any a b w ha hb
  rw [h] at H1
  replace H1 := hide H1
  clear h
  go_enter Tryd.func13, Tryd.ntmps13
  go_wp2_with fail
  refine H1.out.mono ?_
  rintro e w' ⟨rfl, hw⟩
  replace hw := hw.symm
  subst hw
  go_wp2
  go_ret2
  exact ⟨_, rfl, World.ownsRow_nil _ _ _ _, Below.refl _ _⟩
/-- What both answer. -/
def dfT (a b : List UInt8) : List Pt := if good a && good b then dfO a b else []
def dfB (a b : List UInt8) : Bool := (good a && good b) && dfG a b
theorem diffI_any (a b : ByteArray) (w : World) (ha : a.size ≤ 1048576) (hb : b.size ≤ 1048576) (hT : Tab w) :
    Calls Tryd.prog 14 #[.string a, .string b] w fun e w' => ∃ v, e = .returned (.tuple #[v, .bool (dfB a.data.toList b.data.toList)]) ∧ POwn w' w.heap.size v (dfT a.data.toList b.data.toList) ∧ Below w.heap.size w w' := by
  unfold dfB dfT
  by_cases h : (good a.data.toList && good b.data.toList) = true
  · rw [h, if_pos rfl]
    rw [Bool.and_eq_true] at h
    exact diffI_good a b w hT h.1 h.2 (good_len' h.1) (good_len' h.2)
  · rw [Bool.not_eq_true] at h
    rw [h]
    exact diffI_bad w hT ha hb h
theorem diffS_any (a b : ByteArray) (w : World) (ha : a.size ≤ 1048576) (hb : b.size ≤ 1048576) :
    Calls Tryd.prog 13 #[.string a, .string b] w fun e w' => ∃ v, e = .returned (.tuple #[v, .bool (dfB a.data.toList b.data.toList)]) ∧ POwn w' w.heap.size v (dfT a.data.toList b.data.toList) ∧ Below w.heap.size w w' := by
  unfold dfB dfT
  by_cases h : (good a.data.toList && good b.data.toList) = true
  · rw [h, if_pos rfl]
    rw [Bool.and_eq_true] at h
    exact diffS_good a b w h.1 h.2 (good_len' h.1) (good_len' h.2)
  · rw [Bool.not_eq_true] at h
    rw [h]
    exact diffS_bad w ha hb h
theorem dfT_len (a b : List UInt8) : (dfT a b).length ≤ 60 := by
  unfold dfT dfO dfG
  split
  · split
    · rename_i h; exact (goodO_le h).1
    · simp
  · simp
theorem diffOps_both (a b : ByteArray) (ha : a.size ≤ 1048576) (hb : b.size ≤ 1048576) :
    ∃ (T : List Pt) (y : Bool), T.length ≤ 10000000 ∧ (∀ (w : World), Calls Tryd.prog 13 #[.string a, .string b] w fun e w' => ∃ v, e = .returned (.tuple #[v, .bool y]) ∧ POwn w' w.heap.size v T ∧ Below w.heap.size w w') ∧
      (∀ (w : World), Tab w → Calls Tryd.prog 14 #[.string a, .string b] w fun e w' => ∃ v, e = .returned (.tuple #[v, .bool y]) ∧ POwn w' w.heap.size v T ∧ Below w.heap.size w w') :=
  ⟨dfT a.data.toList b.data.toList, dfB a.data.toList b.data.toList, by have := dfT_len a.data.toList b.data.toList; omega, fun w => diffS_any a b w ha hb, fun w hT => diffI_any a b w ha hb hT⟩
end Go.Proofs.YtinciandgfngjaaDoor
