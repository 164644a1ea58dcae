/- Good texts, of whatever length a drawn text may have. -/
import Derived.Test.YtojlnnlcbpjdlaaDoorRwM
set_option linter.unusedVariables false
namespace Go.Proofs.YtojlnnlcbpjdlaaDoor
open Go.RowKit
open Doc1

def hugeT : Nat := 10000000000000000
set_option maxHeartbeats 400000 in
theorem l1Text_all (s : ByteArray) (w : World) (hs : s.size ≤ 10000000000000000) :
    Calls Tryd.prog 57 #[.string s] w fun e w' => e = .returned (.bool (allOk s.data.toList)) ∧ w' = w := by
  go_enter Tryd.func57, Tryd.ntmps57
  go_wp2
  go_loop [3] (fun i => ∃ k : Nat, k ≤ s.size ∧ i = .int .i64 k ∧ Hid (allOk s.data.toList = allOk (s.data.toList.drop k))) (fun i => s.size - (intOf i).toNat)
  case atStart => exact ⟨0, Nat.zero_le _, rfl, rfl⟩
  case round =>
    obtain ⟨k, hk, rfl, hr⟩ := hrel
    by_cases hlt : k < s.size
    · have hst : Hid (allOk (s.data.toList.drop k) = (okC s[k] && allOk (s.data.toList.drop (k + 1)))) := allOk_step s k hlt
      go_wp2_with (first | (go_at_call 100; refine (l1Open_any _ _).mono ?_; rintro e w' ⟨rfl, rfl⟩) | (go_at_call 101; refine (l1Plain_any _ _).mono ?_; rintro e w' ⟨rfl, rfl⟩))
      all_goals first
        | (go_round
           case rel => exact ⟨k + 1, by omega, by go_num, rel_ok hr.out hst.out (by first | exact ok_op ‹_› | exact ok_pl ‹_› | exact ok_en ‹_›)⟩
           case measure => simp [intOf]; omega)
        | (go_ret; exact ⟨ret_bool (rel_no hr.out hst.out (ok_no ‹_› ‹_› ‹_›)), rfl⟩)
    · go_wp2
      go_ret
      exact ⟨ret_bool (by rw [hr.out, drop_end s k (by omega)]; rfl), rfl⟩
set_option maxHeartbeats 400000 in
theorem goodTextS_all (s : ByteArray) (w : World) (hs : s.size ≤ 10000000000000000) :
    Calls Tryd.prog 41 #[.string s] w fun e w' => e = .returned (.bool (good s.data.toList)) ∧ w' = w := by
  go_enter Tryd.func41, Tryd.ntmps41
  go_wp2_with (go_at_call 57; refine (l1Text_all s _ hs).mono ?_; rintro e w' ⟨rfl, rfl⟩)
  all_goals go_ret
  all_goals exact ⟨ret_bool (by rw [← goodText_fold s _ rfl]; simp [*]), rfl⟩
theorem no_good {s : ByteArray} (h : 300 < s.size) : good s.data.toList = false := by
  cases hg : good s.data.toList with
  | false => rfl
  | true => have := good_len' hg; omega
set_option maxRecDepth 100000 in
theorem goodTextI_all (s : ByteArray) (w : World) (hs : s.size ≤ 10000000000000000) (hT : Tab w) :
    Calls Tryd.prog 66 #[.string s] w fun e w' => e = .returned (.bool (good s.data.toList)) ∧ w' = w := by
  by_cases h : s.size ≤ 300
  · exact goodTextI_any s w (by omega) hT
  · rw [no_good (by omega)]
    clear hT
    go_enter Tryd.func66, Tryd.ntmps66
    go_wp2
    go_ret
    exact ⟨rfl, rfl⟩

set_option maxHeartbeats 1000000 in
theorem l9Texts_all (a b : ByteArray) (w : World) (ha : a.size ≤ 10000000000000000) (hb : b.size ≤ 10000000000000000) :
    Calls Tryd.prog 91 #[.string a, .string b] w fun e w' => e = .returned (.bool (good a.data.toList && good b.data.toList)) ∧ w' = w := by
  have H : Hid (∀ s : ByteArray, s.size ≤ 10000000000000000 → ∀ w1 : World, Calls Tryd.prog 41 #[.string s] w1 fun e w' => e = .returned (.bool (good s.data.toList)) ∧ w' = w1) := hide (fun s h w1 => goodTextS_all s w1 h)
  obtain ⟨x, hx⟩ : ∃ x, good a.data.toList = x := ⟨_, rfl⟩
  obtain ⟨y, hy⟩ : ∃ y, good b.data.toList = y := ⟨_, rfl⟩
  have H1 := H.out a ha
  have H2 := H.out b hb
  rw [hx] at H1
  rw [hy] at H2
  rw [hx, hy]
  replace H1 := hide H1
  replace H2 := hide H2
  clear H hx hy
  cases x
  · go_enter Tryd.func91, Tryd.ntmps91
    go_wp2_with fail
    refine (H1.out _).mono ?_
    rintro e w' ⟨rfl, hw⟩
    replace hw := hw.symm
    subst hw
    go_wp2
    go_ret
    exact ⟨rfl, rfl⟩
  · go_enter Tryd.func91, Tryd.ntmps91
    go_wp2_with fail
    refine (H1.out _).mono ?_
    rintro e w' ⟨rfl, hw⟩
    replace hw := hw.symm
    subst hw
    go_wp2_with fail
    refine (H2.out _).mono ?_
    rintro e w' ⟨rfl, hw⟩
    replace hw := hw.symm
    subst hw
    go_wp2
    go_ret
    exact ⟨rfl, rfl⟩

set_option maxRecDepth 100000 in
set_option maxHeartbeats 2000000 in
theorem measure_none (t : Nat) (a b : ByteArray) (w : World) (hT : Tab w) (ha : a.size ≤ 10000000000000000) (hb : b.size ≤ 10000000000000000) (h : (good a.data.toList && good b.data.toList) = false) :
    Calls Tryd.prog 89 #[.string a, .string b, .int .i64 (t : Int)] w fun e w' => e = .returned (.tuple #[.agg #[.string ⟨#[]⟩, .string ⟨#[]⟩, .slice none 0 0], .bool false]) ∧ Below w.heap.size w w' := by
  have H1 : ∀ w1, Below w.heap.size w w1 → Calls Tryd.prog 66 #[.string a] w1 fun e w' => e = .returned (.bool (good a.data.toList)) ∧ w' = w1 := fun w1 hb1 => goodTextI_all a w1 ha (hT.below hb1)
  have H2 : ∀ w1, Below w.heap.size w w1 → Calls Tryd.prog 66 #[.string b] w1 fun e w' => e = .returned (.bool (good b.data.toList)) ∧ w' = w1 := fun w1 hb1 => goodTextI_all b w1 hb (hT.below hb1)
  obtain ⟨x, hx⟩ : ∃ x, good a.data.toList = x := ⟨_, rfl⟩
  obtain ⟨y, hy⟩ : ∃ y, good b.data.toList = y := ⟨_, rfl⟩
  rw [hx] at H1 h
  rw [hy] at H2 h
  replace H1 := hide H1
  replace H2 := hide H2
  have hB1 : Below w.heap.size w (w.alloc (.cells #[.string ⟨#[]⟩, .string ⟨#[]⟩, .slice none 0 0] 123)) := (Below.refl _ _).alloc (Nat.le_refl _) _
  have hm1 := heap_alloc_new w (.cells #[.string ⟨#[]⟩, .string ⟨#[]⟩, .slice none 0 0] 123)
  have hld := hide (run_loadVar_row (P := Tryd.prog) _ w.heap.size _ 123 _ _ _ hm1 Tryd.underlying123 rfl (by kernel_rfl))
  have hbs := hide hB1
  clear hx hy hT hm1
  cases x
  · go_enter Tryd.func89, Tryd.ntmps89
    go_wp2_with fail
    refine (H1.out _ hB1).mono ?_
    rintro e w' ⟨rfl, hw⟩
    subst hw
    clear hB1
    go_wp2
    refine bodyPost_ret (v := .tuple #[.agg #[.string ⟨#[]⟩, .string ⟨#[]⟩, .slice none 0 0], .bool false]) ?_ rfl ⟨rfl, hbs.out⟩
    have hld' := hld.out
    rw [results_cell_tmp rfl]
    simp [asAddr, Result.andThen, hld']
  · simp at h
    subst h
    go_enter Tryd.func89, Tryd.ntmps89
    go_wp2_with fail
    refine (H1.out _ hB1).mono ?_
    rintro e w' ⟨rfl, hw⟩
    subst hw
    go_wp2_with fail
    refine (H2.out _ hB1).mono ?_
    rintro e w' ⟨rfl, hw⟩
    subst hw
    clear hB1
    go_wp2
    refine bodyPost_ret (v := .tuple #[.agg #[.string ⟨#[]⟩, .string ⟨#[]⟩, .slice none 0 0], .bool false]) ?_ rfl ⟨rfl, hbs.out⟩
    have hld' := hld.out
    rw [results_cell_tmp rfl]
    simp [asAddr, Result.andThen, hld']

set_option maxRecDepth 100000 in
theorem distI_none (a b : ByteArray) (w : World) (hT : Tab w) (ha : a.size ≤ 10000000000000000) (hb : b.size ≤ 10000000000000000) (h : (good a.data.toList && good b.data.toList) = false) :
    Calls Tryd.prog 37 #[.string a, .string b] w fun e w' => e = .returned (.tuple #[.int .i64 0, .bool false]) ∧ Below w.heap.size w w' := by
  have M := hide (measure_none 2 a b w hT ha hb h)
  clear h hT
  go_enter Tryd.func37, Tryd.ntmps37
  go_wp2_with fail
  refine M.out.mono ?_
  rintro e w1 ⟨rfl, hb1⟩
  go_wp2
  go_ret2
  exact ⟨rfl, hb1.alloc hb1.size _⟩

theorem distS_none (a b : ByteArray) (w : World) (ha : a.size ≤ 10000000000000000) (hb : b.size ≤ 10000000000000000) (h : (good a.data.toList && good b.data.toList) = false) :
    Calls Tryd.prog 38 #[.string a, .string b] w fun e w' => e = .returned (.tuple #[.int .i64 0, .bool false]) ∧ Below w.heap.size w w' := by
  have H1 := l9Texts_all a b w ha hb
  rw [h] at H1
  replace H1 := hide H1
  clear h
  go_enter Tryd.func38, Tryd.ntmps38
  go_wp2_with fail
  refine H1.out.mono ?_
  rintro e w' ⟨rfl, hw⟩
  replace hw := hw.symm
  subst hw
  go_wp2
  go_ret2
  exact ⟨rfl, Below.refl _ _⟩

set_option maxRecDepth 100000 in
theorem editsI_none (a b : ByteArray) (w : World) (hT : Tab w) (ha : a.size ≤ 10000000000000000) (hb : b.size ≤ 10000000000000000) (h : (good a.data.toList && good b.data.toList) = false) :
    Calls Tryd.prog 39 #[.string a, .string b] w fun e w' => e = .returned (.tuple #[.int .i64 0, .bool false]) ∧ Below w.heap.size w w' := by
  have M := hide (measure_none 1 a b w hT ha hb h)
  clear h hT
  go_enter Tryd.func39, Tryd.ntmps39
  go_wp2_with fail
  refine M.out.mono ?_
  rintro e w1 ⟨rfl, hb1⟩
  go_wp2
  go_ret2
  exact ⟨rfl, hb1.alloc hb1.size _⟩

theorem editsS_none (a b : ByteArray) (w : World) (ha : a.size ≤ 10000000000000000) (hb : b.size ≤ 10000000000000000) (h : (good a.data.toList && good b.data.toList) = false) :
    Calls Tryd.prog 40 #[.string a, .string b] w fun e w' => e = .returned (.tuple #[.int .i64 0, .bool false]) ∧ Below w.heap.size w w' := by
  have H1 := l9Texts_all a b w ha hb
  rw [h] at H1
  replace H1 := hide H1
  clear h
  go_enter Tryd.func40, Tryd.ntmps40
  go_wp2_with fail
  refine H1.out.mono ?_
  rintro e w' ⟨rfl, hw⟩
  replace hw := hw.symm
  subst hw
  go_wp2
  go_ret2
  exact ⟨rfl, Below.refl _ _⟩

set_option maxRecDepth 100000 in
theorem commonI_none (a b : ByteArray) (w : World) (hT : Tab w) (ha : a.size ≤ 10000000000000000) (hb : b.size ≤ 10000000000000000) (h : (good a.data.toList && good b.data.toList) = false) :
    Calls Tryd.prog 49 #[.string a, .string b] w fun e w' => e = .returned (.tuple #[.string ⟨#[]⟩, .bool false]) ∧ Below w.heap.size w w' := by
  have M := hide (measure_none 2 a b w hT ha hb h)
  clear h hT
  go_enter Tryd.func49, Tryd.ntmps49
  go_wp2_with fail
  refine M.out.mono ?_
  rintro e w1 ⟨rfl, hb1⟩
  go_wp2
  go_ret2
  exact ⟨rfl, hb1.alloc hb1.size _⟩

theorem commonS_none (a b : ByteArray) (w : World) (ha : a.size ≤ 10000000000000000) (hb : b.size ≤ 10000000000000000) (h : (good a.data.toList && good b.data.toList) = false) :
    Calls Tryd.prog 50 #[.string a, .string b] w fun e w' => e = .returned (.tuple #[.string ⟨#[]⟩, .bool false]) ∧ Below w.heap.size w w' := by
  have H1 := l9Texts_all a b w ha hb
  rw [h] at H1
  replace H1 := hide H1
  clear h
  go_enter Tryd.func50, Tryd.ntmps50
  go_wp2_with fail
  refine H1.out.mono ?_
  rintro e w' ⟨rfl, hw⟩
  replace hw := hw.symm
  subst hw
  go_wp2
  go_ret2
  exact ⟨rfl, Below.refl _ _⟩

set_option maxRecDepth 100000 in
theorem diffI_none (a b : ByteArray) (w : World) (hT : Tab w) (ha : a.size ≤ 10000000000000000) (hb : b.size ≤ 10000000000000000) (h : (good a.data.toList && good b.data.toList) = false) :
    Calls Tryd.prog 43 #[.string a, .string b] w fun e w' => e = .returned (.tuple #[.slice none 0 0, .bool false]) ∧ Below w.heap.size w w' := by
  have M := hide (measure_none 2 a b w hT ha hb h)
  clear h hT
  go_enter Tryd.func43, Tryd.ntmps43
  go_wp2_with fail
  refine M.out.mono ?_
  rintro e w1 ⟨rfl, hb1⟩
  go_wp2
  go_ret2
  exact ⟨rfl, hb1.alloc hb1.size _⟩

theorem diffS_none (a b : ByteArray) (w : World) (ha : a.size ≤ 10000000000000000) (hb : b.size ≤ 10000000000000000) (h : (good a.data.toList && good b.data.toList) = false) :
    Calls Tryd.prog 44 #[.string a, .string b] w fun e w' => e = .returned (.tuple #[.slice none 0 0, .bool false]) ∧ Below w.heap.size w w' := by
  have H1 := l9Texts_all a b w ha hb
  rw [h] at H1
  replace H1 := hide H1
  clear h
  go_enter Tryd.func44, Tryd.ntmps44
  go_wp2_with fail
  refine H1.out.mono ?_
  rintro e w' ⟨rfl, hw⟩
  replace hw := hw.symm
  subst hw
  go_wp2
  go_ret2
  exact ⟨rfl, Below.refl _ _⟩

theorem distI_all (a b : ByteArray) (w : World) (ha : a.size ≤ 10000000000000000) (hb : b.size ≤ 10000000000000000) (hT : Tab w) :
    Calls Tryd.prog 37 #[.string a, .string b] w fun e w' => e = .returned (.tuple #[.int .i64 (edA 2 a.data.toList b.data.toList), .bool (good a.data.toList && good b.data.toList)]) ∧ Below w.heap.size w w' := by
  by_cases h : (good a.data.toList && good b.data.toList) = true
  · rw [Bool.and_eq_true] at h
    exact distI_any a b w (by have := good_len' h.1; omega) (by have := good_len' h.2; omega) hT
  · rw [Bool.not_eq_true] at h
    unfold edA
    rw [h]
    exact distI_none a b w hT ha hb h

theorem editsI_all (a b : ByteArray) (w : World) (ha : a.size ≤ 10000000000000000) (hb : b.size ≤ 10000000000000000) (hT : Tab w) :
    Calls Tryd.prog 39 #[.string a, .string b] w fun e w' => e = .returned (.tuple #[.int .i64 (edA 1 a.data.toList b.data.toList), .bool (good a.data.toList && good b.data.toList)]) ∧ Below w.heap.size w w' := by
  by_cases h : (good a.data.toList && good b.data.toList) = true
  · rw [Bool.and_eq_true] at h
    exact editsI_any a b w (by have := good_len' h.1; omega) (by have := good_len' h.2; omega) hT
  · rw [Bool.not_eq_true] at h
    unfold edA
    rw [h]
    exact editsI_none a b w hT ha hb h

theorem distS_all (a b : ByteArray) (w : World) (ha : a.size ≤ 10000000000000000) (hb : b.size ≤ 10000000000000000) :
    Calls Tryd.prog 38 #[.string a, .string b] w fun e w' => e = .returned (.tuple #[.int .i64 (edA 2 a.data.toList b.data.toList), .bool (good a.data.toList && good b.data.toList)]) ∧ Below w.heap.size w w' := by
  by_cases h : (good a.data.toList && good b.data.toList) = true
  · rw [Bool.and_eq_true] at h
    exact distS_any a b w (by have := good_len' h.1; omega) (by have := good_len' h.2; omega)
  · rw [Bool.not_eq_true] at h
    unfold edA
    rw [h]
    exact distS_none a b w ha hb h

theorem editsS_all (a b : ByteArray) (w : World) (ha : a.size ≤ 10000000000000000) (hb : b.size ≤ 10000000000000000) :
    Calls Tryd.prog 40 #[.string a, .string b] w fun e w' => e = .returned (.tuple #[.int .i64 (edA 1 a.data.toList b.data.toList), .bool (good a.data.toList && good b.data.toList)]) ∧ Below w.heap.size w w' := by
  by_cases h : (good a.data.toList && good b.data.toList) = true
  · rw [Bool.and_eq_true] at h
    exact editsS_any a b w (by have := good_len' h.1; omega) (by have := good_len' h.2; omega)
  · rw [Bool.not_eq_true] at h
    unfold edA
    rw [h]
    exact editsS_none a b w ha hb h

theorem good_lenL {a : List UInt8} (h : good a = true) : a.length ≤ 300 := by unfold good at h; simp only [Bool.and_eq_true, decide_eq_true_eq] at h; exact h.2
theorem edA_bd (t : Nat) {a b : List UInt8} : 0 ≤ edA t a b ∧ edA t a b ≤ 600 := by
  unfold edA
  split
  · rename_i h
    rw [Bool.and_eq_true] at h
    have h1 := good_lenL h.1
    have h2 := good_lenL h.2
    have := ed_most t a b
    omega
  · omega
theorem edA_sym (t : Nat) (a b : List UInt8) : edA t b a = edA t a b := by
  unfold edA
  rw [Bool.and_comm, ed_sym]
theorem edA_good {t : Nat} {a b : List UInt8} (h1 : good a = true) (h2 : good b = true) : edA t a b = (ed t a b : Int) := by
  unfold edA; rw [h1, h2]; rfl
theorem list_ba {a b : ByteArray} (h : a.data.toList = b.data.toList) : a = b := ByteArray.ext (Array.ext' h)
theorem str_same {a b : ByteArray} (h : a = b) : (a.toList == b.toList) = true := by rw [h]; simp
theorem str_other {a b : ByteArray} (h : ¬ a = b) : (a.toList == b.toList) = false := by
  rw [beq_eq_false_iff_ne, ByteArray.toList_eq, ByteArray.toList_eq]
  exact fun c => h (list_ba c)
end Go.Proofs.YtojlnnlcbpjdlaaDoor
