/- The contracts of CoveredBy, the model's and the program's. -/
import Derived.Test.YtpgacpfdchckfaxMarkW3
namespace Go.Proofs.Ytpgacpfdchckfax
open Go.RowKit
open Doc1

/-- How many bytes the marks of a style cover. -/
def cov1 (st : ByteArray) (m : Mk) : Int := if m.style.toList == st.toList then m.to - m.frm else 0
def covL (st : ByteArray) (l : List Mk) : Int := (l.map (cov1 st)).sum
theorem covL_snoc (st : ByteArray) (l : List Mk) (m : Mk) : covL st (l ++ [m]) = covL st l + cov1 st m := by simp [covL]
theorem goodM_ok {l : List Mk} {size : Int} (h : goodM l size = true) : size ≤ 300 ∧ l.length ≤ 40 ∧ ∀ i (hi : i < l.length), mkOk size l[i] = true := by
  unfold goodM at h
  simp only [Bool.and_eq_true, decide_eq_true_eq] at h
  refine ⟨h.1.2, h.2.1, fun i hi => ?_⟩
  have := mkTo_le l size (i + 1) l.length hi h.2.2
  rw [mkTo_succ, Bool.and_eq_true] at this
  cases i with
  | zero => rw [mkAt_zero hi] at this; exact this.2
  | succ j => rw [mkAt_succ hi, Bool.and_eq_true] at this; exact this.2.1
theorem goodM_size {l : List Mk} {size : Int} (h : goodM l size = true) : 0 ≤ size ∧ size ≤ 300 := by
  unfold goodM at h
  simp only [Bool.and_eq_true, decide_eq_true_eq] at h
  exact h.1
theorem cov1_bd {st : ByteArray} {size : Int} {m : Mk} (hz : size ≤ 300) (h : mkOk size m = true) : 0 ≤ cov1 st m ∧ cov1 st m ≤ 300 := by
  unfold mkOk at h
  simp only [Bool.and_eq_true, decide_eq_true_eq] at h
  unfold cov1
  split <;> omega
theorem covL_bd {st : ByteArray} {size : Int} (hz : size ≤ 300) : ∀ (l : List Mk), (∀ m ∈ l, mkOk size m = true) → 0 ≤ covL st l ∧ covL st l ≤ 300 * (l.length : Int)
  | [], _ => by simp [covL]
  | m :: l, h => by
    have h1 := cov1_bd (st := st) hz (h m (by simp))
    have h2 := covL_bd (st := st) hz l (fun x hx => h x (by simp [hx]))
    simp only [covL, List.map_cons, List.sum_cons, List.length_cons] at h2 ⊢
    omega
/-- What CoveredBy answers. -/
def covT (l : List Mk) (size : Int) (st : ByteArray) : Int := if goodM l size && isSt st then covL st l else 0
theorem covT_no {l : List Mk} {size : Int} {st : ByteArray} (h : (goodM l size && isSt st) = false) : covT l size st = 0 := by unfold covT; rw [h]; rfl
theorem covT_yes {l : List Mk} {size : Int} {st : ByteArray} (h : (goodM l size && isSt st) = true) : covT l size st = covL st l := by unfold covT; rw [h]; rfl

set_option maxRecDepth 100000 in
set_option maxHeartbeats 4000000 in
theorem coveredS {w : World} {g cap : Nat} {l : List Mk} (size : Int) (st : ByteArray) (hst : st.size ≤ 1048576) (h : MrIn w g cap l) :
    Calls Try.prog 13 #[.slice (some ⟨g, 0, none⟩) l.length cap, .int .i64 size, .string st] w fun e w' => e = .returned (.tuple #[.int .i64 (covT l size st), .bool (goodM l size && isSt st)]) ∧ Below w.heap.size w w' := by
  have hcp := h.cap
  have hln := h.len
  have G := hide (goodMarksS size h)
  have S := hide (fun w => l5Style_any st w hst)
  have H := hide h
  clear h
  cases hg : goodM l size with
  | false =>
    rw [covT_no (by rw [hg]; rfl)]
    rw [hg] at G
    go_enter Try.func13, Try.ntmps13
    go_wp2_with (go_at_call 18; refine G.out.mono ?_; rintro e w1 ⟨rfl, hb1⟩)
    go_ret2
    exact ⟨rfl, hb1⟩
  | true =>
    rw [hg] at G
    cases hs : isSt st with
    | false =>
      rw [covT_no (by rw [hg, hs]; rfl)]
      rw [hs] at S
      go_enter Try.func13, Try.ntmps13
      go_wp2_with (first | (go_at_call 18; refine G.out.mono ?_; rintro e w1 ⟨rfl, hb1⟩) | (go_at_call 20; refine (S.out _).mono ?_; rintro e w' ⟨rfl, hw⟩; replace hw := hw.symm; subst hw))
      go_ret2
      exact ⟨rfl, hb1⟩
    | true =>
      rw [covT_yes (by rw [hg, hs]; rfl)]
      rw [hs] at S
      obtain ⟨hz, h40, hok⟩ := goodM_ok hg
      have HO := hide hok
      clear hok hg hs
      go_enter Try.func13, Try.ntmps13
      go_wp2_with (first | (go_at_call 18; refine G.out.mono ?_; rintro e w1 ⟨rfl, hb1⟩) | (go_at_call 20; refine (S.out _).mono ?_; rintro e w' ⟨rfl, hw⟩; replace hw := hw.symm; subst hw))
      go_loopw [8, 22] (fun n i wr => ∃ k : Nat, k ≤ l.length ∧ i = .int .i64 k ∧ n = .int .i64 (covL st (l.take k)) ∧ Below w.heap.size w wr) (fun _ i _ => l.length - (intOf i).toNat)
      case atStart => exact ⟨0, by omega, rfl, rfl, hb1⟩
      case round =>
        obtain ⟨k, hk, rfl, rfl, hbel⟩ := hrel
        by_cases hlt : k < l.length
        · obtain ⟨c0, c1, c2⟩ := (H.out.later hbel).at'.mrat k hlt
          have ha := hide (hbel.alloc hbel.size (.cells #[.int .i64 l[k].frm, .int .i64 l[k].to, .string l[k].style] 43))
          have b1 := covL_bd (st := st) hz (l.take k) (fun m hm => by obtain ⟨i, hi, rfl⟩ := List.mem_iff_getElem.1 (List.mem_of_mem_take hm); exact HO.out i hi)
          have b2 := cov1_bd (st := st) hz (HO.out k hlt)
          have hl1 : (l.take k).length ≤ 40 := by rw [List.length_take]; omega
          have hs := hide (covL_snoc st (l.take k) l[k])
          rw [← List.take_succ_eq_append_getElem hlt] at hs
          have ok : 0 ≤ l[k].frm ∧ l[k].frm < l[k].to ∧ l[k].to ≤ 300 := by
            have := HO.out k hlt
            unfold mkOk at this
            simp only [Bool.and_eq_true, decide_eq_true_eq] at this
            omega
          obtain ⟨ok1, ok2, ok3⟩ := ok
          generalize covL st (l.take k) = A at *
          cases he : l[k].style.toList == st.toList with
          | false =>
            have hs2 : Hid (covL st (l.take (k + 1)) = A) := hide (by rw [hs.out]; unfold cov1; rw [he]; simp)
            clear hs b2
            go_wp2
            refine ⟨⟨k + 1, by omega, by go_num, by rw [hs2.out], ha.out⟩, by simp [intOf]; omega⟩
          | true =>
            have hs2 : Hid (covL st (l.take (k + 1)) = A + (l[k].to - l[k].frm)) := hide (by rw [hs.out]; unfold cov1; rw [he]; simp)
            clear hs b2
            go_wp2
            refine ⟨⟨k + 1, by omega, by go_num, by rw [hs2.out], ha.out⟩, by simp [intOf]; omega⟩
        · obtain rfl : k = l.length := by omega
          rw [List.take_length]
          go_wp2
          go_ret2
          exact ⟨rfl, hbel⟩

set_option maxRecDepth 100000 in
set_option maxHeartbeats 4000000 in
theorem coveredI {w : World} {g cap : Nat} {l : List Mk} (size : Int) (st : ByteArray) (hst : st.size ≤ 1048576) (h : MrIn w g cap l) :
    Calls Try.prog 14 #[.slice (some ⟨g, 0, none⟩) l.length cap, .int .i64 size, .string st] w fun e w' => e = .returned (.tuple #[.int .i64 (covT l size st), .bool (goodM l size && isSt st)]) ∧ Below w.heap.size w w' := by
  have hcp := h.cap
  have hln := h.len
  have G := hide (goodMarksI size h)
  have S := hide (fun w => isStyle_any st w hst)
  have H := hide h
  clear h
  cases hg : goodM l size with
  | false =>
    rw [covT_no (by rw [hg]; rfl)]
    rw [hg] at G
    go_enter Try.func14, Try.ntmps14
    go_wp2_with (go_at_call 22; refine G.out.mono ?_; rintro e w1 ⟨rfl, hb1⟩)
    go_ret2
    exact ⟨rfl, hb1⟩
  | true =>
    rw [hg] at G
    cases hs : isSt st with
    | false =>
      rw [covT_no (by rw [hg, hs]; rfl)]
      rw [hs] at S
      go_enter Try.func14, Try.ntmps14
      go_wp2_with (first | (go_at_call 22; refine G.out.mono ?_; rintro e w1 ⟨rfl, hb1⟩) | (go_at_call 23; refine (S.out _).mono ?_; rintro e w' ⟨rfl, hw⟩; replace hw := hw.symm; subst hw))
      go_ret2
      exact ⟨rfl, hb1⟩
    | true =>
      rw [covT_yes (by rw [hg, hs]; rfl)]
      rw [hs] at S
      obtain ⟨hz, h40, hok⟩ := goodM_ok hg
      have HO := hide hok
      clear hok hg hs
      go_enter Try.func14, Try.ntmps14
      go_wp2_with (first | (go_at_call 22; refine G.out.mono ?_; rintro e w1 ⟨rfl, hb1⟩) | (go_at_call 23; refine (S.out _).mono ?_; rintro e w' ⟨rfl, hw⟩; replace hw := hw.symm; subst hw))
      go_loopw [8, 22] (fun n i wr => ∃ k : Nat, k ≤ l.length ∧ i = .int .i64 k ∧ n = .int .i64 (covL st (l.take k)) ∧ Below w.heap.size w wr) (fun _ i _ => l.length - (intOf i).toNat)
      case atStart => exact ⟨0, by omega, rfl, rfl, hb1⟩
      case round =>
        obtain ⟨k, hk, rfl, rfl, hbel⟩ := hrel
        by_cases hlt : k < l.length
        · obtain ⟨c0, c1, c2⟩ := (H.out.later hbel).at'.mrat k hlt
          have ha := hide (hbel.alloc hbel.size (.cells #[.int .i64 l[k].frm, .int .i64 l[k].to, .string l[k].style] 43))
          have b1 := covL_bd (st := st) hz (l.take k) (fun m hm => by obtain ⟨i, hi, rfl⟩ := List.mem_iff_getElem.1 (List.mem_of_mem_take hm); exact HO.out i hi)
          have b2 := cov1_bd (st := st) hz (HO.out k hlt)
          have hl1 : (l.take k).length ≤ 40 := by rw [List.length_take]; omega
          have hs := hide (covL_snoc st (l.take k) l[k])
          rw [← List.take_succ_eq_append_getElem hlt] at hs
          have ok : 0 ≤ l[k].frm ∧ l[k].frm < l[k].to ∧ l[k].to ≤ 300 := by
            have := HO.out k hlt
            unfold mkOk at this
            simp only [Bool.and_eq_true, decide_eq_true_eq] at this
            omega
          obtain ⟨ok1, ok2, ok3⟩ := ok
          generalize covL st (l.take k) = A at *
          cases he : l[k].style.toList == st.toList with
          | false =>
            have hs2 : Hid (covL st (l.take (k + 1)) = A) := hide (by rw [hs.out]; unfold cov1; rw [he]; simp)
            clear hs b2
            go_wp2
            refine ⟨⟨k + 1, by omega, by go_num, by rw [hs2.out], ha.out⟩, by simp [intOf]; omega⟩
          | true =>
            have hs2 : Hid (covL st (l.take (k + 1)) = A + (l[k].to - l[k].frm)) := hide (by rw [hs.out]; unfold cov1; rw [he]; simp)
            clear hs b2
            go_wp2
            refine ⟨⟨k + 1, by omega, by go_num, by rw [hs2.out], ha.out⟩, by simp [intOf]; omega⟩
        · obtain rfl : k = l.length := by omega
          rw [List.take_length]
          go_wp2
          go_ret2
          exact ⟨rfl, hbel⟩

end Go.Proofs.Ytpgacpfdchckfax
