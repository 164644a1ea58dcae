/- The model's l18Number and l18Cut. -/
import Derived.Test.YtmjehpigfkobeabDoorRdN
import Derived.Test.YtmjehpigfkobeabDoorWalksQ
set_option linter.unusedVariables false
namespace Go.Proofs.YtmjehpigfkobeabDoor
open Go.RowKit
open Doc1

theorem u8_lt256 (c : UInt8) : c.toNat < 256 := c.toNat_lt
theorem numS_bad {s : ByteArray} {k : Nat} (hk : k < s.size) (hd : ¬ isD s[k]) : numS s.data.toList = -1 := by
  unfold numS
  rw [if_neg]
  rintro ⟨⟨_, hx, _⟩, _⟩
  refine hd (hx _ ?_)
  have := drop_cons s k hk
  exact List.mem_of_mem_drop (i := k) (by rw [this]; simp)
theorem numS_nought {s : ByteArray} (hk : 0 < s.size) (h0 : s[0].toNat = 48) (hs : 1 < s.size) : numS s.data.toList = -1 := by
  unfold numS
  rw [if_neg]
  rintro ⟨⟨_, _, hx⟩, _⟩
  have e : s[0] = 48 := UInt8.toNat_inj.1 h0
  have := hx (by rw [head_at s hk, e])
  rw [sz_list] at hs
  omega
theorem numS_far {s : ByteArray} (h : ¬ (1 ≤ s.size ∧ s.size ≤ 10)) : numS s.data.toList = -1 := by
  unfold numS
  rw [if_neg]
  rintro ⟨⟨hne, _, _⟩, hl⟩
  rw [sz_list] at h
  have := List.length_pos_iff.2 hne
  omega
/-- What the model has read ahead of place k. -/
structure NM (s : ByteArray) (k n : Nat) : Prop where
  hk : k ≤ s.size
  val : nv (s.data.toList.take k) 0 = n
  dg : dgs (s.data.toList.take k)
theorem NM.lt {s : ByteArray} {k n : Nat} (h : NM s k n) (hs : s.size ≤ 10) : n < 10000000000 := by
  have h1 := h.val
  have h2 := h.hk
  rw [← h1]
  exact nmr_short (by rw [List.length_take]; omega) h.dg
theorem NM.step {s : ByteArray} {k n : Nat} (h : NM s k n) (hk : k < s.size) (hd : isD s[k]) : NM s (k + 1) (10 * n + dv s[k]) := by
  refine ⟨hk, ?_, ?_⟩
  · rw [take_snoc s k hk, nv_snoc, h.val]
  · intro c hc
    rw [take_snoc s k hk] at hc
    rcases List.mem_append.1 hc with c1 | c1
    · exact h.dg c c1
    · rw [List.mem_singleton] at c1; rw [c1]; exact hd
theorem NM.done {s : ByteArray} {n : Nat} (h : NM s s.size n) (h1 : 1 ≤ s.size) (h2 : s.size ≤ 10) (h0 : s[0].toNat = 48 → s.size = 1) : numS s.data.toList = n := by
  have et : s.data.toList.take s.size = s.data.toList := by rw [sz_list]; exact List.take_length
  have hv := h.val
  have hd := h.dg
  rw [et] at hv hd
  have hne : s.data.toList ≠ [] := fun c => by rw [sz_list, c] at h1; simp at h1
  unfold numS
  rw [if_pos ⟨⟨hne, hd, fun hh => by
    rw [← sz_list]
    rw [head_at s (by omega)] at hh
    exact h0 (by have e : s[0] = 48 := by injection hh
                 rw [e]; rfl)⟩, by rw [← sz_list]; exact h2⟩, hv]

set_option maxRecDepth 100000 in
set_option maxHeartbeats 4000000 in
theorem numberS_any (s : ByteArray) (w : World) (hs : s.size ≤ 1048576) :
    Calls Tryd.prog 23 #[.string s] w fun e w' => e = .returned (.int .i64 (numS s.data.toList)) ∧ w' = w := by
  have J := hide (fun w' => l1In_any s.size 1 10 w')
  by_cases hr : 1 ≤ s.size ∧ s.size ≤ 10
  · have e1 : decide ((1 : Int) ≤ (s.size : Int) ∧ (s.size : Int) ≤ 10) = true := by rw [decide_eq_true_eq]; omega
    rw [e1] at J
    obtain ⟨h1, h2⟩ := hr
    have h0 : 0 < s.size := h1
    by_cases hn : s[0].toNat = 48 ∧ 1 < s.size
    · have hr := hide (numS_nought h0 hn.1 hn.2)
      have f0 : ((s[0].toNat : Int) == 48) = true := by rw [hn.1]; rfl
      obtain ⟨-, hn2⟩ := hn
      go_enter Tryd.func23, Tryd.ntmps23
      go_wp2_with (go_at_call 55; refine (J.out _).mono ?_; rintro e w' ⟨rfl, hw⟩; replace hw := hw.symm; subst hw)
      all_goals
        go_ret
        rw [hr.out]
        exact ⟨rfl, rfl⟩
    · have hq : s[0].toNat = 48 → s.size = 1 := fun e => by omega
      have HQ := hide hq
      clear hn hq
      go_enter Tryd.func23, Tryd.ntmps23
      go_wp2_with (go_at_call 55; refine (J.out _).mono ?_; rintro e w' ⟨rfl, hw⟩; replace hw := hw.symm; subst hw)
      all_goals first
        | (exfalso; have := HQ.out (by omega); omega)
        | skip
      all_goals
        go_loop [3, 4] (fun x y => ∃ k n : Nat, NM s k n ∧ x = .int .i64 n ∧ y = .int .i64 k) (fun _ y => s.size - (intOf y).toNat)
        case atStart => exact ⟨0, 0, ⟨Nat.zero_le _, rfl, fun c hc => by simp at hc⟩, rfl, rfl⟩
        case round =>
          obtain ⟨k, n, hn, rfl, rfl⟩ := hrel
          have hk := hn.hk
          have hnl := hn.lt h2
          by_cases hp : k < s.size
          · have hc := u8_lt256 s[k]
            by_cases hd : isD s[k]
            · have hst := hn.step hp hd
              have hst2 := hst.lt h2
              have HST := hide hst
              have hd' := hd
              unfold isD at hd'
              have hdv : dv s[k] = s[k].toNat - 48 := rfl
              clear hn hd hst
              go_wp2
              go_round
              case rel => exact ⟨k + 1, _, HST.out, congrArg (Value.int .i64) (by rw [hdv]; omega), rfl⟩
              case measure => simp [intOf]; omega
            · have hb := hide (numS_bad hp hd)
              have hd' : s[k].toNat < 48 ∨ 57 < s[k].toNat := by unfold isD at hd; omega
              clear hn hd
              rcases hd' with hd' | hd'
              all_goals
                go_wp2
                go_ret
                rw [hb.out]
                exact ⟨rfl, rfl⟩
          · obtain rfl : k = s.size := by omega
            have hr := hide (hn.done h1 h2 HQ.out)
            clear hn
            go_wp2
            go_ret
            rw [hr.out]
            exact ⟨rfl, rfl⟩
  · have e1 : decide ((1 : Int) ≤ (s.size : Int) ∧ (s.size : Int) ≤ 10) = false := by rw [decide_eq_false_iff_not]; omega
    rw [e1] at J
    have hr := hide (numS_far hr)
    go_enter Tryd.func23, Tryd.ntmps23
    go_wp2_with (go_at_call 55; refine (J.out _).mono ?_; rintro e w' ⟨rfl, hw⟩; replace hw := hw.symm; subst hw)
    go_ret
    rw [hr.out]
    exact ⟨rfl, rfl⟩

end Go.Proofs.YtmjehpigfkobeabDoor
