/- The model's functions over ropes, on: IsBalanced. -/
import Derived.Test.YtfklbhejfbfmeabDoorRptA
import Derived.BigQuiet
set_option linter.unusedVariables false
namespace Go.Proofs.YtfklbhejfbfmeabDoor
open Go.RowKit
open Doc1

set_option maxRecDepth 100000 in
set_option maxHeartbeats 4000000 in
theorem l12Fibonacci_any (d : Nat) (w : World) (hd : d ≤ 20) :
    Calls Tryd.prog 77 #[.int .i64 ((d : Int) + 2)] w fun e w' => e = .returned (.int .i64 (fb d : Int)) ∧ w' = w := by
  go_enter Tryd.func77, Tryd.ntmps77
  go_wp2
  go_loop [0, 3, 4] (fun vn va vb => ∃ (j x : Nat), j ≤ d + 1 ∧ vn = .int .i64 ((d + 2 - j : Nat) : Int) ∧ va = .int .i64 (x : Int) ∧ vb = .int .i64 (fb j : Int) ∧ (j = 0 ∧ x = 1 ∨ 0 < j ∧ x = fb (j - 1))) (fun vn _ _ => (intOf vn).toNat)
  case atStart => exact ⟨0, 1, by omega, by congr 1, rfl, rfl, .inl ⟨rfl, rfl⟩⟩
  case round =>
    obtain ⟨j, x, hj, rfl, rfl, rfl, hx⟩ := hrel
    have hbd : ∀ k, k ≤ 21 → fb k ≤ 30000 := by decide
    have b1 := hbd j (by omega)
    have hxb : x ≤ 30000 := by
      rcases hx with ⟨-, h⟩ | ⟨-, h⟩
      · omega
      · rw [h]; exact hbd _ (by omega)
    have HN : Hid (j ≤ d → x + fb j = fb (j + 1)) := hide (fun hjd => by
      rcases hx with ⟨h0, h⟩ | ⟨h0, h⟩
      · subst h0 h; rfl
      · obtain ⟨i, rfl⟩ : ∃ i, j = i + 1 := ⟨j - 1, by omega⟩
        rw [h, Nat.add_sub_cancel]; rfl)
    have HE : Hid (j = d + 1 → x = fb d) := hide (fun h => by
      rcases hx with ⟨h0, -⟩ | ⟨-, h1⟩
      · omega
      · rw [h1, h, Nat.add_sub_cancel])
    obtain ⟨y, hy⟩ : ∃ y, fb j = y := ⟨_, rfl⟩
    rw [hy] at b1 HN ⊢
    obtain ⟨m, hm⟩ : ∃ m, d + 2 - j = m := ⟨_, rfl⟩
    rw [hm]
    have hw : IntKind.i64.wrap ((x : Int) + (y : Int)) = (x : Int) + (y : Int) := by rw [IntKind.wrap_i64]; omega
    have HY := hide (And.intro hy hm)
    by_cases hlt : j ≤ d
    · have e1 : decide ((1 : Int) < (m : Int)) = true := by rw [decide_eq_true_iff]; omega
      have hwd : IntKind.i64.wrap ((m : Int) - 1) = (m : Int) - 1 := by have := hm; rw [IntKind.wrap_i64]; omega
      clear hx hy hm
      go_wp2
      go_round
      case rel =>
        obtain ⟨hy, hm⟩ := HY.out
        exact ⟨j + 1, y, by omega, by rw [show ((d + 2 - (j + 1) : Nat) : Int) = (m : Int) - 1 by omega], rfl, by rw [← HN.out hlt]; congr 1, .inr ⟨by omega, by rw [Nat.add_sub_cancel, hy]⟩⟩
      case measure => have hq9 := HY.out; simp [intOf]; omega
    · have e1 : decide ((1 : Int) < (m : Int)) = false := by rw [decide_eq_false_iff_not]; omega
      have hxe := HE.out (by omega)
      have HX := hide hxe
      clear hx hy hm hxe
      go_wp2
      go_ret
      exact ⟨by rw [← HX.out] <;> rfl, rfl⟩

set_option maxRecDepth 100000 in
set_option maxHeartbeats 4000000 in
theorem isBalancedS {w : World} {a : Option Addr} {cap : Nat} {l : List Bg} (h : RIn w a cap l) :
    Calls Tryd.prog 29 #[.agg #[.slice a l.length cap]] w fun e w' => e = .returned (.tuple #[.bool (blB l), .bool (rtB l)]) ∧ Below w.heap.size w w' := by
  obtain ⟨w1, hw1⟩ : ∃ w1, w1 = w.alloc (.cells #[.slice a l.length cap] 26) := ⟨_, rfl⟩
  have hb1 : Below w.heap.size w w1 := by rw [hw1]; exact (Below.refl _ _).alloc (Nat.le_refl _) _
  have hc1 : CellR w1 w.heap.size (.slice a l.length cap) := by rw [hw1]; exact CellR.new w _
  have G := hide (goodRopeS (h.later hb1))
  have HI := hide h
  have HB1 := hide hb1
  have HC1 := hide hc1
  have hll := h.len
  have hcm := h.inn.mx
  have hcl := h.inn.le
  unfold maxLen at hcm
  cases hr : rtB l with
  | false =>
    have e : blB l = false := by unfold blB; rw [hr]; rfl
    rw [e]
    rw [hr] at G
    clear e hr h hb1 hc1
    go_enter Tryd.func29, Tryd.ntmps29
    go_wp2_with fail
    rw [← hw1]
    clear hw1
    refine G.out.mono ?_
    rintro e w2 ⟨rfl, hb2⟩
    go_wp2
    go_ret2
    exact ⟨rfl, HB1.out.trans (hb2.mono HB1.out.size)⟩
  | true =>
    have e : blB l = l.all lngB := by unfold blB; rw [hr]; rfl
    rw [e]
    have HS := hide (rt_small hr)
    rw [hr] at G
    clear e hr h hb1 hc1
    go_enter Tryd.func29, Tryd.ntmps29
    go_wp2_with fail
    rw [← hw1]
    clear hw1
    refine G.out.mono ?_
    rintro e w2 ⟨rfl, hb2⟩
    have cc := (HC1.out.later hb2).cell
    have HB2 : Hid (Below w.heap.size w w2) := hide (HB1.out.trans (hb2.mono HB1.out.size))
    have HI2 := hide (HI.out.later HB2.out)
    have hs2 := HB2.out.size
    clear hb2 HI HC1 HB1
    go_wp2
    clear cc
    go_loopw [12] (fun vi wr => ∃ (k : Nat), k ≤ l.length ∧ vi = .int .i64 (k : Int) ∧ Hid ((l.take k).all lngB = true ∧ Below w2.heap.size w2 wr)) (fun vi _ => l.length - (intOf vi).toNat)
    case atStart => exact ⟨0, by omega, rfl, hide ⟨rfl, Below.refl _ _⟩⟩
    case round =>
      obtain ⟨k, hk, rfl, HR⟩ := hrel
      by_cases hlt : k < l.length
      · have hne : l ≠ [] := fun c => by rw [c] at hlt; simp at hlt
        obtain ⟨g, rfl, hg, hcs⟩ := (HI2.out.inn.later HR.out.2).ad hne
        obtain ⟨b0, b1, b2, b3, b4⟩ := hcs.bgat k hlt
        obtain ⟨z, d, e1, e2, hz, hd⟩ := HS.out k hlt
        have HT : Hid ((l.take (k + 1)).all lngB = lng z d) := hide (by
          rw [List.take_succ_eq_append_getElem hlt, List.all_append, HR.out.1]
          simp only [List.all_cons, List.all_nil, Bool.and_true, Bool.true_and]
          unfold lngB
          rw [e1, e2]
          rfl)
        rw [e1] at b3
        rw [e2] at b4
        have HF : Hid (lng z d = false → l.all lngB = false) := hide (fun c => by
          have h1 := HT.out
          rw [c] at h1
          have h2 : l.all lngB = ((l.take (k + 1)).all lngB && (l.drop (k + 1)).all lngB) := by rw [← List.all_append, List.take_append_drop]
          rw [h2, h1]; rfl)
        obtain ⟨wx, hwx⟩ : ∃ wx, wx = wr.alloc (.cells #[.int .i64 l[k].left, .int .i64 l[k].right, .string l[k].text, .int .i64 (z : Int), .int .i64 (d : Int)] 36) := ⟨_, rfl⟩
        have HBb : Hid (Below w2.heap.size w2 wx) := hide (by rw [hwx]; exact HR.out.2.alloc HR.out.2.size _)
        have x3 : wx.cell? ⟨wr.heap.size, 3, none⟩ = some (.int .i64 (z : Int)) := by rw [hwx, cell_of_row _ _ 3 _ _ (0, 0) (heap_alloc_new wr _)]; rfl
        have x4 : wx.cell? ⟨wr.heap.size, 4, none⟩ = some (.int .i64 (d : Int)) := by rw [hwx, cell_of_row _ _ 4 _ _ (0, 0) (heap_alloc_new wr _)]; rfl
        clear hcs e1 e2
        by_cases h20 : 20 < d
        · have g1 : decide ((20 : Int) < (d : Int)) = true := by rw [decide_eq_true_iff]; omega
          have hlf : lng z d = false := by
            unfold lng
            rw [decide_eq_false_iff_not]
            have h1 := fb_mono (show 14 ≤ d by omega)
            have h2 : fb 14 = 987 := by decide
            omega
          have hFa := HF.out hlf
          have HFa := hide hFa
          clear hlf hFa HT HF
          go_wp2
          rw [← hwx]
          clear hwx
          go_quiet (fail)
          go_wp2
          go_ret2
          exact ⟨by rw [HFa.out] <;> rfl, HB2.out.trans ((HBb.out.trans ((show Below wx.heap.size wx (wx.drewN nq) from ⟨rfl, rfl, rfl, Nat.le_refl _, fun _ _ => rfl⟩).mono HBb.out.size)).mono hs2)⟩
        · have g1 : decide ((20 : Int) < (d : Int)) = false := by rw [decide_eq_false_iff_not]; omega
          have FB := hide (fun w => l12Fibonacci_any d w (by omega))
          have ewd : IntKind.i64.wrap ((d : Int) + 2) = (d : Int) + 2 := by rw [IntKind.wrap_i64]; omega
          have hq : decide ((z : Int) < (fb d : Int)) = !(lng z d) := by
            unfold lng
            by_cases c : fb d ≤ z
            · rw [decide_eq_true c, decide_eq_false (by omega)]; rfl
            · rw [decide_eq_false c, decide_eq_true (by omega)]; rfl
          obtain ⟨q, hqq⟩ : ∃ q, lng z d = q := ⟨_, rfl⟩
          obtain ⟨fv, hfv⟩ : ∃ fv, fb d = fv := ⟨_, rfl⟩
          rw [hqq] at HT HF hq
          rw [hfv] at FB hq
          clear hqq hfv
          cases q with
          | true =>
            have hq2 : ¬ z < fv := by have := of_decide_eq_false hq; omega
            have hq3 : decide (z < fv) = false := decide_eq_false hq2
            clear hq
            go_wp2
            rw [← hwx]
            clear hwx
            go_quiet ((exact Calls.quiet_of ((FB.out _).mono (fun e w' h => ⟨h.1, 0, h.2⟩))))
            go_wp2
            exact ⟨⟨k + 1, by omega, by go_num, hide ⟨HT.out, HBb.out.trans ((show Below wx.heap.size wx (wx.drewN nq) from ⟨rfl, rfl, rfl, Nat.le_refl _, fun _ _ => rfl⟩).mono HBb.out.size)⟩⟩, by simp [intOf]; omega⟩
          | false =>
            have hq2 : z < fv := by have := of_decide_eq_true hq; omega
            have hq3 : decide (z < fv) = true := decide_eq_true hq2
            have HFa := hide (HF.out (by first | rfl | trivial))
            clear hq
            go_wp2
            rw [← hwx]
            clear hwx
            go_quiet ((exact Calls.quiet_of ((FB.out _).mono (fun e w' h => ⟨h.1, 0, h.2⟩))))
            go_wp2
            go_ret2
            exact ⟨by rw [HFa.out] <;> rfl, HB2.out.trans ((HBb.out.trans ((show Below wx.heap.size wx (wx.drewN nq) from ⟨rfl, rfl, rfl, Nat.le_refl _, fun _ _ => rfl⟩).mono HBb.out.size)).mono hs2)⟩
      · have HE : Hid (l.all lngB = true) := hide (by have := HR.out.1; rw [List.take_of_length_le (by omega)] at this; exact this)
        go_wp2
        go_ret2
        exact ⟨by rw [HE.out] <;> rfl, HB2.out.trans (HR.out.2.mono hs2)⟩
end Go.Proofs.YtfklbhejfbfmeabDoor
