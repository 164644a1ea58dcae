/- The program's pieces asked for, and boughs held against one another. -/
import Derived.Test.YtgacajnljplmiabDoorRop8
import Derived.Test.YtgacajnljplmiabDoorWalks1
set_option linter.unusedVariables false
namespace Go.Proofs.YtgacajnljplmiabDoor
open Go.RowKit
open Doc1

set_option maxRecDepth 100000 in
theorem bgNeq (x y : Bg) (w : World) : (binOp .neq 65 (bgV x) (bgV y)).run Tryd.prog w = .ok (.bool (decide (x ≠ y))) w := by
  unfold bgV
  by_cases e : x = y
  · subst e
    simp [go_sem]
  · have hd : decide (x ≠ y) = true := decide_eq_true e
    rw [hd]
    have hx : ¬ (x.left = y.left ∧ x.right = y.right ∧ x.text.toList = y.text.toList ∧ x.size = y.size ∧ x.deep = y.deep) := fun ⟨h1, h2, h3, h4, h5⟩ => e (by
      have h3' : x.text = y.text := ba_eq (by rw [ByteArray.toList_eq, ByteArray.toList_eq] at h3; exact h3)
      cases x; cases y; simp_all)
    by_cases h1 : x.left = y.left
    · by_cases h2 : x.right = y.right
      · by_cases h3 : x.text.toList = y.text.toList
        · by_cases h4 : x.size = y.size
          · by_cases h5 : x.deep = y.deep
            · exact absurd ⟨h1, h2, h3, h4, h5⟩ hx
            · simp [go_sem, h1, h2, h3, h4, h5]
          · simp [go_sem, h1, h2, h3, h4]
        · simp [go_sem, h1, h2, h3]
      · simp [go_sem, h1, h2]
    · simp [go_sem, h1]

set_option maxRecDepth 100000 in
set_option maxHeartbeats 4000000 in
theorem equalBo_at (ga gb ca cb : Nat) (la lb : List Bg) (w : World) (hm : la.length ≤ 10000000) (hl : la.length = lb.length) (h1 : la.length ≤ ca ∧ ca ≤ maxLen) (h2 : lb.length ≤ cb ∧ cb ≤ maxLen) (ha : CLs w ga (encBo la)) (hb : CLs w gb (encBo lb)) (hga : ga < w.heap.size) (hgb : gb < w.heap.size) :
    Calls Tryd.prog 128 #[.slice (some ⟨ga, 0, none⟩) la.length ca, .slice (some ⟨gb, 0, none⟩) lb.length cb] w fun e w' => e = .returned (.bool (decide (la = lb))) ∧ Below w.heap.size w w' := by
  go_enter Tryd.func128, Tryd.ntmps128
  go_wp2
  go_loopw [13] (fun i wr => ∃ k : Nat, k ≤ la.length ∧ i = .int .i64 k ∧ Hid (la.take k = lb.take k) ∧ Hid (Below w.heap.size w wr)) (fun i _ => la.length - (intOf i).toNat)
  case atStart => exact ⟨0, by omega, rfl, hide rfl, hide (Below.refl _ _)⟩
  case round =>
    obtain ⟨k, hk, rfl, hp, hbel⟩ := hrel
    by_cases hlt : k < la.length
    · have hltb : k < lb.length := by omega
      obtain ⟨a0, a1, a2, a3, a4⟩ := (ha.later hbel.out hga).bgat k hlt
      obtain ⟨b0, b1, b2, b3, b4⟩ := (hb.later hbel.out hgb).bgat k hltb
      have hq := fun w => bgNeq la[k] lb[k] w
      unfold bgV at hq
      by_cases e : la[k] = lb[k]
      · have Hs : Hid (la.take (k + 1) = lb.take (k + 1)) := hide (by rw [List.take_succ_eq_append_getElem hlt, List.take_succ_eq_append_getElem hltb, hp.out, e])
        rw [← e] at b0 b1 b2 b3 b4
        clear e hq ha hb
        go_wp2
        go_quiet (fail)
        go_wp2
        go_roundw
        case rel => exact ⟨k + 1, by omega, by go_num, Hs, hide (hbel.out.trans ⟨rfl, rfl, rfl, Nat.le_refl _, fun _ _ => rfl⟩)⟩
        case measure => simp [intOf]; omega
      · have Hne : Hid (la ≠ lb) := hide (fun h => e (by subst h; rfl))
        rw [show decide (la[k] ≠ lb[k]) = true from decide_eq_true e] at hq
        clear e ha hb
        go_wp2
        go_quiet (fail)
        go_wp2
        go_ret
        exact ⟨ret_bool (decide_eq_false Hne.out).symm, hbel.out.trans ⟨rfl, rfl, rfl, Nat.le_refl _, fun _ _ => rfl⟩⟩
    · obtain rfl : k = la.length := by omega
      have E : la = lb := by
        have := hp.out
        rw [List.take_length, hl, List.take_length] at this
        exact this
      have HE := hide E
      clear ha hb E
      go_wp2
      go_ret
      exact ⟨ret_bool (decide_eq_true HE.out).symm, hbel.out⟩

set_option maxRecDepth 100000 in
set_option maxHeartbeats 4000000 in
theorem equalBo_len (a b : Option Addr) (na nb ca cb : Nat) (w : World) (hl : ¬ na = nb) :
    Calls Tryd.prog 128 #[.slice a na ca, .slice b nb cb] w fun e w' => e = .returned (.bool false) ∧ Below w.heap.size w w' := by
  go_enter Tryd.func128, Tryd.ntmps128
  go_wp2
  go_ret
  exact ⟨rfl, Below.refl _ _⟩

set_option maxRecDepth 100000 in
set_option maxHeartbeats 4000000 in
theorem isPiece_any (s : ByteArray) (w : World) (hT : Tab w) (hs : s.size ≤ 9223372036854775807) :
    Calls Tryd.prog 127 #[.string s] w fun e w' => e = .returned (.bool (gpc s)) ∧ w' = w := by
  by_cases h0 : s.size = 0
  · have he : s.toList.isEmpty = true := by rw [Lib.toList_data, List.isEmpty_iff_length_eq_zero, ← szB]; exact h0
    have hg : gpc s = false := by unfold gpc; rw [h0]; rfl
    rw [hg]
    go_enter Tryd.func127, Tryd.ntmps127
    go_wp2
    go_ret
    exact ⟨rfl, rfl⟩
  · have he : s.toList.isEmpty = false := by rw [Lib.toList_data, List.isEmpty_eq_false_iff, ← List.length_pos_iff, ← szB]; omega
    by_cases h8 : s.size ≤ 8
    · have G := hide (goodTextI_any s w (by omega) hT)
      have hg : gpc s = good s.data.toList := by unfold gpc; rw [decide_eq_true (show 0 < s.size by omega), decide_eq_true h8]; rfl
      rw [hg]
      have hd : decide ((s.size : Int) ≤ 8) = true := by rw [decide_eq_true_iff]; omega
      obtain ⟨b, hb⟩ : ∃ b, good s.data.toList = b := ⟨_, rfl⟩
      rw [hb] at G ⊢
      clear hg hb
      go_enter Tryd.func127, Tryd.ntmps127
      go_wp2_with fail
      refine G.out.mono ?_
      rintro e w' ⟨rfl, rfl⟩
      go_wp2
      go_ret
      exact ⟨rfl, rfl⟩
    · have hg : gpc s = false := by unfold gpc; rw [decide_eq_false h8]; simp
      have hd : decide ((s.size : Int) ≤ 8) = false := by rw [decide_eq_false_iff_not]; omega
      rw [hg]
      go_enter Tryd.func127, Tryd.ntmps127
      go_wp2
      go_ret
      exact ⟨rfl, rfl⟩
end Go.Proofs.YtgacajnljplmiabDoor
