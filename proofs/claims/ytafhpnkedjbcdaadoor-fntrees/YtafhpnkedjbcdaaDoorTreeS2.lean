/- The contracts of the model's own l2Shape, l2Same, GoodTree and FlatOf. -/
import Derived.Test.YtafhpnkedjbcdaaDoorTreeS1
import Derived.Test.YtafhpnkedjbcdaaDoorTreeW2
import Derived.Test.YtafhpnkedjbcdaaDoorTreeM
namespace Go.Proofs.YtafhpnkedjbcdaaDoor
open Go.RowKit
open Doc1

set_option maxHeartbeats 2000000 in
theorem l2Shape_any (l : List Nd) (g cap : Nat) (w : World) (hm : l.length ≤ 2000000) (_hcap : l.length ≤ cap ∧ cap ≤ maxLen) (h : NAt w g l) (hg : g < w.heap.size) :
    Calls Tryd.prog 120 #[.slice (some ⟨g, 0, none⟩) l.length cap] w fun e w' => e = .returned (.bool (shapeL l)) ∧ Below w.heap.size w w' := by
  have H := hide h
  clear h
  go_enter Tryd.func120, Tryd.ntmps120
  go_wp2
  go_loopw [7] (fun i wr => ∃ m : Nat, i = .int .i64 m ∧ m ≤ l.length ∧ Hid (shU l m = true) ∧ Below w.heap.size w wr) (fun i _ => l.length - (intOf i).toNat)
  case atStart => exact ⟨0, rfl, Nat.zero_le _, rfl, Below.refl _ _⟩
  case round =>
    obtain ⟨i, rfl, hi, hsh, hbel⟩ := hrel
    by_cases hlt : i < l.length
    · have ra := H.out.later hbel hg
      have c0 := ra.c0 i hlt
      have c1 := ra.c1 i hlt
      have c2 := ra.c2 i hlt
      have I := l1In_any l[i].up (-1) ((i : Int) - 1) (wr.alloc (.cells #[.string l[i].name, .string l[i].text, .int .i64 l[i].up] 53))
      have hone : shOne l i = ((decide (i = 0) == decide (l[i].up = -1)) && decide (-1 ≤ l[i].up ∧ l[i].up ≤ (i : Int) - 1)) := by unfold shOne; rw [ndAt_get hlt]
      obtain ⟨u, hu⟩ : ∃ u, u = l[i].up := ⟨_, rfl⟩
      rw [← hu] at c2 I hone
      have I2 := hide I
      have Ho := hide hone
      have Hn : Hid (shOne l i = false → shapeL l = false) := hide (fun h => by unfold shapeL; rw [shU_no h l.length hlt]; rfl)
      have Hy : Hid (shOne l i = true → shU l (i + 1) = true) := hide (fun h => by unfold shU; rw [hsh.out, h]; rfl)
      clear ra I hone hu
      go_wp2_with (go_at_call 62; refine I2.out.mono ?_; rintro e w' ⟨rfl, hw⟩; replace hw := hw.symm; subst hw)
      · rename_i h1 h2
        go_ret
        refine ⟨ret_bool (Hn.out ?_).symm, hbel.alloc hbel.size _⟩
        rw [Ho.out]
        simp only [Bool.and_eq_false_iff]
        right
        apply decide_eq_false
        simp at h2
        omega
      · rename_i h1 h2
        refine ⟨⟨i + 1, by go_num, by omega, hide (Hy.out ?_), hbel.alloc hbel.size _⟩, by simp [intOf]; omega⟩
        rw [Ho.out]
        have e1 : (decide (i = 0) == decide (u = -1)) = true := by
          rw [beq_iff_eq, Bool.eq_iff_iff]
          rw [Bool.eq_iff_iff] at h1
          simp at h1 ⊢
          exact h1
        rw [e1, Bool.true_and]
        apply decide_eq_true
        simp at h2
        omega
      · rename_i h1
        go_ret
        refine ⟨ret_bool (Hn.out ?_).symm, hbel.alloc hbel.size _⟩
        rw [Ho.out]
        simp only [Bool.and_eq_false_iff]
        left
        rw [beq_eq_false_iff_ne]
        intro h3
        apply h1
        rw [Bool.eq_iff_iff] at h3 ⊢
        simp at h3 ⊢
        exact h3
    · obtain rfl : i = l.length := by omega
      have I := hide (l1In_any l.length 1 301 wr)
      go_wp2_with (go_at_call 62; refine I.out.mono ?_; rintro e w' ⟨rfl, hw⟩; replace hw := hw.symm; subst hw)
      go_ret
      exact ⟨ret_bool (by unfold shapeL; rw [hsh.out, Bool.true_and, Bool.eq_iff_iff]; simp; omega), hbel⟩

set_option maxHeartbeats 2000000 in
theorem l2Same_any (ga gb ca cb : Nat) (la lb : List Nd) (w : World) (hma : la.length ≤ 10000000) (_h1 : la.length ≤ ca ∧ ca ≤ maxLen) (_h2 : lb.length ≤ cb ∧ cb ≤ maxLen) (ha : NAt w ga la) (hb : NAt w gb lb) (hga : ga < w.heap.size) (hgb : gb < w.heap.size) :
    Calls Tryd.prog 121 #[.slice (some ⟨ga, 0, none⟩) la.length ca, .slice (some ⟨gb, 0, none⟩) lb.length cb] w fun e w' => e = .returned (.bool (decide (la = lb))) ∧ Below w.heap.size w w' := by
  by_cases hl : la.length = lb.length
  · have HA := hide ha
    have HB := hide hb
    clear ha hb
    go_enter Tryd.func121, Tryd.ntmps121
    go_wp2
    go_loopw [13] (fun i wr => ∃ k : Nat, k ≤ la.length ∧ i = .int .i64 k ∧ Hid (la.take k = lb.take k) ∧ Below w.heap.size w wr) (fun i _ => la.length - (intOf i).toNat)
    case atStart => exact ⟨0, by omega, rfl, hide rfl, Below.refl _ _⟩
    case round =>
      obtain ⟨k, hk, rfl, hp, hbel⟩ := hrel
      by_cases hlt : k < la.length
      · have hltb : k < lb.length := by omega
        have ra := HA.out.later hbel hga
        have rb := HB.out.later hbel hgb
        have a0 := ra.c0 k hlt
        have a1 := ra.c1 k hlt
        have a2 := ra.c2 k hlt
        have b0 := rb.c0 k hltb
        have b1 := rb.c1 k hltb
        have b2 := rb.c2 k hltb
        clear ra rb
        by_cases e : la[k] = lb[k]
        · rw [← e] at b0 b1 b2
          have Hs : Hid (la.take (k + 1) = lb.take (k + 1)) := hide (by rw [List.take_succ_eq_append_getElem hlt, List.take_succ_eq_append_getElem hltb, hp.out, e])
          clear e
          go_wp2
          go_region
          all_goals
            go_wp2
            go_roundw
            case rel => exact ⟨k + 1, by omega, by go_num, Hs, hbel.trans ⟨rfl, rfl, rfl, Nat.le_refl _, fun _ _ => rfl⟩⟩
            case measure => simp [intOf]; omega
        · have Hne : Hid (la ≠ lb) := hide (fun h => e (by subst h; rfl))
          by_cases e0 : la[k].name = lb[k].name
          · rw [← e0] at b0
            by_cases e1 : la[k].text = lb[k].text
            · rw [← e1] at b1
              have e2 : ¬ la[k].up = lb[k].up := fun h => e (by
                have : ∀ a b : Nd, a.name = b.name → a.text = b.text → a.up = b.up → a = b := by intro a b; cases a; cases b; simp; intros; simp_all
                exact this _ _ e0 e1 h)
              clear e e0 e1
              go_wp2
              go_region
              all_goals
                go_wp2
                go_ret
                exact ⟨ret_bool (decide_eq_false Hne.out).symm, hbel.trans ⟨rfl, rfl, rfl, Nat.le_refl _, fun _ _ => rfl⟩⟩
            · have e2 : ¬ la[k].text.toList = lb[k].text.toList := fun h => e1 (ba_eq (by rw [ByteArray.toList_eq, ByteArray.toList_eq] at h; exact h))
              clear e e0 e1
              go_wp2
              go_region
              all_goals
                go_wp2
                go_ret
                exact ⟨ret_bool (decide_eq_false Hne.out).symm, hbel.trans ⟨rfl, rfl, rfl, Nat.le_refl _, fun _ _ => rfl⟩⟩
          · have e2 : ¬ la[k].name.toList = lb[k].name.toList := fun h => e0 (ba_eq (by rw [ByteArray.toList_eq, ByteArray.toList_eq] at h; exact h))
            clear e e0
            go_wp2
            go_region
            all_goals
              go_wp2
              go_ret
              exact ⟨ret_bool (decide_eq_false Hne.out).symm, hbel.trans ⟨rfl, rfl, rfl, Nat.le_refl _, fun _ _ => rfl⟩⟩
      · obtain rfl : k = la.length := by omega
        have E : la = lb := by
          have := hp.out
          rw [List.take_length, hl, List.take_length] at this
          exact this
        have HE := hide E
        clear E
        go_wp2
        go_ret
        exact ⟨ret_bool (decide_eq_true HE.out).symm, hbel⟩
  · have Hne : Hid (la ≠ lb) := hide (fun e => hl (by rw [e]))
    clear ha hb
    go_enter Tryd.func121, Tryd.ntmps121
    go_wp2
    go_ret
    exact ⟨ret_bool (decide_eq_false Hne.out).symm, Below.refl _ _⟩

theorem sF_le (g : Nat → Nat) : ∀ (k d : Nat), sF g k d ≤ sF g 0 (k + d)
  | 0, d => by rw [Nat.zero_add]; exact Nat.le_refl _
  | k + 1, d => by
    have h1 := sF_le g k (d + 1)
    rw [show k + (d + 1) = k + 1 + d by omega] at h1
    simp only [sF] at h1
    omega

set_option maxHeartbeats 2000000 in
theorem goodTreeS_any (l : List Nd) (g cap : Nat) (w : World) (hcap : l.length ≤ cap ∧ cap ≤ maxLen) (hm : l.length ≤ 1048576) (hsum : sF (ownL l) 0 l.length ≤ 1048576) (h : NAt w g l) (hg : g < w.heap.size) :
    Calls Tryd.prog 83 #[.slice (some ⟨g, 0, none⟩) l.length cap] w fun e w' => e = .returned (.bool (goodT l)) ∧ Below w.heap.size w w' := by
  have S := l2Shape_any l g cap w (by omega) hcap h hg
  cases hsh : shapeL l with
  | false =>
    rw [hsh] at S
    replace S := hide S
    have hgT : goodT l = false := by unfold goodT; rw [hsh]; rfl
    rw [hgT]
    clear h hsh hgT
    go_enter Tryd.func83, Tryd.ntmps83
    go_wp2_with (go_at_call 120; refine S.out.mono ?_; rintro e w1 ⟨rfl, hb1⟩)
    go_ret
    exact ⟨rfl, hb1⟩
  | true =>
    rw [hsh] at S
    replace S := hide S
    obtain ⟨hup, hl1, hl2⟩ := shape_up hsh
    have hfl : ∀ k, k < l.length → (fl l k).length ≤ 1048576 := fun k hk => by
      have h1 := fl_le l hup k hk
      have h2 := sF_le (ownL l) k (l.length - k)
      rw [show k + (l.length - k) = l.length by omega] at h2
      omega
    have F : Hid (∀ w, NAt w g l → g < w.heap.size → Calls Tryd.prog 89 #[.slice (some ⟨g, 0, none⟩) l.length cap, .int .i64 0] w fun e w' => e = .returned (.string (ba (fl l 0))) ∧ Below w.heap.size w w') := hide (fun w h1 h2 => l2Flat_any l g cap (by omega) hcap (fun k hk => by have := hfl k hk; omega) l.length 0 (by omega) (by omega) w h1 h2)
    have hs0 : (ba (fl l 0)).size ≤ 1048576 := by rw [ba_size]; exact hfl 0 (by omega)
    have G : Hid (∀ w, Calls Tryd.prog 15 #[.string (ba (fl l 0))] w fun e w' => e = .returned (.bool (doc (fl l 0))) ∧ w' = w) := hide (fun w => by have := goodDocS_any (ba (fl l 0)) w hs0; rw [ba_list] at this; exact this)
    have H := hide h
    cases hd : doc (fl l 0) with
    | false =>
      rw [hd] at G
      have hgT : goodT l = false := by unfold goodT; rw [hsh, hd]; rfl
      rw [hgT]
      clear h hsh hgT hd hfl hup
      go_enter Tryd.func83, Tryd.ntmps83
      go_wp2_with fail
      refine S.out.mono ?_
      rintro e w1 ⟨rfl, hb1⟩
      have F1 := hide (F.out w1 (H.out.later hb1 hg) (Nat.lt_of_lt_of_le hg hb1.size))
      go_wp2_with fail
      refine F1.out.mono ?_
      rintro e w2 ⟨rfl, hb2⟩
      go_wp2_with (go_at_call 15; refine (G.out _).mono ?_; rintro e w' ⟨rfl, hw⟩; replace hw := hw.symm; subst hw)
      go_ret
      exact ⟨rfl, hb1.trans (hb2.mono hb1.size)⟩
    | true =>
      rw [hd] at G
      have T : Hid (∀ w, Calls Tryd.prog 79 #[.string (ba (fl l 0))] w fun e w' => ∃ v, e = .returned v ∧ NOwn w' w.heap.size v (tree (fl l 0)) ∧ Below w.heap.size w w') := hide (fun w => by have := l2Tree_any (ba (fl l 0)) w (by rw [ba_list]; exact hd); rw [ba_list] at this; exact this)
      have hgT : goodT l = decide (tree (fl l 0) = l) := by unfold goodT; rw [hsh, hd]; simp
      rw [hgT]
      have htn : tree (fl l 0) ≠ [] := by
        have h : pin.l <+: tree (fl l 0) := feed_pre_out _ _
        intro e
        rw [e] at h
        have := h.length_le
        simp [pin] at this
      have htl := tree_len (fl l 0)
      have hf0 := hfl 0 (by omega)
      clear h hsh hgT hd hfl hup
      go_enter Tryd.func83, Tryd.ntmps83
      go_wp2_with fail
      refine S.out.mono ?_
      rintro e w1 ⟨rfl, hb1⟩
      have F1 := hide (F.out w1 (H.out.later hb1 hg) (Nat.lt_of_lt_of_le hg hb1.size))
      go_wp2_with fail
      refine F1.out.mono ?_
      rintro e w2 ⟨rfl, hb2⟩
      have hB2 := hb1.trans (hb2.mono hb1.size)
      have T2 := hide (T.out w2)
      go_wp2_with (go_at_call 15; refine (G.out _).mono ?_; rintro e w' ⟨rfl, hw⟩; replace hw := hw.symm; subst hw)
      refine T2.out.mono ?_
      rintro e w3 ⟨v3, rfl, o3, hb3⟩
      obtain ⟨g3, c3, rfl, k1, k2, k3, k4, n3, -⟩ := o3.shape htn
      have hB3 := hB2.trans (hb3.mono hB2.size)
      have n0 := H.out.later hB3 hg
      have M := hide (l2Same_any g3 g c3 cap (tree (fl l 0)) l w3 (by omega) ⟨k1, k2⟩ hcap n3 n0 k4 (Nat.lt_of_lt_of_le hg hB3.size))
      clear o3 n3 n0
      go_wp2_with fail
      refine M.out.mono ?_
      rintro e w4 ⟨rfl, hb4⟩
      go_wp2
      go_ret
      exact ⟨rfl, hB3.trans (hb4.mono hB3.size)⟩
end Go.Proofs.YtafhpnkedjbcdaaDoor
