/- The law of PathOf: whatever the text and the place, it answers true and turns nothing old. -/
import Derived.Test.YtbmnciejaknonatDoorPathW3
import Derived.Test.YtbmnciejaknonatDoorInts1
namespace Go.Proofs.YtbmnciejaknonatDoor
open Go.RowKit
open Doc1

set_option maxRecDepth 100000 in
set_option maxHeartbeats 2000000 in
theorem law_pathOf (s : ByteArray) (a : Int) (w : World) (hm : s.size ≤ maxLen) (hT : Tab w) :
    Calls Tryd.prog 5 #[.string s, .int .i64 a] w fun e w' => e = .returned (.bool true) ∧ Below w.heap.size w w' := by
  unfold maxLen at hm
  by_cases hs : s.size ≤ 1048576
  · by_cases hd : doc s.data.toList = true ∧ 0 ≤ a ∧ a ≤ s.size
    case neg =>
      have H1 := hide (pathS_no s a w hs hd)
      have H2 : Hid (∀ w, Tab w → Calls Tryd.prog 17 #[.string s, .int .i64 a] w fun e w' => e = .returned (.tuple #[.slice none 0 0, .bool false]) ∧ Below w.heap.size w w') := hide (fun w h => pathI_no s a w hs h hd)
      have E1 : Hid (∀ w, Calls Tryd.prog 18 #[.slice none 0 0, .slice none 0 0] w fun e w' => e = .returned (.bool true) ∧ w' = w) := hide eqIntS_nil
      have E2 : Hid (∀ w, Calls Tryd.prog 19 #[.slice none 0 0, .int .i64 1] w fun e w' => e = .returned (.int .i64 1) ∧ w' = w) := hide markIntS_nil
      have E3 : Hid (∀ w, Calls Tryd.prog 20 #[.slice none 0 0, .int .i64 1] w fun e w' => e = .returned (.int .i64 1) ∧ w' = w) := hide heldIntS_nil
      clear hd
      go_enter Tryd.func5, Tryd.ntmps5
      go_wp2_with (first | (go_at_call 16; refine H1.out.mono ?_; rintro e w' ⟨rfl, hw⟩; replace hw := hw.symm; subst hw))
      refine (H2.out _ hT).mono ?_
      rintro e w1 ⟨rfl, hb1⟩
      have hT1 := hT.below hb1
      go_wp2_with (first | (go_at_call 18; refine (E1.out _).mono ?_; rintro e w' ⟨rfl, hw⟩; replace hw := hw.symm; subst hw) | (go_at_call 19; refine (E2.out _).mono ?_; rintro e w' ⟨rfl, hw⟩; replace hw := hw.symm; subst hw) | (go_at_call 20; refine (E3.out _).mono ?_; rintro e w' ⟨rfl, hw⟩; replace hw := hw.symm; subst hw))
      refine (H2.out _ hT1).mono ?_
      rintro e w2 ⟨rfl, hb2⟩
      go_wp2_with (first | (go_at_call 18; refine (E1.out _).mono ?_; rintro e w' ⟨rfl, hw⟩; replace hw := hw.symm; subst hw) | (go_at_call 20; refine (E3.out _).mono ?_; rintro e w' ⟨rfl, hw⟩; replace hw := hw.symm; subst hw))
      go_ret
      exact ⟨rfl, hb1.trans (hb2.mono hb1.size)⟩
    case pos =>
      obtain ⟨hd, ha0, ha1⟩ := hd
      obtain ⟨n, rfl⟩ : ∃ n : Nat, a = n := ⟨a.toNat, by omega⟩
      have hs3 := doc_sz s hd
      have hns : n ≤ s.size := by omega
      have H1 := hide (pathS_yes s n w hs hd hns)
      have H2 : Hid (∀ w, Tab w → Calls Tryd.prog 17 #[.string s, .int .i64 n] w fun e w' => ∃ v, e = .returned (.tuple #[v, .bool true]) ∧ w'.ownsRow w.heap.size 3 1 v (path s.data.toList n).length (ints (path s.data.toList n)) ∧ Below w.heap.size w w') := hide (fun w h => pathI_yes s n w hs h hd hns)
      have hn : (path s.data.toList n).length ≤ 301 := by have := path_len (W s.data.toList n) n; have h2 := (W_bd s n hns).2.2; unfold path; omega
      have hne : path s.data.toList n ≠ [] := by unfold path pathL; simp
      obtain ⟨T, hTr⟩ : ∃ T, T = path s.data.toList n := ⟨_, rfl⟩
      rw [← hTr] at H1 H2 hn hne
      clear hd hTr
      go_enter Tryd.func5, Tryd.ntmps5
      go_wp2_with fail
      refine H1.out.mono ?_
      rintro e w1 ⟨v1, rfl, o1, hb1⟩
      obtain ⟨g1, c1, rfl, k1, k2, k3, k4, n1, -⟩ := ints_shape o1 hne
      have hT1 := hT.below hb1
      clear o1 H1
      go_wp2_with fail
      refine (H2.out _ hT1).mono ?_
      rintro e w2 ⟨v2, rfl, o2, hb2⟩
      obtain ⟨g2, c2, rfl, l1, l2, l3, l4, n2, b2⟩ := ints_shape o2 hne
      have n1' := n1.later hb2 k4
      have hB2 := hb1.trans (hb2.mono hb1.size)
      have s2 := hb2.size
      have s1 := hb1.size
      clear o2 n1 hT1
      go_wp2_with fail
      refine (eqIntS_at g2 g1 c2 c1 T w2 (by omega) ⟨l1, l2⟩ ⟨k1, k2⟩ n2 n1' l4 (by omega)).mono ?_
      rintro e w3 ⟨rfl, hb3⟩
      have s3 := hb3.size
      have n1a := n1'.later hb3 (by omega)
      have b3 := b2.later hb3 l4
      have hB3 := hB2.trans (hb3.mono hB2.size)
      clear n1' n2 b2 hb1 hb2 hB2
      go_wp2_with fail
      refine (markIntS_at g2 c2 T.length w3 (by omega) ⟨l1, l2⟩ b3).mono ?_
      rintro e w4 ⟨rfl, hg4, m4⟩
      have s4 := hg4.size
      have n1b := n1a.grown hg4 (by omega) (by omega)
      have hB4 := hB3.grown hg4 hB3.size (by intro k hk; cases hk; omega)
      clear n1a b3 hg4 hb3 hB3
      go_wp2_with fail
      refine (heldIntS_at g2 c2 T.length w4 (by omega) ⟨l1, l2⟩ m4).mono ?_
      rintro e w5 ⟨rfl, hb5⟩
      have s5 := hb5.size
      have n1c := n1b.later hb5 (by omega)
      have m5 := m4.later hb5 (by omega)
      have hB5 := hB4.trans (hb5.mono hB4.size)
      have hT5 := hT.below hB5
      clear n1b m4 hb5 hB4
      go_wp2_with fail
      refine (H2.out _ hT5).mono ?_
      rintro e w6 ⟨v6, rfl, o6, hb6⟩
      obtain ⟨g6, c6, rfl, q1, q2, q3, q4, n6, -⟩ := ints_shape o6 hne
      have s6 := hb6.size
      have n1d := n1c.later hb6 (by omega)
      have m6 := m5.later hb6 (by omega)
      have hB6 := hB5.trans (hb6.mono hB5.size)
      clear o6 n1c m5 hb6 hB5 hT5
      go_wp2_with fail
      refine (eqIntS_at g6 g1 c6 c1 T w6 (by omega) ⟨q1, q2⟩ ⟨k1, k2⟩ n6 n1d q4 (by omega)).mono ?_
      rintro e w7 ⟨rfl, hb7⟩
      have s7 := hb7.size
      have m7 := m6.later hb7 (by omega)
      have hB7 := hB6.trans (hb7.mono hB6.size)
      clear n6 n1d m6 hb7 hB6
      go_wp2_with fail
      refine (heldIntS_at g2 c2 T.length w7 (by omega) ⟨l1, l2⟩ m7).mono ?_
      rintro e w8 ⟨rfl, hb8⟩
      have hB8 := hB7.trans (hb8.mono hB7.size)
      clear m7 hb8 hB7
      go_wp2
      go_ret
      exact ⟨rfl, hB8⟩
  · go_enter Tryd.func5, Tryd.ntmps5
    go_wp2
    go_ret
    exact ⟨rfl, Below.refl _ _⟩
end Go.Proofs.YtbmnciejaknonatDoor
