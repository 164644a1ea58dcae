/- The law of TreeOf: whatever the text, it answers true and turns nothing old. -/
import Derived.Test.YtbmnciejaknonasDoorTreeW2
namespace Go.Proofs.YtbmnciejaknonasDoor
open Go.RowKit
open Doc1

set_option maxHeartbeats 400000 in
theorem eqNodeS_nil (w : World) :
    Calls Tryd.prog 21 #[.slice none 0 0, .slice none 0 0] w fun e w' => e = .returned (.bool true) ∧ w' = w := by
  go_enter Tryd.func21, Tryd.ntmps21
  go_wp2
  go_loop [5] (fun i => i = .int .i64 0) (fun _ => 0)
  case atStart => rfl
  case round =>
    subst hrel
    go_wp2
    go_ret
    exact ⟨rfl, rfl⟩
set_option maxHeartbeats 400000 in
theorem markNodeS_nil (w : World) :
    Calls Tryd.prog 22 #[.slice none 0 0, .int .i64 1] w fun e w' => e = .returned (.int .i64 1) ∧ w' = w := by
  go_enter Tryd.func22, Tryd.ntmps22
  go_wp2
  go_loop [1, 5] (fun k i => k = .int .i64 1 ∧ i = .int .i64 0) (fun _ _ => 0)
  case atStart => exact ⟨rfl, rfl⟩
  case round =>
    obtain ⟨rfl, rfl⟩ := hrel
    go_wp2
    go_ret
    exact ⟨rfl, rfl⟩
set_option maxHeartbeats 400000 in
theorem heldNodeS_nil (w : World) :
    Calls Tryd.prog 23 #[.slice none 0 0, .int .i64 1] w fun e w' => e = .returned (.int .i64 1) ∧ w' = w := by
  go_enter Tryd.func23, Tryd.ntmps23
  go_wp2
  go_loop [1, 5] (fun k i => k = .int .i64 1 ∧ i = .int .i64 0) (fun _ _ => 0)
  case atStart => exact ⟨rfl, rfl⟩
  case round =>
    obtain ⟨rfl, rfl⟩ := hrel
    go_wp2
    go_ret
    exact ⟨rfl, rfl⟩
theorem NAt.grown {w w1 : World} {g b : Nat} {l : List Nd} (h : NAt w g l) (hg : w.grownBy w1 (some b)) (hl : g < w.heap.size) (hne : g ≠ b) : NAt w1 g l where
  c0 := fun i hi => (World.cell?_of_block (hg.block g hl (by simpa using hne))).trans (h.c0 i hi)
  c1 := fun i hi => (World.cell?_of_block (hg.block g hl (by simpa using hne))).trans (h.c1 i hi)
  c2 := fun i hi => (World.cell?_of_block (hg.block g hl (by simpa using hne))).trans (h.c2 i hi)
theorem tree_ne (s : List UInt8) : tree s ≠ [] := by
  have h : pin.l <+: tree s := feed_pre_out _ _
  intro e
  rw [e] at h
  have := h.length_le
  simp [pin] at this

set_option maxRecDepth 100000 in
set_option maxHeartbeats 2000000 in
theorem law_treeOf (s : ByteArray) (w : World) (hm : s.size ≤ maxLen) (hT : Tab w) :
    Calls Tryd.prog 8 #[.string s] w fun e w' => e = .returned (.bool true) ∧ Below w.heap.size w w' := by
  unfold maxLen at hm
  by_cases hs : s.size ≤ 1048576
  · cases hd : doc s.data.toList with
    | false =>
      have H1 := hide (treeS_no s w hs hd)
      have H2 : Hid (∀ w, Tab w → Calls Tryd.prog 20 #[.string s] w fun e w' => e = .returned (.tuple #[.slice none 0 0, .bool false]) ∧ Below w.heap.size w w') := hide (fun w h => treeI_no s w hs h hd)
      have E1 : Hid (∀ w, Calls Tryd.prog 21 #[.slice none 0 0, .slice none 0 0] w fun e w' => e = .returned (.bool true) ∧ w' = w) := hide eqNodeS_nil
      have E2 : Hid (∀ w, Calls Tryd.prog 22 #[.slice none 0 0, .int .i64 1] w fun e w' => e = .returned (.int .i64 1) ∧ w' = w) := hide markNodeS_nil
      have E3 : Hid (∀ w, Calls Tryd.prog 23 #[.slice none 0 0, .int .i64 1] w fun e w' => e = .returned (.int .i64 1) ∧ w' = w) := hide heldNodeS_nil
      clear hd
      go_enter Tryd.func8, Tryd.ntmps8
      go_wp2_with (first | (go_at_call 19; refine H1.out.mono ?_; rintro e w' ⟨rfl, hw⟩; replace hw := hw.symm; subst hw))
      refine (H2.out _ hT).mono ?_
      rintro e w1 ⟨rfl, hb1⟩
      have hT1 := hT.below hb1
      go_wp2_with (first | (go_at_call 21; refine (E1.out _).mono ?_; rintro e w' ⟨rfl, hw⟩; replace hw := hw.symm; subst hw) | (go_at_call 22; refine (E2.out _).mono ?_; rintro e w' ⟨rfl, hw⟩; replace hw := hw.symm; subst hw) | (go_at_call 23; refine (E3.out _).mono ?_; rintro e w' ⟨rfl, hw⟩; replace hw := hw.symm; subst hw))
      refine (H2.out _ hT1).mono ?_
      rintro e w2 ⟨rfl, hb2⟩
      go_wp2_with (first | (go_at_call 21; refine (E1.out _).mono ?_; rintro e w' ⟨rfl, hw⟩; replace hw := hw.symm; subst hw) | (go_at_call 23; refine (E3.out _).mono ?_; rintro e w' ⟨rfl, hw⟩; replace hw := hw.symm; subst hw))
      go_ret
      exact ⟨rfl, hb1.trans (hb2.mono hb1.size)⟩
    | true =>
      have hs3 := doc_size s hd
      have H1 := hide (treeS_yes s w hs hd)
      have H2 : Hid (∀ w, Tab w → Calls Tryd.prog 20 #[.string s] w fun e w' => ∃ v, e = .returned (.tuple #[v, .bool true]) ∧ NOwn w' w.heap.size v (tree s.data.toList) ∧ Below w.heap.size w w') := hide (fun w h => treeI_yes s w hs h hd)
      have hn : (tree s.data.toList).length ≤ 301 := by have := tree_len s.data.toList; simp at this; omega
      have hne := tree_ne s.data.toList
      obtain ⟨T, hTr⟩ : ∃ T, T = tree s.data.toList := ⟨_, rfl⟩
      rw [← hTr] at H1 H2 hn hne
      clear hd hTr
      go_enter Tryd.func8, Tryd.ntmps8
      go_wp2_with fail
      refine H1.out.mono ?_
      rintro e w1 ⟨v1, rfl, o1, hb1⟩
      obtain ⟨g1, c1, rfl, k1, k2, k3, k4, n1, -⟩ := o1.shape hne
      have hT1 := hT.below hb1
      clear o1 H1
      go_wp2_with fail
      refine (H2.out _ hT1).mono ?_
      rintro e w2 ⟨v2, rfl, o2, hb2⟩
      obtain ⟨g2, c2, rfl, l1, l2, l3, l4, n2, b2⟩ := o2.shape hne
      have n1' := n1.later hb2 k4
      have hB2 := hb1.trans (hb2.mono hb1.size)
      have s2 := hb2.size
      have s1 := hb1.size
      clear o2 n1 hT1
      go_wp2_with fail
      refine (eqNodeS_at g2 g1 c2 c1 T w2 (by omega) ⟨l1, l2⟩ ⟨k1, k2⟩ n2 n1' l4 (by omega)).mono ?_
      rintro e w3 ⟨rfl, hb3⟩
      have s3 := hb3.size
      have n1a := n1'.later hb3 (by omega)
      have b3 := b2.later hb3 l4
      have hB3 := hB2.trans (hb3.mono hB2.size)
      clear n1' n2 b2 hb1 hb2 hB2
      go_wp2_with fail
      refine (markNodeS_at g2 c2 T.length w3 (by omega) ⟨l1, l2⟩ (by omega) b3).mono ?_
      rintro e w4 ⟨rfl, hg4, m4, -⟩
      have s4 := hg4.size
      have n1b := n1a.grown hg4 (by omega) (by omega)
      have hB4 := hB3.grown hg4 hB3.size (by intro k hk; cases hk; omega)
      clear n1a b3 hg4 hb3 hB3
      go_wp2_with fail
      refine (heldNodeS_at g2 c2 T.length w4 (by omega) ⟨l1, l2⟩ (by omega) m4).mono ?_
      rintro e w5 ⟨rfl, hb5⟩
      have s5 := hb5.size
      have n1c := n1b.later hb5 (by omega)
      have m5 := m4.later hb5 (by omega)
      have hB5 := hB4.trans (hb5.mono hB4.size)
      have hT5 := hT.below hB5
      clear n1b m4 hb5 hB4
      go_wp2_with fail
      refine (H2.out _ hT5).mono ?_
      rintro e w6 ⟨v6, rfl, o6, hb6⟩
      obtain ⟨g6, c6, rfl, q1, q2, q3, q4, n6, -⟩ := o6.shape hne
      have s6 := hb6.size
      have n1d := n1c.later hb6 (by omega)
      have m6 := m5.later hb6 (by omega)
      have hB6 := hB5.trans (hb6.mono hB5.size)
      clear o6 n1c m5 hb6 hB5 hT5
      go_wp2_with fail
      refine (eqNodeS_at g6 g1 c6 c1 T w6 (by omega) ⟨q1, q2⟩ ⟨k1, k2⟩ n6 n1d q4 (by omega)).mono ?_
      rintro e w7 ⟨rfl, hb7⟩
      have s7 := hb7.size
      have m7 := m6.later hb7 (by omega)
      have hB7 := hB6.trans (hb7.mono hB6.size)
      clear n6 n1d m6 hb7 hB6
      go_wp2_with fail
      refine (heldNodeS_at g2 c2 T.length w7 (by omega) ⟨l1, l2⟩ (by omega) m7).mono ?_
      rintro e w8 ⟨rfl, hb8⟩
      have hB8 := hB7.trans (hb8.mono hB7.size)
      clear m7 hb8 hB7
      go_wp2
      go_ret
      exact ⟨rfl, hB8⟩
  · go_enter Tryd.func8, Tryd.ntmps8
    go_wp2
    go_ret
    exact ⟨rfl, Below.refl _ _⟩
end Go.Proofs.YtbmnciejaknonasDoor
