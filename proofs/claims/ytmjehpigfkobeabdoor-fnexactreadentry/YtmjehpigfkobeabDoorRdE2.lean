/- The model's ReadEntry. -/
import Derived.Test.YtmjehpigfkobeabDoorRdE1
set_option linter.unusedVariables false
namespace Go.Proofs.YtmjehpigfkobeabDoor
open Go.RowKit Go.Shelf
open Doc1

attribute [local go_sem] Oper.semAt_some

theorem cutS32 (X : ByteArray) (w : World) (hs : X.size ≤ 1048576) :
    Calls Tryd.prog 21 #[.string X, .int .u8 32] w fun e w' => e = .returned (.tuple #[.string (lB (ctL 32 X.data.toList).1), .string (lB (ctL 32 X.data.toList).2.1), .bool (ctL 32 X.data.toList).2.2]) ∧ Below w.heap.size w w' := cutS_any X 32 w hs
/-- What stays while the model reads an entry. -/
structure FS (w0 : World) (W : World) : Prop where
  bel : Below w0.heap.size w0 W
  box : W.heap[w0.heap.size]? = some (.cells #[.int .i64 0, .int .i64 0, .slice none 0 0] 24 (0, 0))
  tab : Tab W
theorem FS.later {w0 W W1 : World} (h : FS w0 W) (hb : Below W.heap.size W W1) : FS w0 W1 :=
  ⟨h.bel.trans (hb.mono h.bel.size), (hb.block _ (Array.getElem?_eq_some_iff.1 h.box).1).trans h.box, h.tab.below hb⟩

set_option maxRecDepth 100000 in
set_option maxHeartbeats 16000000 in
theorem readEntryS (s : ByteArray) (w : World) (hs : s.size ≤ 1048576) (hT : Tab w) :
    Calls Tryd.prog 6 #[.string s] w (EnPost s w) := by
  unfold EnPost
  have hes : FS w (w.alloc (.cells #[.int .i64 0, .int .i64 0, .slice none 0 0] 24)) := ⟨(Below.refl _ _).alloc (Nat.le_refl _) _, heap_alloc_new w _, hT.below ((Below.refl _ _).alloc (Nat.le_refl _) _)⟩
  have H0 := hide hes
  have UN := hide (fun W => bodyS s W hs)
  have hhs : (bdO s).size ≤ 1048576 := by
    unfold bdO hdO
    split
    · rw [ByteArray.size_extract]; omega
    · exact Nat.zero_le _
  clear hT hes
  suffices HH : Calls Tryd.prog 6 #[.string s] w fun e w' => (whO s = true ∧ enOk (bdO s).data.toList → ∃ v, e = .returned (.tuple #[.agg #[.int .i64 (enT (bdO s).data.toList).cl, .int .i64 (enT (bdO s).data.toList).sq, v], .bool true]) ∧ POwn w' w.heap.size v (enT (bdO s).data.toList).op) ∧
      (¬ (whO s = true ∧ enOk (bdO s).data.toList) → e = .returned (.tuple #[enZ, .bool false])) ∧ Below w.heap.size w w' by
    refine HH.mono fun e w' h => ?_
    by_cases hw : whO s = true
    · have : bdO s = hdO s := by unfold bdO; rw [if_pos hw]
      rw [this] at h
      exact h
    · exact ⟨fun c => absurd c.1 hw, fun _ => h.2.1 (fun c => hw c.1), h.2.2⟩
  obtain ⟨X, hX⟩ : ∃ X, bdO s = X := ⟨_, rfl⟩
  rw [hX] at hhs ⊢
  have CU1 := hide (fun W => cutS32 X W hhs)
  have l1 := ctL_len 32 X.data.toList
  rw [← szB] at l1
  unfold enOk enT
  simp only
  obtain ⟨R1, hR1⟩ : ∃ R1, lB (ctL 32 X.data.toList).2.1 = R1 := ⟨_, rfl⟩
  have hR1l : (ctL 32 X.data.toList).2.1 = R1.data.toList := by rw [← hR1]; rfl
  have hR1s : R1.size ≤ 1048576 := by rw [szB, ← hR1l]; omega
  have l2 := ctL_len 32 R1.data.toList
  rw [← szB] at l2
  rw [hR1l]
  simp only [hR1] at CU1
  have CU2 := hide (fun W => cutS32 R1 W hR1s)
  obtain ⟨A1, hA1⟩ : ∃ A1, lB (ctL 32 X.data.toList).1 = A1 := ⟨_, rfl⟩
  have hA1l : (ctL 32 X.data.toList).1 = A1.data.toList := by rw [← hA1]; rfl
  have hA1s : A1.size ≤ 1048576 := by rw [szB, ← hA1l]; omega
  obtain ⟨A2, hA2⟩ : ∃ A2, lB (ctL 32 R1.data.toList).1 = A2 := ⟨_, rfl⟩
  have hA2l : (ctL 32 R1.data.toList).1 = A2.data.toList := by rw [← hA2]; rfl
  have hA2s : A2.size ≤ 1048576 := by rw [szB, ← hA2l]; omega
  obtain ⟨R2, hR2⟩ : ∃ R2, lB (ctL 32 R1.data.toList).2.1 = R2 := ⟨_, rfl⟩
  have hR2l : (ctL 32 R1.data.toList).2.1 = R2.data.toList := by rw [← hR2]; rfl
  have hR2s : R2.size ≤ 1048576 := by rw [szB, ← hR2l]; omega
  have RN1 := fun W => numberS_any A1 W hA1s
  have RN2 := fun W => numberS_any A2 W hA2s
  have RO := fun W (h : Tab W) => l18Read_any R2 W hR2s h
  have hsz := rdO_sz R2.data.toList
  rw [hA1l, hA2l, hR2l]
  simp only [hA1] at CU1
  simp only [hA2, hR2] at CU2
  have tw0 := two_one X.data.toList
  rw [hR1l] at tw0
  obtain ⟨b1, hb1⟩ : ∃ b1, (ctL 32 X.data.toList).2.2 = b1 := ⟨_, rfl⟩
  obtain ⟨b2, hb2⟩ : ∃ b2, (ctL 32 R1.data.toList).2.2 = b2 := ⟨_, rfl⟩
  simp only [hb1] at CU1
  rw [hb1] at tw0
  rw [hb2] at tw0 ⊢
  simp only [hb2] at CU2
  obtain ⟨W, hW⟩ : ∃ W, whO s = W := ⟨_, rfl⟩
  rw [hW]
  simp only [hX, hW] at UN
  obtain ⟨NC, hNC⟩ : ∃ NC, numS A1.data.toList = NC := ⟨_, rfl⟩
  obtain ⟨NS, hNS⟩ : ∃ NS, numS A2.data.toList = NS := ⟨_, rfl⟩
  obtain ⟨o, hoo⟩ : ∃ o, (rdO R2.data.toList).1 = o := ⟨_, rfl⟩
  obtain ⟨ko, hko⟩ : ∃ ko, (rdO R2.data.toList).2 = ko := ⟨_, rfl⟩
  rw [hNC, hNS, hoo, hko]
  simp only [hNC] at RN1
  simp only [hNS] at RN2
  simp only [hoo, hko] at RO
  rw [hoo] at hsz
  replace RN1 := hide RN1
  replace RN2 := hide RN2
  replace RO := hide RO
  have IEN := hide (fun (aw : Option Addr) (g cp : Nat) (W' : World) (c q : Int) (h : Pin W' aw g cp o) (hT : Tab W') => l15Entry_any c q h)
  have TW := tw0
  clear hX l1 l2 hR1 hR1l hA1 hA1l hA1s hA2 hA2l hA2s hR2 hR2l hR2s hR1s hb1 hb2 hW hNC hNS hoo hko hhs

  cases W with
  | false =>
    have HNO : Hid (¬ (false = true ∧ b2 = true ∧ ko = true ∧ enG ⟨NC, NS, o⟩)) := hide (by rintro ⟨c, -⟩; cases c)
    go_enter Tryd.func6, Tryd.ntmps6
    go_wp2_with fail
    refine (UN.out _).mono ?_
    rintro e w1 ⟨rfl, hb⟩
    have H1 := hide (H0.out.later hb)
    clear hb
    go_wp2_with fail
    refine (CU1.out _).mono ?_
    rintro e w2 ⟨rfl, hb⟩
    have H2 := hide (H1.out.later hb)
    clear hb
    go_wp2_with fail
    refine (CU2.out _).mono ?_
    rintro e w3 ⟨rfl, hb⟩
    have H3 := hide (H2.out.later hb)
    clear hb
    go_wp2_with fail
    refine (RO.out _ H3.out.tab).mono ?_
    rintro e w6 ⟨v, rfl, ho, hb⟩
    have H6 := hide (H3.out.later hb)
    obtain ⟨aw, g, cp, rfl, hpin⟩ := own_pin ho H6.out.tab hsz.1 (by have := hsz.2; omega)
    have HO := hide (own_mono ho (show w.heap.size + 1 ≤ w3.heap.size from (Array.getElem?_eq_some_iff.1 H3.out.box).1))
    have HPI := hide hpin
    have hlt6 := (Array.getElem?_eq_some_iff.1 H6.out.box).1
    have c6 := (Below.heap_alloc w6 (.cells #[.int .i64 NC, .int .i64 NS, .slice aw o.length cp] 24) w.heap.size hlt6).trans H6.out.box
    obtain ⟨q0, q1, q2, r0, r1, r2⟩ := rbox3 c6
    have C6 := hide c6
    clear hb ho hpin c6 hlt6
    go_wp2_with fail
    refine (RN1.out w6).mono ?_
    rintro e w4 ⟨rfl, hw⟩
    replace hw := hw.symm
    subst hw
    go_wp2_with fail
    refine (RN2.out w6).mono ?_
    rintro e w5 ⟨rfl, hw⟩
    replace hw := hw.symm
    subst hw
    go_wp2
    all_goals
      refine bodyPost_ret (results_cell_tmp rfl _ _ w.heap.size 24 _ (0, 0) _ (.bool false) rfl rfl (rput3 C6.out _ _ _) Tryd.underlying24 rfl sizeEntryI) rfl ?_
      exact ⟨fun c => absurd c HNO.out, fun _ => rfl, rbelow3 (H6.out.bel.alloc H6.out.bel.size _) (Nat.le_refl _) _ _ _⟩
  | true =>
    cases b2 with
    | false =>
      have HNO : Hid (¬ (true = true ∧ false = true ∧ ko = true ∧ enG ⟨NC, NS, o⟩)) := hide (by rintro ⟨-, c, -⟩; cases c)
      go_enter Tryd.func6, Tryd.ntmps6
      go_wp2_with fail
      refine (UN.out _).mono ?_
      rintro e w1 ⟨rfl, hb⟩
      have H1 := hide (H0.out.later hb)
      clear hb
      go_wp2_with fail
      refine (CU1.out _).mono ?_
      rintro e w2 ⟨rfl, hb⟩
      have H2 := hide (H1.out.later hb)
      clear hb
      go_wp2_with fail
      refine (CU2.out _).mono ?_
      rintro e w3 ⟨rfl, hb⟩
      have H3 := hide (H2.out.later hb)
      clear hb
      go_wp2_with fail
      refine (RO.out _ H3.out.tab).mono ?_
      rintro e w6 ⟨v, rfl, ho, hb⟩
      have H6 := hide (H3.out.later hb)
      obtain ⟨aw, g, cp, rfl, hpin⟩ := own_pin ho H6.out.tab hsz.1 (by have := hsz.2; omega)
      have HO := hide (own_mono ho (show w.heap.size + 1 ≤ w3.heap.size from (Array.getElem?_eq_some_iff.1 H3.out.box).1))
      have HPI := hide hpin
      have hlt6 := (Array.getElem?_eq_some_iff.1 H6.out.box).1
      have c6 := (Below.heap_alloc w6 (.cells #[.int .i64 NC, .int .i64 NS, .slice aw o.length cp] 24) w.heap.size hlt6).trans H6.out.box
      obtain ⟨q0, q1, q2, r0, r1, r2⟩ := rbox3 c6
      have C6 := hide c6
      clear hb ho hpin c6 hlt6
      go_wp2_with fail
      refine (RN1.out w6).mono ?_
      rintro e w4 ⟨rfl, hw⟩
      replace hw := hw.symm
      subst hw
      go_wp2_with fail
      refine (RN2.out w6).mono ?_
      rintro e w5 ⟨rfl, hw⟩
      replace hw := hw.symm
      subst hw
      go_wp2
      all_goals
        refine bodyPost_ret (results_cell_tmp rfl _ _ w.heap.size 24 _ (0, 0) _ (.bool false) rfl rfl (rput3 C6.out _ _ _) Tryd.underlying24 rfl sizeEntryI) rfl ?_
        exact ⟨fun c => absurd c HNO.out, fun _ => rfl, rbelow3 (H6.out.bel.alloc H6.out.bel.size _) (Nat.le_refl _) _ _ _⟩
    | true =>
      obtain rfl := TW rfl
      cases ko with
      | false =>
        have HNO : Hid (¬ (true = true ∧ true = true ∧ false = true ∧ enG ⟨NC, NS, o⟩)) := hide (by rintro ⟨-, -, c, -⟩; cases c)
        go_enter Tryd.func6, Tryd.ntmps6
        go_wp2_with fail
        refine (UN.out _).mono ?_
        rintro e w1 ⟨rfl, hb⟩
        have H1 := hide (H0.out.later hb)
        clear hb
        go_wp2_with fail
        refine (CU1.out _).mono ?_
        rintro e w2 ⟨rfl, hb⟩
        have H2 := hide (H1.out.later hb)
        clear hb
        go_wp2_with fail
        refine (CU2.out _).mono ?_
        rintro e w3 ⟨rfl, hb⟩
        have H3 := hide (H2.out.later hb)
        clear hb
        go_wp2_with fail
        refine (RO.out _ H3.out.tab).mono ?_
        rintro e w6 ⟨v, rfl, ho, hb⟩
        have H6 := hide (H3.out.later hb)
        obtain ⟨aw, g, cp, rfl, hpin⟩ := own_pin ho H6.out.tab hsz.1 (by have := hsz.2; omega)
        have HO := hide (own_mono ho (show w.heap.size + 1 ≤ w3.heap.size from (Array.getElem?_eq_some_iff.1 H3.out.box).1))
        have HPI := hide hpin
        have hlt6 := (Array.getElem?_eq_some_iff.1 H6.out.box).1
        have c6 := (Below.heap_alloc w6 (.cells #[.int .i64 NC, .int .i64 NS, .slice aw o.length cp] 24) w.heap.size hlt6).trans H6.out.box
        obtain ⟨q0, q1, q2, r0, r1, r2⟩ := rbox3 c6
        have C6 := hide c6
        clear hb ho hpin c6 hlt6
        go_wp2_with fail
        refine (RN1.out w6).mono ?_
        rintro e w4 ⟨rfl, hw⟩
        replace hw := hw.symm
        subst hw
        go_wp2_with fail
        refine (RN2.out w6).mono ?_
        rintro e w5 ⟨rfl, hw⟩
        replace hw := hw.symm
        subst hw
        go_wp2
        all_goals
          refine bodyPost_ret (results_cell_tmp rfl _ _ w.heap.size 24 _ (0, 0) _ (.bool false) rfl rfl (rput3 C6.out _ _ _) Tryd.underlying24 rfl sizeEntryI) rfl ?_
          exact ⟨fun c => absurd c HNO.out, fun _ => rfl, rbelow3 (H6.out.bel.alloc H6.out.bel.size _) (Nat.le_refl _) _ _ _⟩
      | true =>
        have IE1 := fun aw g cp W' h hT => IEN.out aw g cp W' NC NS h hT
        by_cases he : enG ⟨NC, NS, o⟩
        · simp only [decide_eq_true he] at IE1
          have IE2 := hide IE1
          clear IE1
          go_enter Tryd.func6, Tryd.ntmps6
          go_wp2_with fail
          refine (UN.out _).mono ?_
          rintro e w1 ⟨rfl, hb⟩
          have H1 := hide (H0.out.later hb)
          clear hb
          go_wp2_with fail
          refine (CU1.out _).mono ?_
          rintro e w2 ⟨rfl, hb⟩
          have H2 := hide (H1.out.later hb)
          clear hb
          go_wp2_with fail
          refine (CU2.out _).mono ?_
          rintro e w3 ⟨rfl, hb⟩
          have H3 := hide (H2.out.later hb)
          clear hb
          go_wp2_with fail
          refine (RO.out _ H3.out.tab).mono ?_
          rintro e w6 ⟨v, rfl, ho, hb⟩
          have H6 := hide (H3.out.later hb)
          obtain ⟨aw, g, cp, rfl, hpin⟩ := own_pin ho H6.out.tab hsz.1 (by have := hsz.2; omega)
          have HO := hide (own_mono ho (show w.heap.size + 1 ≤ w3.heap.size from (Array.getElem?_eq_some_iff.1 H3.out.box).1))
          have HPI := hide hpin
          have hlt6 := (Array.getElem?_eq_some_iff.1 H6.out.box).1
          have c6 := (Below.heap_alloc w6 (.cells #[.int .i64 NC, .int .i64 NS, .slice aw o.length cp] 24) w.heap.size hlt6).trans H6.out.box
          obtain ⟨q0, q1, q2, r0, r1, r2⟩ := rbox3 c6
          have C6 := hide c6
          clear hb ho hpin c6 hlt6
          go_wp2_with fail
          refine (RN1.out w6).mono ?_
          rintro e w4 ⟨rfl, hw⟩
          replace hw := hw.symm
          subst hw
          go_wp2_with fail
          refine (RN2.out w6).mono ?_
          rintro e w5 ⟨rfl, hw⟩
          replace hw := hw.symm
          subst hw
          go_wp2_with fail
          refine (IE2.out _ _ _ _ (HPI.out.later ((Below.refl _ _).alloc (Nat.le_refl _) _)) (H6.out.later ((Below.refl _ _).alloc (Nat.le_refl _) _)).tab).mono ?_
          rintro e w7 ⟨rfl, hb⟩
          have H7 := hide ((H6.out.later ((Below.refl _ _).alloc (Nat.le_refl _) _)).later hb)
          have hx := (hb.block w6.heap.size (by simp)).trans (heap_alloc_new w6 _)
          have HO7 := hide (own_below (own_below HO.out ((Below.refl _ w6).alloc (Nat.le_refl _) _)) hb)
          obtain ⟨y0, y1, y2, z0, z1, z2⟩ := rbox3 hx
          have c7 := H7.out.box
          obtain ⟨p0, p1, p2, s0, s1, s2⟩ := rbox3 c7
          have C7 := hide c7
          clear hb hx c7 q0 q1 q2 r0 r1 r2
          go_wp2
          refine bodyPost_ret (results_cell_tmp rfl _ _ w.heap.size 24 _ (0, 0) _ (.bool true) rfl rfl (rput3 C7.out _ _ _) Tryd.underlying24 rfl sizeEntryI) rfl ?_
          refine ⟨fun _ => ⟨_, rfl, ?_⟩, fun c => absurd ⟨by trivial, by trivial, by trivial, he⟩ c, rbelow3 H7.out.bel (Nat.le_refl _) _ _ _⟩
          exact own_mono (own_aside (own_aside (own_aside HO7.out (Nat.lt_succ_self _) 0 _) (Nat.lt_succ_self _) 1 _) (Nat.lt_succ_self _) 2 _) (Nat.le_succ _)
        · simp only [decide_eq_false he] at IE1
          have IE2 := hide IE1
          clear IE1
          go_enter Tryd.func6, Tryd.ntmps6
          go_wp2_with fail
          refine (UN.out _).mono ?_
          rintro e w1 ⟨rfl, hb⟩
          have H1 := hide (H0.out.later hb)
          clear hb
          go_wp2_with fail
          refine (CU1.out _).mono ?_
          rintro e w2 ⟨rfl, hb⟩
          have H2 := hide (H1.out.later hb)
          clear hb
          go_wp2_with fail
          refine (CU2.out _).mono ?_
          rintro e w3 ⟨rfl, hb⟩
          have H3 := hide (H2.out.later hb)
          clear hb
          go_wp2_with fail
          refine (RO.out _ H3.out.tab).mono ?_
          rintro e w6 ⟨v, rfl, ho, hb⟩
          have H6 := hide (H3.out.later hb)
          obtain ⟨aw, g, cp, rfl, hpin⟩ := own_pin ho H6.out.tab hsz.1 (by have := hsz.2; omega)
          have HO := hide (own_mono ho (show w.heap.size + 1 ≤ w3.heap.size from (Array.getElem?_eq_some_iff.1 H3.out.box).1))
          have HPI := hide hpin
          have hlt6 := (Array.getElem?_eq_some_iff.1 H6.out.box).1
          have c6 := (Below.heap_alloc w6 (.cells #[.int .i64 NC, .int .i64 NS, .slice aw o.length cp] 24) w.heap.size hlt6).trans H6.out.box
          obtain ⟨q0, q1, q2, r0, r1, r2⟩ := rbox3 c6
          have C6 := hide c6
          clear hb ho hpin c6 hlt6
          go_wp2_with fail
          refine (RN1.out w6).mono ?_
          rintro e w4 ⟨rfl, hw⟩
          replace hw := hw.symm
          subst hw
          go_wp2_with fail
          refine (RN2.out w6).mono ?_
          rintro e w5 ⟨rfl, hw⟩
          replace hw := hw.symm
          subst hw
          go_wp2_with fail
          refine (IE2.out _ _ _ _ (HPI.out.later ((Below.refl _ _).alloc (Nat.le_refl _) _)) (H6.out.later ((Below.refl _ _).alloc (Nat.le_refl _) _)).tab).mono ?_
          rintro e w7 ⟨rfl, hb⟩
          have H7 := hide ((H6.out.later ((Below.refl _ _).alloc (Nat.le_refl _) _)).later hb)
          have hx := (hb.block w6.heap.size (by simp)).trans (heap_alloc_new w6 _)
          have HO7 := hide (own_below (own_below HO.out ((Below.refl _ w6).alloc (Nat.le_refl _) _)) hb)
          obtain ⟨y0, y1, y2, z0, z1, z2⟩ := rbox3 hx
          have c7 := H7.out.box
          obtain ⟨p0, p1, p2, s0, s1, s2⟩ := rbox3 c7
          have C7 := hide c7
          clear hb hx c7 q0 q1 q2 r0 r1 r2
          go_wp2
          refine bodyPost_ret (results_cell_tmp rfl _ _ w.heap.size 24 _ (0, 0) _ (.bool false) rfl rfl (rput3 C7.out _ _ _) Tryd.underlying24 rfl sizeEntryI) rfl ?_
          exact ⟨fun c => absurd c.2.2.2 he, fun _ => rfl, rbelow3 H7.out.bel (Nat.le_refl _) _ _ _⟩

end Go.Proofs.YtmjehpigfkobeabDoor
