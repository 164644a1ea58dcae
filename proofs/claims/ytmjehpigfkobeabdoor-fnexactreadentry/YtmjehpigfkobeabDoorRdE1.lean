/- An entry that is read: mathematics; the program's ReadEntry. -/
import Derived.Test.YtmjehpigfkobeabDoorUns2
import Derived.Test.YtmjehpigfkobeabDoorRdT
import Derived.Test.YtmjehpigfkobeabDoorEnOne
set_option linter.unusedVariables false
namespace Go.Proofs.YtmjehpigfkobeabDoor.Doc1
/-- The entry that a line without its sum is; and whether it is one. -/
def enT (h : List UInt8) : En := ⟨numS (ctL 32 h).1, numS (ctL 32 (ctL 32 h).2.1).1, (rdO (ctL 32 (ctL 32 h).2.1).2.1).1⟩
def enOk (h : List UInt8) : Prop := (ctL 32 (ctL 32 h).2.1).2.2 = true ∧ (rdO (ctL 32 (ctL 32 h).2.1).2.1).2 = true ∧ enG (enT h)
instance (h : List UInt8) : Decidable (enOk h) := by unfold enOk; infer_instance
theorem two_one (h : List UInt8) : (ctL 32 (ctL 32 h).2.1).2.2 = true → (ctL 32 h).2.2 = true := by
  intro h2
  rcases ctL_is (b := 32) h with ⟨_, e⟩ | ⟨a, r, _, _, e⟩
  · rw [e] at h2
    rw [e]
    exact h2
  · rw [e]
theorem rdO_good (s : List UInt8) : goodO (rdO s).1 = true ∨ (rdO s).1 = [] := by
  unfold rdO
  split
  · split
    · split
      · rename_i hg; exact .inl hg
      · exact .inr rfl
    · exact .inr rfl
  · exact .inr rfl
theorem ctL_len (b : UInt8) (l : List UInt8) : (ctL b l).1.length ≤ l.length ∧ (ctL b l).2.1.length ≤ l.length := by
  rcases ctL_is (b := b) l with ⟨_, e⟩ | ⟨a, r, he, _, e⟩
  · rw [e]; exact ⟨Nat.le_refl _, Nat.zero_le _⟩
  · rw [e, he, List.length_append, List.length_cons]
    exact ⟨by show a.length ≤ _; omega, by show r.length ≤ _; omega⟩
end Go.Proofs.YtmjehpigfkobeabDoor.Doc1

namespace Go.Proofs.YtmjehpigfkobeabDoor
open Go.RowKit Go.Shelf
open Doc1

attribute [local go_sem] Oper.semAt_some

theorem rdO_sz (s : List UInt8) : SzO (rdO s).1 ∧ (rdO s).1.length ≤ 60 := by
  rcases rdO_good s with h | h
  · refine ⟨fun i hi => ?_, goodO_few h⟩
    rcases pk_cases (goodO_pk h _ (List.getElem_mem hi)) with c | c | c
    · rw [szB, szB, c.2.1, c.2.2.1]; exact ⟨Nat.zero_le _, Nat.zero_le _⟩
    · have := good_len c.2.2.2.2
      rw [szB, szB, c.2.2.1]; exact ⟨by omega, Nat.zero_le _⟩
    · have := good_len c.2.2.2.2
      rw [szB, szB, c.2.2.1]; exact ⟨Nat.zero_le _, by omega⟩
  · rw [h]; exact ⟨fun i hi => by simp at hi, Nat.zero_le _⟩
/-- The greatest length that is searched byte by byte is laid. -/
def TabC (w : World) : Prop := ∃ m, w.cell? ⟨2, 0, none⟩ = some (.int .i64 m)
theorem TabC.below {w w' : World} (h : TabC w) (hb : Below w.heap.size w w') : TabC w' := by
  obtain ⟨m, hm⟩ := h
  exact ⟨m, (hb.cell (World.block_lt_of_cell? w _ hm)).trans hm⟩
theorem cutI (X : ByteArray) (w : World) (hs : X.size ≤ 1048576) (hC : TabC w) :
    Calls Tryd.prog 26 #[.string X, .string ⟨#[32]⟩] w fun e w' => e = .returned (.tuple #[.string (lB (ctL 32 X.data.toList).1), .string (lB (ctL 32 X.data.toList).2.1), .bool (ctL 32 X.data.toList).2.2]) ∧ Below w.heap.size w w' := by
  obtain ⟨m, hm⟩ := hC
  refine (Tryd.strings_Cut X ⟨#[32]⟩ m w (by omega) hm).mono ?_
  rintro e w' ⟨rfl, n, rfl⟩
  refine ⟨?_, ⟨rfl, rfl, rfl, Nat.le_refl _, fun _ _ => rfl⟩⟩
  rw [show ((⟨#[32]⟩ : ByteArray).data.toList) = [32] from rfl, cut_ct]
  rfl
theorem sizeEntryI : (Tryd.prog.info? 24).map (·.size) = some 3 := by kernel_rfl
def enZ : Value := .agg #[.int .i64 0, .int .i64 0, .slice none 0 0]
/-- What stays while an entry is read. -/
structure ES (w0 : World) (W : World) : Prop where
  bel : Below w0.heap.size w0 W
  box : W.heap[w0.heap.size]? = some (.cells #[.int .i64 0, .int .i64 0, .slice none 0 0] 24 (0, 0))
  tab : TabN W
  tbc : TabC W
theorem ES.later {w0 W W1 : World} (h : ES w0 W) (hb : Below W.heap.size W W1) : ES w0 W1 :=
  ⟨h.bel.trans (hb.mono h.bel.size), (hb.block _ (Array.getElem?_eq_some_iff.1 h.box).1).trans h.box, h.tab.below hb, h.tbc.below hb⟩
def EnPost (s : ByteArray) (w : World) (e : Ending) (w' : World) : Prop :=
  (whO s = true ∧ enOk (hdO s).data.toList → ∃ v, e = .returned (.tuple #[.agg #[.int .i64 (enT (hdO s).data.toList).cl, .int .i64 (enT (hdO s).data.toList).sq, v], .bool true]) ∧ POwn w' w.heap.size v (enT (hdO s).data.toList).op) ∧
  (¬ (whO s = true ∧ enOk (hdO s).data.toList) → e = .returned (.tuple #[enZ, .bool false])) ∧ Below w.heap.size w w'

set_option maxRecDepth 100000 in
set_option maxHeartbeats 16000000 in
theorem readEntryI (s : ByteArray) (w : World) (hs : s.size ≤ 1048576) (hT : TabN w) (hC : TabC w) :
    Calls Tryd.prog 7 #[.string s] w (EnPost s w) := by
  unfold EnPost
  have hes : ES w (w.alloc (.cells #[.int .i64 0, .int .i64 0, .slice none 0 0] 24)) := ⟨(Below.refl _ _).alloc (Nat.le_refl _) _, heap_alloc_new w _, hT.below ((Below.refl _ _).alloc (Nat.le_refl _) _), hC.below ((Below.refl _ _).alloc (Nat.le_refl _) _)⟩
  have H0 := hide hes
  have UN := hide (fun W (h : TabP W) => unsealI s W hs h)
  have hhs : (hdO s).size ≤ 1048576 := by unfold hdO; rw [ByteArray.size_extract]; omega
  clear hT hC hes
  -- the parts of the line
  obtain ⟨X, hX⟩ : ∃ X, hdO s = X := ⟨_, rfl⟩
  rw [hX] at hhs ⊢
  have CU1 := hide (fun W (h : TabC W) => cutI X W hhs h)
  have l1 := ctL_len 32 X.data.toList
  rw [← szB] at l1
  unfold enOk enT
  simp only
  obtain ⟨R1, hR1⟩ : ∃ R1, lB (ctL 32 X.data.toList).2.1 = R1 := ⟨_, rfl⟩
  have hR1l : (ctL 32 X.data.toList).2.1 = R1.data.toList := by rw [← hR1]; rfl
  have hR1s : R1.size ≤ 1048576 := by rw [szB, ← hR1l]; omega
  have l2 := ctL_len 32 R1.data.toList
  rw [← szB] at l2
  rw [hR1l]
  simp only [hR1] at CU1
  have CU2 := hide (fun W (h : TabC W) => cutI R1 W hR1s h)
  obtain ⟨A1, hA1⟩ : ∃ A1, lB (ctL 32 X.data.toList).1 = A1 := ⟨_, rfl⟩
  have hA1l : (ctL 32 X.data.toList).1 = A1.data.toList := by rw [← hA1]; rfl
  have hA1s : A1.size ≤ 1048576 := by rw [szB, ← hA1l]; omega
  obtain ⟨A2, hA2⟩ : ∃ A2, lB (ctL 32 R1.data.toList).1 = A2 := ⟨_, rfl⟩
  have hA2l : (ctL 32 R1.data.toList).1 = A2.data.toList := by rw [← hA2]; rfl
  have hA2s : A2.size ≤ 1048576 := by rw [szB, ← hA2l]; omega
  obtain ⟨R2, hR2⟩ : ∃ R2, lB (ctL 32 R1.data.toList).2.1 = R2 := ⟨_, rfl⟩
  have hR2l : (ctL 32 R1.data.toList).2.1 = R2.data.toList := by rw [← hR2]; rfl
  have hR2s : R2.size ≤ 1048576 := by rw [szB, ← hR2l]; omega
  have RN1 := fun W => readNumber_any A1 9 W hA1s (by decide)
  have RN2 := fun W => readNumber_any A2 1000 W hA2s (by decide)
  have RO := fun W (h : Tab W) => readOpI R2 W hR2s h
  have hsz := rdO_sz R2.data.toList
  have nb1 := num_both (most := 9) (by decide) A1.data.toList
  have nb2 := num_both (most := 1000) (by decide) A2.data.toList
  rw [hA1l, hA2l, hR2l]
  simp only [hA1] at CU1
  simp only [hA2, hR2] at CU2
  obtain ⟨b1, hb1⟩ : ∃ b1, (ctL 32 X.data.toList).2.2 = b1 := ⟨_, rfl⟩
  obtain ⟨b2, hb2⟩ : ∃ b2, (ctL 32 R1.data.toList).2.2 = b2 := ⟨_, rfl⟩
  simp only [hb1] at CU1
  rw [hb2]
  simp only [hb2] at CU2
  obtain ⟨W, hW⟩ : ∃ W, whO s = W := ⟨_, rfl⟩
  rw [hW]
  simp only [hX, hW] at UN
  obtain ⟨NC, hNC⟩ : ∃ NC, numS A1.data.toList = NC := ⟨_, rfl⟩
  obtain ⟨NS, hNS⟩ : ∃ NS, numS A2.data.toList = NS := ⟨_, rfl⟩
  obtain ⟨o, hoo⟩ : ∃ o, (rdO R2.data.toList).1 = o := ⟨_, rfl⟩
  obtain ⟨ko, hko⟩ : ∃ ko, (rdO R2.data.toList).2 = ko := ⟨_, rfl⟩
  obtain ⟨n1, hn1⟩ : ∃ n, (numI 9 A1.data.toList).1 = n := ⟨_, rfl⟩
  obtain ⟨k1, hk1⟩ : ∃ k, (numI 9 A1.data.toList).2 = k := ⟨_, rfl⟩
  obtain ⟨n2, hn2⟩ : ∃ n, (numI 1000 A2.data.toList).1 = n := ⟨_, rfl⟩
  obtain ⟨k2, hk2⟩ : ∃ k, (numI 1000 A2.data.toList).2 = k := ⟨_, rfl⟩
  rw [hNC, hNS, hoo, hko]
  simp only [hNC, hn1, hk1] at nb1 RN1
  simp only [hNS, hn2, hk2] at nb2 RN2
  simp only [hoo, hko] at RO
  rw [hoo] at hsz
  replace RN1 := hide RN1
  replace RN2 := hide RN2
  replace RO := hide RO
  have IEN := hide (fun (aw : Option Addr) (g cp : Nat) (W' : World) (c q : Int) (h : Pin W' aw g cp o) (hT : Tab W') => isEntry_any c q h hT)
  have NB1 := hide nb1
  have NB2 := hide nb2
  clear nb1 nb2
  clear hX l1 l2 hR1 hR1l hA1 hA1l hA1s hA2 hA2l hA2s hR2 hR2l hR2s hR1s hb1 hb2 hW hNC hNS hoo hko hn1 hk1 hn2 hk2 hhs
  cases W with
  | false =>
    have HNO : Hid (¬ (false = true ∧ b2 = true ∧ ko = true ∧ enG ⟨NC, NS, o⟩)) := hide (by rintro ⟨c, -⟩; cases c)
    go_enter Tryd.func7, Tryd.ntmps7
    go_wp2_with fail
    refine (UN.out _ H0.out.tab.2).mono ?_
    rintro e w1 ⟨rfl, hb⟩
    have H1 := hide (H0.out.later hb)
    clear hb
    go_wp2_with fail
    refine (CU1.out _ H1.out.tbc).mono ?_
    rintro e w2 ⟨rfl, hb⟩
    have H2 := hide (H1.out.later hb)
    clear hb
    go_wp2_with fail
    refine (CU2.out _ H2.out.tbc).mono ?_
    rintro e w3 ⟨rfl, hb⟩
    have H3 := hide (H2.out.later hb)
    clear hb
    go_wp2_with fail
    refine (RN1.out w3).mono ?_
    rintro e w4 ⟨rfl, hb⟩
    have H4 := hide (H3.out.later hb)
    clear hb
    go_wp2_with fail
    refine (RN2.out w4).mono ?_
    rintro e w5 ⟨rfl, hb⟩
    have H5 := hide (H4.out.later hb)
    clear hb
    go_wp2_with fail
    refine (RO.out _ H5.out.tab.1).mono ?_
    rintro e w6 ⟨v, rfl, ho, hb⟩
    have H6 := hide (H5.out.later hb)
    obtain ⟨aw, g, cp, rfl, hpin⟩ := own_pin ho H6.out.tab.1 hsz.1 (by have := hsz.2; omega)
    have HO := hide (own_mono ho (show w.heap.size + 1 ≤ w5.heap.size from (Array.getElem?_eq_some_iff.1 H5.out.box).1))
    have HPI := hide hpin
    have hlt6 := (Array.getElem?_eq_some_iff.1 H6.out.box).1
    have c6 := (Below.heap_alloc w6 (.cells #[.int .i64 (n1 : Int), .int .i64 (n2 : Int), .slice aw o.length cp] 24) w.heap.size hlt6).trans H6.out.box
    obtain ⟨q0, q1, q2, r0, r1, r2⟩ := rbox3 c6
    have C6 := hide c6
    clear hb ho hpin c6 hlt6
    go_wp2
    refine bodyPost_ret (results_cell_tmp rfl _ _ w.heap.size 24 _ (0, 0) _ (.bool false) rfl rfl (rput3 C6.out _ _ _) Tryd.underlying24 rfl sizeEntryI) rfl ?_
    exact ⟨fun c => absurd c HNO.out, fun _ => rfl, rbelow3 (H6.out.bel.alloc H6.out.bel.size _) (Nat.le_refl _) _ _ _⟩
  | true =>
    cases b2 with
    | false =>
      have HNO : Hid (¬ (true = true ∧ false = true ∧ ko = true ∧ enG ⟨NC, NS, o⟩)) := hide (by rintro ⟨-, c, -⟩; cases c)
      go_enter Tryd.func7, Tryd.ntmps7
      go_wp2_with fail
      refine (UN.out _ H0.out.tab.2).mono ?_
      rintro e w1 ⟨rfl, hb⟩
      have H1 := hide (H0.out.later hb)
      clear hb
      go_wp2_with fail
      refine (CU1.out _ H1.out.tbc).mono ?_
      rintro e w2 ⟨rfl, hb⟩
      have H2 := hide (H1.out.later hb)
      clear hb
      go_wp2_with fail
      refine (CU2.out _ H2.out.tbc).mono ?_
      rintro e w3 ⟨rfl, hb⟩
      have H3 := hide (H2.out.later hb)
      clear hb
      go_wp2_with fail
      refine (RN1.out w3).mono ?_
      rintro e w4 ⟨rfl, hb⟩
      have H4 := hide (H3.out.later hb)
      clear hb
      go_wp2_with fail
      refine (RN2.out w4).mono ?_
      rintro e w5 ⟨rfl, hb⟩
      have H5 := hide (H4.out.later hb)
      clear hb
      go_wp2_with fail
      refine (RO.out _ H5.out.tab.1).mono ?_
      rintro e w6 ⟨v, rfl, ho, hb⟩
      have H6 := hide (H5.out.later hb)
      obtain ⟨aw, g, cp, rfl, hpin⟩ := own_pin ho H6.out.tab.1 hsz.1 (by have := hsz.2; omega)
      have HO := hide (own_mono ho (show w.heap.size + 1 ≤ w5.heap.size from (Array.getElem?_eq_some_iff.1 H5.out.box).1))
      have HPI := hide hpin
      have hlt6 := (Array.getElem?_eq_some_iff.1 H6.out.box).1
      have c6 := (Below.heap_alloc w6 (.cells #[.int .i64 (n1 : Int), .int .i64 (n2 : Int), .slice aw o.length cp] 24) w.heap.size hlt6).trans H6.out.box
      obtain ⟨q0, q1, q2, r0, r1, r2⟩ := rbox3 c6
      have C6 := hide c6
      clear hb ho hpin c6 hlt6
      go_wp2
      refine bodyPost_ret (results_cell_tmp rfl _ _ w.heap.size 24 _ (0, 0) _ (.bool false) rfl rfl (rput3 C6.out _ _ _) Tryd.underlying24 rfl sizeEntryI) rfl ?_
      exact ⟨fun c => absurd c HNO.out, fun _ => rfl, rbelow3 (H6.out.bel.alloc H6.out.bel.size _) (Nat.le_refl _) _ _ _⟩
    | true =>
      cases k1 with
      | false =>
        have HNO : Hid (¬ (true = true ∧ true = true ∧ ko = true ∧ enG ⟨NC, NS, o⟩)) := hide (by rintro ⟨-, -, -, c, -⟩; have := NB1.out.1.symm; rw [decide_eq_false_iff_not] at this; simp only at c; omega)
        go_enter Tryd.func7, Tryd.ntmps7
        go_wp2_with fail
        refine (UN.out _ H0.out.tab.2).mono ?_
        rintro e w1 ⟨rfl, hb⟩
        have H1 := hide (H0.out.later hb)
        clear hb
        go_wp2_with fail
        refine (CU1.out _ H1.out.tbc).mono ?_
        rintro e w2 ⟨rfl, hb⟩
        have H2 := hide (H1.out.later hb)
        clear hb
        go_wp2_with fail
        refine (CU2.out _ H2.out.tbc).mono ?_
        rintro e w3 ⟨rfl, hb⟩
        have H3 := hide (H2.out.later hb)
        clear hb
        go_wp2_with fail
        refine (RN1.out w3).mono ?_
        rintro e w4 ⟨rfl, hb⟩
        have H4 := hide (H3.out.later hb)
        clear hb
        go_wp2_with fail
        refine (RN2.out w4).mono ?_
        rintro e w5 ⟨rfl, hb⟩
        have H5 := hide (H4.out.later hb)
        clear hb
        go_wp2_with fail
        refine (RO.out _ H5.out.tab.1).mono ?_
        rintro e w6 ⟨v, rfl, ho, hb⟩
        have H6 := hide (H5.out.later hb)
        obtain ⟨aw, g, cp, rfl, hpin⟩ := own_pin ho H6.out.tab.1 hsz.1 (by have := hsz.2; omega)
        have HO := hide (own_mono ho (show w.heap.size + 1 ≤ w5.heap.size from (Array.getElem?_eq_some_iff.1 H5.out.box).1))
        have HPI := hide hpin
        have hlt6 := (Array.getElem?_eq_some_iff.1 H6.out.box).1
        have c6 := (Below.heap_alloc w6 (.cells #[.int .i64 (n1 : Int), .int .i64 (n2 : Int), .slice aw o.length cp] 24) w.heap.size hlt6).trans H6.out.box
        obtain ⟨q0, q1, q2, r0, r1, r2⟩ := rbox3 c6
        have C6 := hide c6
        clear hb ho hpin c6 hlt6
        go_wp2
        refine bodyPost_ret (results_cell_tmp rfl _ _ w.heap.size 24 _ (0, 0) _ (.bool false) rfl rfl (rput3 C6.out _ _ _) Tryd.underlying24 rfl sizeEntryI) rfl ?_
        exact ⟨fun c => absurd c HNO.out, fun _ => rfl, rbelow3 (H6.out.bel.alloc H6.out.bel.size _) (Nat.le_refl _) _ _ _⟩
      | true =>
        cases k2 with
        | false =>
          have HNO : Hid (¬ (true = true ∧ true = true ∧ ko = true ∧ enG ⟨NC, NS, o⟩)) := hide (by rintro ⟨-, -, -, -, c, -⟩; have := NB2.out.1.symm; rw [decide_eq_false_iff_not] at this; simp only at c; omega)
          go_enter Tryd.func7, Tryd.ntmps7
          go_wp2_with fail
          refine (UN.out _ H0.out.tab.2).mono ?_
          rintro e w1 ⟨rfl, hb⟩
          have H1 := hide (H0.out.later hb)
          clear hb
          go_wp2_with fail
          refine (CU1.out _ H1.out.tbc).mono ?_
          rintro e w2 ⟨rfl, hb⟩
          have H2 := hide (H1.out.later hb)
          clear hb
          go_wp2_with fail
          refine (CU2.out _ H2.out.tbc).mono ?_
          rintro e w3 ⟨rfl, hb⟩
          have H3 := hide (H2.out.later hb)
          clear hb
          go_wp2_with fail
          refine (RN1.out w3).mono ?_
          rintro e w4 ⟨rfl, hb⟩
          have H4 := hide (H3.out.later hb)
          clear hb
          go_wp2_with fail
          refine (RN2.out w4).mono ?_
          rintro e w5 ⟨rfl, hb⟩
          have H5 := hide (H4.out.later hb)
          clear hb
          go_wp2_with fail
          refine (RO.out _ H5.out.tab.1).mono ?_
          rintro e w6 ⟨v, rfl, ho, hb⟩
          have H6 := hide (H5.out.later hb)
          obtain ⟨aw, g, cp, rfl, hpin⟩ := own_pin ho H6.out.tab.1 hsz.1 (by have := hsz.2; omega)
          have HO := hide (own_mono ho (show w.heap.size + 1 ≤ w5.heap.size from (Array.getElem?_eq_some_iff.1 H5.out.box).1))
          have HPI := hide hpin
          have hlt6 := (Array.getElem?_eq_some_iff.1 H6.out.box).1
          have c6 := (Below.heap_alloc w6 (.cells #[.int .i64 (n1 : Int), .int .i64 (n2 : Int), .slice aw o.length cp] 24) w.heap.size hlt6).trans H6.out.box
          obtain ⟨q0, q1, q2, r0, r1, r2⟩ := rbox3 c6
          have C6 := hide c6
          clear hb ho hpin c6 hlt6
          go_wp2
          refine bodyPost_ret (results_cell_tmp rfl _ _ w.heap.size 24 _ (0, 0) _ (.bool false) rfl rfl (rput3 C6.out _ _ _) Tryd.underlying24 rfl sizeEntryI) rfl ?_
          exact ⟨fun c => absurd c HNO.out, fun _ => rfl, rbelow3 (H6.out.bel.alloc H6.out.bel.size _) (Nat.le_refl _) _ _ _⟩
        | true =>
          cases ko with
          | false =>
            have HNO : Hid (¬ (true = true ∧ true = true ∧ false = true ∧ enG ⟨NC, NS, o⟩)) := hide (by rintro ⟨-, -, c, -⟩; cases c)
            go_enter Tryd.func7, Tryd.ntmps7
            go_wp2_with fail
            refine (UN.out _ H0.out.tab.2).mono ?_
            rintro e w1 ⟨rfl, hb⟩
            have H1 := hide (H0.out.later hb)
            clear hb
            go_wp2_with fail
            refine (CU1.out _ H1.out.tbc).mono ?_
            rintro e w2 ⟨rfl, hb⟩
            have H2 := hide (H1.out.later hb)
            clear hb
            go_wp2_with fail
            refine (CU2.out _ H2.out.tbc).mono ?_
            rintro e w3 ⟨rfl, hb⟩
            have H3 := hide (H2.out.later hb)
            clear hb
            go_wp2_with fail
            refine (RN1.out w3).mono ?_
            rintro e w4 ⟨rfl, hb⟩
            have H4 := hide (H3.out.later hb)
            clear hb
            go_wp2_with fail
            refine (RN2.out w4).mono ?_
            rintro e w5 ⟨rfl, hb⟩
            have H5 := hide (H4.out.later hb)
            clear hb
            go_wp2_with fail
            refine (RO.out _ H5.out.tab.1).mono ?_
            rintro e w6 ⟨v, rfl, ho, hb⟩
            have H6 := hide (H5.out.later hb)
            obtain ⟨aw, g, cp, rfl, hpin⟩ := own_pin ho H6.out.tab.1 hsz.1 (by have := hsz.2; omega)
            have HO := hide (own_mono ho (show w.heap.size + 1 ≤ w5.heap.size from (Array.getElem?_eq_some_iff.1 H5.out.box).1))
            have HPI := hide hpin
            have hlt6 := (Array.getElem?_eq_some_iff.1 H6.out.box).1
            have c6 := (Below.heap_alloc w6 (.cells #[.int .i64 (n1 : Int), .int .i64 (n2 : Int), .slice aw o.length cp] 24) w.heap.size hlt6).trans H6.out.box
            obtain ⟨q0, q1, q2, r0, r1, r2⟩ := rbox3 c6
            have C6 := hide c6
            clear hb ho hpin c6 hlt6
            go_wp2
            refine bodyPost_ret (results_cell_tmp rfl _ _ w.heap.size 24 _ (0, 0) _ (.bool false) rfl rfl (rput3 C6.out _ _ _) Tryd.underlying24 rfl sizeEntryI) rfl ?_
            exact ⟨fun c => absurd c HNO.out, fun _ => rfl, rbelow3 (H6.out.bel.alloc H6.out.bel.size _) (Nat.le_refl _) _ _ _⟩
          | true =>
            obtain rfl := NB1.out.2 rfl
            obtain rfl := NB2.out.2 rfl
            have IE1 := fun aw g cp W' h hT => IEN.out aw g cp W' (n1 : Int) (n2 : Int) h hT
            by_cases he : enG ⟨(n1 : Int), (n2 : Int), o⟩
            · simp only [decide_eq_true he] at IE1
              have IE2 := hide IE1
              clear IE1
              go_enter Tryd.func7, Tryd.ntmps7
              go_wp2_with fail
              refine (UN.out _ H0.out.tab.2).mono ?_
              rintro e w1 ⟨rfl, hb⟩
              have H1 := hide (H0.out.later hb)
              clear hb
              go_wp2_with fail
              refine (CU1.out _ H1.out.tbc).mono ?_
              rintro e w2 ⟨rfl, hb⟩
              have H2 := hide (H1.out.later hb)
              clear hb
              go_wp2_with fail
              refine (CU2.out _ H2.out.tbc).mono ?_
              rintro e w3 ⟨rfl, hb⟩
              have H3 := hide (H2.out.later hb)
              clear hb
              go_wp2_with fail
              refine (RN1.out w3).mono ?_
              rintro e w4 ⟨rfl, hb⟩
              have H4 := hide (H3.out.later hb)
              clear hb
              go_wp2_with fail
              refine (RN2.out w4).mono ?_
              rintro e w5 ⟨rfl, hb⟩
              have H5 := hide (H4.out.later hb)
              clear hb
              go_wp2_with fail
              refine (RO.out _ H5.out.tab.1).mono ?_
              rintro e w6 ⟨v, rfl, ho, hb⟩
              have H6 := hide (H5.out.later hb)
              obtain ⟨aw, g, cp, rfl, hpin⟩ := own_pin ho H6.out.tab.1 hsz.1 (by have := hsz.2; omega)
              have HO := hide (own_mono ho (show w.heap.size + 1 ≤ w5.heap.size from (Array.getElem?_eq_some_iff.1 H5.out.box).1))
              have HPI := hide hpin
              have hlt6 := (Array.getElem?_eq_some_iff.1 H6.out.box).1
              have c6 := (Below.heap_alloc w6 (.cells #[.int .i64 (n1 : Int), .int .i64 (n2 : Int), .slice aw o.length cp] 24) w.heap.size hlt6).trans H6.out.box
              obtain ⟨q0, q1, q2, r0, r1, r2⟩ := rbox3 c6
              have C6 := hide c6
              clear hb ho hpin c6 hlt6
              go_wp2_with fail
              refine (IE2.out _ _ _ _ (HPI.out.later ((Below.refl _ _).alloc (Nat.le_refl _) _)) (H6.out.later ((Below.refl _ _).alloc (Nat.le_refl _) _)).tab.1).mono ?_
              rintro e w7 ⟨rfl, hb⟩
              have H7 := hide ((H6.out.later ((Below.refl _ _).alloc (Nat.le_refl _) _)).later hb)
              have hx := (hb.block w6.heap.size (by simp)).trans (heap_alloc_new w6 _)
              have HO7 := hide (own_below (own_below HO.out ((Below.refl _ w6).alloc (Nat.le_refl _) _)) hb)
              obtain ⟨y0, y1, y2, z0, z1, z2⟩ := rbox3 hx
              have c7 := H7.out.box
              obtain ⟨p0, p1, p2, s0, s1, s2⟩ := rbox3 c7
              have C7 := hide c7
              clear hb hx c7 q0 q1 q2 r0 r1 r2
              go_wp2
              refine bodyPost_ret (results_cell_tmp rfl _ _ w.heap.size 24 _ (0, 0) _ (.bool true) rfl rfl (rput3 C7.out _ _ _) Tryd.underlying24 rfl sizeEntryI) rfl ?_
              refine ⟨fun _ => ⟨_, rfl, ?_⟩, fun c => absurd ⟨by trivial, by trivial, by trivial, he⟩ c, rbelow3 H7.out.bel (Nat.le_refl _) _ _ _⟩
              exact own_mono (own_aside (own_aside (own_aside HO7.out (Nat.lt_succ_self _) 0 _) (Nat.lt_succ_self _) 1 _) (Nat.lt_succ_self _) 2 _) (Nat.le_succ _)
            · simp only [decide_eq_false he] at IE1
              have IE2 := hide IE1
              clear IE1
              go_enter Tryd.func7, Tryd.ntmps7
              go_wp2_with fail
              refine (UN.out _ H0.out.tab.2).mono ?_
              rintro e w1 ⟨rfl, hb⟩
              have H1 := hide (H0.out.later hb)
              clear hb
              go_wp2_with fail
              refine (CU1.out _ H1.out.tbc).mono ?_
              rintro e w2 ⟨rfl, hb⟩
              have H2 := hide (H1.out.later hb)
              clear hb
              go_wp2_with fail
              refine (CU2.out _ H2.out.tbc).mono ?_
              rintro e w3 ⟨rfl, hb⟩
              have H3 := hide (H2.out.later hb)
              clear hb
              go_wp2_with fail
              refine (RN1.out w3).mono ?_
              rintro e w4 ⟨rfl, hb⟩
              have H4 := hide (H3.out.later hb)
              clear hb
              go_wp2_with fail
              refine (RN2.out w4).mono ?_
              rintro e w5 ⟨rfl, hb⟩
              have H5 := hide (H4.out.later hb)
              clear hb
              go_wp2_with fail
              refine (RO.out _ H5.out.tab.1).mono ?_
              rintro e w6 ⟨v, rfl, ho, hb⟩
              have H6 := hide (H5.out.later hb)
              obtain ⟨aw, g, cp, rfl, hpin⟩ := own_pin ho H6.out.tab.1 hsz.1 (by have := hsz.2; omega)
              have HO := hide (own_mono ho (show w.heap.size + 1 ≤ w5.heap.size from (Array.getElem?_eq_some_iff.1 H5.out.box).1))
              have HPI := hide hpin
              have hlt6 := (Array.getElem?_eq_some_iff.1 H6.out.box).1
              have c6 := (Below.heap_alloc w6 (.cells #[.int .i64 (n1 : Int), .int .i64 (n2 : Int), .slice aw o.length cp] 24) w.heap.size hlt6).trans H6.out.box
              obtain ⟨q0, q1, q2, r0, r1, r2⟩ := rbox3 c6
              have C6 := hide c6
              clear hb ho hpin c6 hlt6
              go_wp2_with fail
              refine (IE2.out _ _ _ _ (HPI.out.later ((Below.refl _ _).alloc (Nat.le_refl _) _)) (H6.out.later ((Below.refl _ _).alloc (Nat.le_refl _) _)).tab.1).mono ?_
              rintro e w7 ⟨rfl, hb⟩
              have H7 := hide ((H6.out.later ((Below.refl _ _).alloc (Nat.le_refl _) _)).later hb)
              have hx := (hb.block w6.heap.size (by simp)).trans (heap_alloc_new w6 _)
              have HO7 := hide (own_below (own_below HO.out ((Below.refl _ w6).alloc (Nat.le_refl _) _)) hb)
              obtain ⟨y0, y1, y2, z0, z1, z2⟩ := rbox3 hx
              have c7 := H7.out.box
              obtain ⟨p0, p1, p2, s0, s1, s2⟩ := rbox3 c7
              have C7 := hide c7
              clear hb hx c7 q0 q1 q2 r0 r1 r2
              go_wp2
              refine bodyPost_ret (results_cell_tmp rfl _ _ w.heap.size 24 _ (0, 0) _ (.bool false) rfl rfl (rput3 C7.out _ _ _) Tryd.underlying24 rfl sizeEntryI) rfl ?_
              exact ⟨fun c => absurd c.2.2.2 he, fun _ => rfl, rbelow3 H7.out.bel (Nat.le_refl _) _ _ _⟩

end Go.Proofs.YtmjehpigfkobeabDoor
