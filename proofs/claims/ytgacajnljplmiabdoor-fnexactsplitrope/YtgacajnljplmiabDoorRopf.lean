/- The program's functions over ropes, on: SplitRope, ByteAt. -/
import Derived.Test.YtgacajnljplmiabDoorRopd
set_option linter.unusedVariables false
namespace Go.Proofs.YtgacajnljplmiabDoor
open Go.RowKit
open Doc1

theorem good_of {l m : List UInt8} (h : good l = true) (hs : ∀ c ∈ m, c ∈ l) (hl : m.length ≤ l.length) : good m = true := by
  unfold good allOk at h ⊢
  simp only [Bool.and_eq_true, decide_eq_true_eq, List.all_eq_true] at h ⊢
  exact ⟨fun c hc => h.1 c (hs c hc), by omega⟩

theorem ext_list (s : ByteArray) (a b : Nat) : (s.extract a b).data.toList = (s.data.toList.take b).drop a := by
  simp only [ByteArray.data_extract, Array.toList_extract, List.extract_eq_take_drop, List.drop_take]

theorem gpc_ext {s : ByteArray} (h : gpc s = true) {a b : Nat} (hab : a < b) (hb : b ≤ s.size) : gpc (s.extract a b) = true := by
  have h8 := gpc_bd h
  have hg : good (s.extract a b).data.toList = true := good_of (gpc_good h) (fun c hc => by rw [ext_list] at hc; exact List.mem_of_mem_take (List.mem_of_mem_drop hc)) (by rw [← szB, ← szB, ByteArray.size_extract]; omega)
  unfold gpc
  rw [hg]
  simp only [ByteArray.size_extract, Bool.and_true, Bool.and_eq_true, decide_eq_true_eq]
  omega

theorem spl_nb (t : Lm) : ∀ n, nbO (spl t n).1 ≤ t.nb ∧ nbO (spl t n).2 ≤ t.nb := by
  induction t with
  | pc s => intro n; simp only [spl]; split; · simp [nbO, Lm.nb]
            · split <;> simp [nbO, Lm.nb]
  | jn a b iha ihb =>
    intro n
    simp only [spl, Lm.nb]
    split
    · simp [nbO, Lm.nb]
    · split
      · simp [nbO, Lm.nb]
      · split
        · refine ⟨?_, ?_⟩
          · have := (iha n).1; show nbO (spl a n).1 ≤ _; omega
          · have h1 := jo_nb (spl a n).2 (some b); have := (iha n).2; show nbO (jo (spl a n).2 (some b)) ≤ _; rw [show nbO (some b) = b.nb from rfl] at h1; omega
        · refine ⟨?_, ?_⟩
          · have h1 := jo_nb (some a) (spl b (n - a.sz)).1; have := (ihb (n - a.sz)).1; show nbO (jo (some a) (spl b (n - a.sz)).1) ≤ _; rw [show nbO (some a) = a.nb from rfl] at h1; omega
          · have := (ihb (n - a.sz)).2; show nbO (spl b (n - a.sz)).2 ≤ _; omega

theorem gdO_some {t : Lm} (h : t.gd) : gdO (some t) := h

theorem gdO_none : gdO none := fun s hs => by cases hs

theorem spl_gd (t : Lm) : ∀ n, n ≤ t.sz → t.gd → gdO (spl t n).1 ∧ gdO (spl t n).2 := by
  induction t with
  | pc s =>
    intro n hn h
    simp only [Lm.sz] at hn
    have hp := gd_pc.1 h
    simp only [spl]
    split
    · exact ⟨gdO_none, h⟩
    · split
      · exact ⟨h, gdO_none⟩
      · exact ⟨gd_pc.2 (gpc_ext hp (by omega) hn), gd_pc.2 (gpc_ext hp (by omega) (Nat.le_refl _))⟩
  | jn a b iha ihb =>
    intro n hn h
    simp only [Lm.sz] at hn
    obtain ⟨ga, gb⟩ := gd_jn.1 h
    simp only [spl]
    split
    · exact ⟨gdO_none, h⟩
    · split
      · exact ⟨h, gdO_none⟩
      · split
        · rename_i h1 h2 h3
          exact ⟨(iha n h3 ga).1, jo_gd (iha n h3 ga).2 gb⟩
        · rename_i h1 h2 h3
          exact ⟨jo_gd ga (ihb (n - a.sz) (by omega) gb).1, (ihb (n - a.sz) (by omega) gb).2⟩

/-- The text of a tree. -/
def txO (o : Option Lm) : List UInt8 := (catB (pcO o)).data.toList

theorem txO_jo (a b : Option Lm) : txO (jo a b) = txO a ++ txO b := by unfold txO; rw [jo_pc, catB_app, apdB]

theorem txO_len (o : Option Lm) : (txO o).length = szO o := by unfold txO; rw [← szB, catB_size, pcO_tot]

theorem txO_none : txO none = [] := rfl

theorem txO_pc (s : ByteArray) : txO (some (.pc s)) = s.data.toList := by unfold txO; rw [catB_list]; simp [pcO, Lm.pcs]

theorem txO_jn (a b : Lm) : txO (some (.jn a b)) = txO (some a) ++ txO (some b) := txO_jo (some a) (some b)

theorem spl_tx (t : Lm) : ∀ n, n ≤ t.sz → txO (spl t n).1 = (txO (some t)).take n ∧ txO (spl t n).2 = (txO (some t)).drop n := by
  induction t with
  | pc s =>
    intro n hn
    simp only [Lm.sz] at hn
    have hs := szB s
    rw [txO_pc]
    simp only [spl]
    split
    · subst n; simp [txO_none, txO_pc]
    · split
      · subst n; rw [List.take_of_length_le (by omega), List.drop_eq_nil_of_le (by omega)]; exact ⟨txO_pc s, rfl⟩
      · rw [txO_pc, txO_pc, ext_list, ext_list]
        rw [List.drop_zero]
        exact ⟨rfl, by rw [List.take_of_length_le (by omega)]⟩
  | jn a b iha ihb =>
    intro n hn
    simp only [Lm.sz] at hn
    have la := txO_len (some a)
    have lb := txO_len (some b)
    simp only [szO] at la lb
    simp only [spl]
    split
    · subst n; simp [txO_none]
    · split
      · subst n
        have hl : (txO (some (.jn a b))).length = a.sz + b.sz := by rw [txO_len]; rfl
        rw [List.take_of_length_le (by omega), List.drop_eq_nil_of_le (by omega)]
        exact ⟨rfl, rfl⟩
      · split
        · rename_i h1 h2 h3
          have := iha n h3
          rw [txO_jn]
          refine ⟨?_, ?_⟩
          · show txO (spl a n).1 = _
            rw [this.1, List.take_append_of_le_length (by omega)]
          · show txO (jo (spl a n).2 (some b)) = _
            rw [txO_jo, this.2, List.drop_append_of_le_length (by omega)]
        · rename_i h1 h2 h3
          have := ihb (n - a.sz) (by omega)
          rw [txO_jn]
          refine ⟨?_, ?_⟩
          · show txO (jo (some a) (spl b (n - a.sz)).1) = _
            rw [txO_jo, this.1, List.take_append, show (txO (some a)).take n = txO (some a) from List.take_of_length_le (by omega), la]
          · show txO (spl b (n - a.sz)).2 = _
            rw [this.2, List.drop_append, show (txO (some a)).drop n = [] from List.drop_eq_nil_of_le (by omega), la]; rfl

noncomputable def spOk (l : List Bg) (n : Int) : Bool := rtB l && (decide (0 ≤ n) && decide (n ≤ (szO (rtO l) : Int)))

noncomputable def spL1 (l : List Bg) (n : Int) : List Bg := if spOk l n then bo (splO (rtO l) n.toNat).1 else []

noncomputable def spL2 (l : List Bg) (n : Int) : List Bg := if spOk l n then bo (splO (rtO l) n.toNat).2 else []

theorem splO_ok (o : Option Lm) (n : Nat) (hn : n ≤ szO o) (hz : szO o ≤ 300) (hb : nbO o ≤ 200) : okB (splO o n).1 = bo (splO o n).1 ∧ okB (splO o n).2 = bo (splO o n).2 ∧ nbO (splO o n).1 ≤ 200 ∧ nbO (splO o n).2 ≤ 200 ∧ szO (splO o n).1 ≤ 300 ∧ szO (splO o n).2 ≤ 300 := by
  cases o with
  | none => exact ⟨rfl, rfl, by simp [splO, nbO], by simp [splO, nbO], by simp [splO, szO], by simp [splO, szO]⟩
  | some t =>
    simp only [nbO, szO] at hn hz hb
    have h1 := spl_nb t n
    have h2 := spl_sz t n hn
    have k1 : fit (spl t n).1 = true := by unfold fit; simp; omega
    have k2 : fit (spl t n).2 = true := by unfold fit; simp; omega
    exact ⟨by unfold okB splO; rw [k1]; rfl, by unfold okB splO; rw [k2]; rfl, by simp only [splO]; omega, by simp only [splO]; omega, by simp only [splO]; omega, by simp only [splO]; omega⟩

theorem CellR.other {w : World} {c d : Nat} {x : Value} (h : CellR w c x) (hd : d ≠ c) (y : Value) : CellR (w.setCell ⟨d, 0, none⟩ y) c x := by
  unfold CellR at h ⊢
  rw [Below.heap_setCell _ _ _ _ (fun e => hd e.symm)]
  exact h

/-- Two ropes that a function tells. -/
def Rp2Post (w : World) (l m : List Bg) (b : Bool) (e : Ending) (w' : World) : Prop := ∃ v u, e = .returned (.tuple #[.agg #[v], .agg #[u], .bool b]) ∧ BoOwn w' w.heap.size v l ∧ BoOwn w' w.heap.size u m ∧ (∀ y z, v.ownBlock = some y → u.ownBlock = some z → y ≠ z) ∧ Below w.heap.size w w'

set_option maxRecDepth 100000 in
set_option maxHeartbeats 4000000 in
theorem splitRopeI {w : World} {a : Option Addr} {cap : Nat} {l : List Bg} (n : Int) (h : RIn w a cap l) (hT : Tab w) :
    Calls Tryd.prog 21 #[.agg #[.slice a l.length cap], .int .i64 n] w (Rp2Post w (spL1 l n) (spL2 l n) (spOk l n)) := by
  obtain ⟨w1, hw1⟩ : ∃ w1, w1 = ((w.alloc (.cells #[.slice a l.length cap] 41)).alloc (.cells #[.slice none 0 0] 41)).alloc (.cells #[.slice none 0 0] 41) := ⟨_, rfl⟩
  obtain ⟨hs1, hb1, -, hc1, hc2⟩ := boxes3 w (.slice a l.length cap) (.slice none 0 0) (.slice none 0 0)
  rw [← hw1] at hs1 hb1 hc1 hc2
  have R1 := hide (root_of (h.later hb1) (hT.below hb1))
  unfold RtPost at R1
  have ok1 := rt_ok l
  have HB1 := hide hb1
  have HC1 := hide hc1
  have HC2 := hide hc2
  unfold Rp2Post
  have LO := hide (lengthOf_any (rtO l))
  have SP := hide (fun (k : Nat) w (hk : k ≤ szO (rtO l)) => splitLimb_opt (rtO l) k w hk ok1.1 (by omega))
  have SO := hide (fun (k : Nat) (hk : k ≤ szO (rtO l)) => splO_ok (rtO l) k hk ok1.2.2 ok1.2.1)
  have HN : Hid (spOk l n = false → spL1 l n = [] ∧ spL2 l n = []) := hide (fun c => by unfold spL1 spL2; rw [c]; exact ⟨rfl, rfl⟩)
  have HY : Hid (spOk l n = true → spL1 l n = bo (splO (rtO l) n.toNat).1 ∧ spL2 l n = bo (splO (rtO l) n.toNat).2) := hide (fun c => by unfold spL1 spL2; rw [c]; exact ⟨rfl, rfl⟩)
  have HD : Hid (spOk l n = (rtB l && (decide (0 ≤ n) && decide (n ≤ (szO (rtO l) : Int))))) := hide rfl
  obtain ⟨L1, hL1⟩ : ∃ L, spL1 l n = L := ⟨_, rfl⟩
  obtain ⟨L2, hL2⟩ : ∃ L, spL2 l n = L := ⟨_, rfl⟩
  obtain ⟨bb, hbb⟩ : ∃ bb, spOk l n = bb := ⟨_, rfl⟩
  obtain ⟨o, ho⟩ : ∃ o, rtO l = o := ⟨_, rfl⟩
  obtain ⟨bl, hbl⟩ : ∃ bl, rtB l = bl := ⟨_, rfl⟩
  rw [hL1, hL2, hbb] at HN HY ⊢
  rw [hbb] at HD
  rw [ho] at R1 LO SP SO HY HD
  rw [hbl] at R1 HD
  have hoz : szO o ≤ 300 := by rw [← ho]; exact ok1.2.2
  have RW := hide (fun q w (h1 : nbO q ≤ 200) (h2 : szO q ≤ 300) => ropeWith_any q w (by omega) (by omega))
  unfold RpPost at RW
  obtain ⟨v1, hv1⟩ : ∃ vo, lvO o = vo := ⟨_, rfl⟩
  rw [hv1] at R1 LO SP
  clear hL1 hL2 hbb ho hbl ok1 h hT hb1 hc1 hc2 hv1
  go_enter Tryd.func21, Tryd.ntmps21
  go_wp2_with fail
  rw [← hw1]
  clear hw1
  refine R1.out.mono ?_
  rintro e w2 ⟨rfl, hb2⟩
  have HB2 : Hid (Below w.heap.size w w2) := hide (HB1.out.trans (hb2.mono HB1.out.size))
  have HA2 := hide (HC1.out.later hb2)
  have HZ2 := hide (HC2.out.later hb2)
  clear hb2 HC1 HC2 HB1 R1
  cases bl with
  | false =>
    obtain rfl : bb = false := HD.out
    obtain ⟨rfl, rfl⟩ := HN.out (by first | rfl | trivial)
    have q1 := HA2.out.cell
    have q2 := HA2.out.fz
    have q3 := HZ2.out.cell
    have q4 := HZ2.out.fz
    clear HN HY HD
    go_wp2
    refine bodyPost_ret (results_cells_tmp rfl _ _ (w.heap.size + 1) (w.heap.size + 1 + 1) 41 41 _ _ (0, 0) (0, 0) _ (.bool false) rfl rfl rfl ((HA2.out.put _).other (by omega) _) ((HZ2.out.other (by omega) _).put _) Tryd.underlying41 rfl Tryd.sizeRope Tryd.sizeRope) rfl ?_
    exact ⟨_, _, rfl, World.ownsRow_nil _ _ _ _, World.ownsRow_nil _ _ _ _, (fun y z h => by cases h), (HB2.out.setCell (by show w.heap.size ≤ w.heap.size + 1; omega) _).setCell (by show w.heap.size ≤ w.heap.size + 1 + 1; omega) _⟩
  | true =>
    rw [Bool.true_and] at HD
    by_cases h0 : 0 ≤ n
    · obtain ⟨k, rfl⟩ : ∃ k : Nat, n = (k : Int) := ⟨n.toNat, by omega⟩
      have e0 : decide ((k : Int) < 0) = false := by rw [decide_eq_false_iff_not]; omega
      go_wp2_with fail
      refine (LO.out w2).mono ?_
      rintro e w3 ⟨rfl, hb3⟩
      have HB3 : Hid (Below w.heap.size w w3) := hide (HB2.out.trans (hb3.mono HB2.out.size))
      have HA3 := hide (HA2.out.later hb3)
      have HZ3 := hide (HZ2.out.later hb3)
      clear hb3 HA2 HZ2 HB2
      by_cases h1 : k ≤ szO o
      · have e1 : decide ((szO o : Int) < (k : Int)) = false := by rw [decide_eq_false_iff_not]; omega
        obtain rfl : bb = true := by have := HD.out; rw [decide_eq_true h0, decide_eq_true (by omega)] at this; exact this
        obtain ⟨E1, E2⟩ := HY.out (by first | rfl | trivial)
        rw [Int.toNat_natCast] at E1 E2
        obtain ⟨s1, s2, s3, s4, s5, s6⟩ := SO.out k h1
        have S := hide (fun w => SP.out k w h1)
        have W1 := hide (fun w => RW.out (splO o k).1 w s3 s5)
        have W2 := hide (fun w => RW.out (splO o k).2 w s4 s6)
        rw [s1, ← E1] at W1
        rw [s2, ← E2] at W2
        obtain ⟨f1, hf1⟩ : ∃ L, fit (splO o k).1 = L := ⟨_, rfl⟩
        obtain ⟨f2, hf2⟩ : ∃ L, fit (splO o k).2 = L := ⟨_, rfl⟩
        obtain ⟨u1, hu1⟩ : ∃ L, lvO (splO o k).1 = L := ⟨_, rfl⟩
        obtain ⟨u2, hu2⟩ : ∃ L, lvO (splO o k).2 = L := ⟨_, rfl⟩
        simp only [hf1, hf2, hu1, hu2] at S W1 W2
        clear E1 E2 hf1 hf2 hu1 hu2 s1 s2 s3 s4 s5 s6 SP SO RW HN HY HD
        go_wp2_with fail
        refine (S.out w3).mono ?_
        rintro e w4 ⟨rfl, hb4⟩
        have HB4 : Hid (Below w.heap.size w w4) := hide (HB3.out.trans (hb4.mono HB3.out.size))
        have HA4 := hide (HA3.out.later hb4)
        have HZ4 := hide (HZ3.out.later hb4)
        clear hb4 HA3 HZ3 HB3
        go_wp2_with fail
        refine (W1.out w4).mono ?_
        rintro e w5 ⟨v5, rfl, own5, hb5⟩
        obtain ⟨a5, c5, rfl, -⟩ := own_shp own5
        obtain ⟨w6, hw6⟩ : ∃ w6, w6 = w5.alloc (.cells #[.slice a5 L1.length c5] 41) := ⟨_, rfl⟩
        have hb6 : Below w5.heap.size w5 w6 := by rw [hw6]; exact (Below.refl _ _).alloc (Nat.le_refl _) _
        have hx6 : CellR w6 w5.heap.size (.slice a5 L1.length c5) := by rw [hw6]; exact CellR.new w5 _
        have hs6 : w6.heap.size = w5.heap.size + 1 := by rw [hw6]; simp
        have hb46 : Below w4.heap.size w4 w6 := hb5.trans (hb6.mono hb5.size)
        have HB6 : Hid (Below w.heap.size w w6) := hide (HB4.out.trans (hb46.mono HB4.out.size))
        have HA6 := hide (HA4.out.later hb46)
        have HZ6 := hide (HZ4.out.later hb46)
        have HX6 := hide hx6
        have HO6 := hide (own_below own5 hb6)
        have HL6 : Hid (∀ y, (Value.slice a5 L1.length c5).ownBlock = some y → y < w5.heap.size) := hide (BoOwn.lt own5)
        have HS4 := hide HB4.out.size
        have HLT := hide HA4.out.lt
        have HLZ := hide HZ4.out.lt
        have HSS := hide hs6
        have HS5 := hide hb5.size
        clear hb5 hb6 hx6 hb46 own5 HA4 HZ4 HB4 hs6
        go_wp2_with fail
        rw [← hw6]
        clear hw6
        refine (W2.out w6).mono ?_
        rintro e w7 ⟨v7, rfl, own7, hb7⟩
        obtain ⟨a7, c7, rfl, -⟩ := own_shp own7
        obtain ⟨w8, hw8⟩ : ∃ w8, w8 = w7.alloc (.cells #[.slice a7 L2.length c7] 41) := ⟨_, rfl⟩
        have hb8 : Below w7.heap.size w7 w8 := by rw [hw8]; exact (Below.refl _ _).alloc (Nat.le_refl _) _
        have hx8 : CellR w8 w7.heap.size (.slice a7 L2.length c7) := by rw [hw8]; exact CellR.new w7 _
        have hb68 : Below w6.heap.size w6 w8 := hb7.trans (hb8.mono hb7.size)
        have HB8 : Hid (Below w.heap.size w w8) := hide (HB6.out.trans (hb68.mono HB6.out.size))
        have HA8 := hide (HA6.out.later hb68)
        have HZ8 := hide (HZ6.out.later hb68)
        have HX8 := hide (HX6.out.later hb68)
        have HO8 := hide (own_below HO6.out hb68)
        have HP8 := hide (own_below own7 hb8)
        have p1 := HX8.out.cell
        have p2 := hx8.cell
        have q1 := HA8.out.cell
        have q2 := HA8.out.fz
        have q3 := HZ8.out.cell
        have q4 := HZ8.out.fz
        have HDIS : Hid (∀ y z, (Value.slice a5 L1.length c5).ownBlock = some y → (Value.slice a7 L2.length c7).ownBlock = some z → y ≠ z) := hide (fun y z hy hz => by have h1 := HL6.out y hy; have h2 := (World.ownsRow.lt own7 z hz).1; have := HSS.out; omega)
        have HS7 := hide hb7.size
        have nn : w.heap.size + 1 + 1 < w5.heap.size ∧ w.heap.size + 1 + 1 < w7.heap.size := by
          have := HLZ.out; have := HS5.out; have := HS7.out; have := HSS.out; omega
        have n1 : ¬ w.heap.size + 1 = w5.heap.size := by omega
        have n2 : ¬ w.heap.size + 1 + 1 = w5.heap.size := by omega
        have n3 : ¬ w.heap.size + 1 = w7.heap.size := by omega
        have n4 : ¬ w.heap.size + 1 + 1 = w7.heap.size := by omega
        have m1 : ¬ w5.heap.size = w.heap.size + 1 := by omega
        have m2 : ¬ w5.heap.size = w.heap.size + 1 + 1 := by omega
        have m3 : ¬ w7.heap.size = w.heap.size + 1 := by omega
        have m4 : ¬ w7.heap.size = w.heap.size + 1 + 1 := by omega
        have HO9 := hide (own_aside (own_aside HO8.out (g := w.heap.size + 1) HLT.out 0 (.slice a5 L1.length c5)) (g := w.heap.size + 1 + 1) HLZ.out 0 (.slice a7 L2.length c7))
        have HP9 := hide (own_aside (own_aside HP8.out (g := w.heap.size + 1) (by have := HLT.out; have := HS5.out; have := HSS.out; omega) 0 (.slice a5 L1.length c5)) (g := w.heap.size + 1 + 1) (by have := HLZ.out; have := HS5.out; have := HSS.out; omega) 0 (.slice a7 L2.length c7))
        have HE9 : Hid (Below w.heap.size w ((w8.setCell ⟨w.heap.size + 1, 0, none⟩ (.slice a5 L1.length c5)).setCell ⟨w.heap.size + 1 + 1, 0, none⟩ (.slice a7 L2.length c7))) := hide ((HB8.out.setCell (by show w.heap.size ≤ w.heap.size + 1; omega) _).setCell (by show w.heap.size ≤ w.heap.size + 1 + 1; omega) _)
        have HS6 : Hid (w.heap.size ≤ w6.heap.size) := hide HB6.out.size
        clear hb7 hb8 hx8 hb68 own7 HA6 HZ6 HB6 HX6 HO6 nn
        go_wp2
        rw [← hw8]
        clear hw8
        go_region
        go_wp2
        have r1 := ((HA8.out.put (.slice a5 L1.length c5)).other (d := w.heap.size + 1 + 1) (by omega) (.slice a7 L2.length c7))
        have r2 := ((HZ8.out.other (d := w.heap.size + 1) (by omega) (.slice a5 L1.length c5)).put (.slice a7 L2.length c7))
        refine bodyPost_ret (results_cells_tmp rfl _ _ (w.heap.size + 1) (w.heap.size + 1 + 1) 41 41 _ _ (0, 0) (0, 0) _ (.bool true) rfl rfl rfl r1 r2 Tryd.underlying41 rfl Tryd.sizeRope Tryd.sizeRope) rfl ?_
        exact ⟨_, _, rfl, own_mono (own_below HO9.out (Below.refl _ _).drew) HS4.out, own_mono (own_below HP9.out (Below.refl _ _).drew) HS6.out, HDIS.out, HE9.out.drew⟩
      · have e1 : decide ((szO o : Int) < (k : Int)) = true := by rw [decide_eq_true_iff]; omega
        obtain rfl : bb = false := by have := HD.out; rw [decide_eq_false (show ¬ (k : Int) ≤ (szO o : Int) by omega), Bool.and_false] at this; exact this
        obtain ⟨rfl, rfl⟩ := HN.out (by first | rfl | trivial)
        have q1 := HA3.out.cell
        have q2 := HA3.out.fz
        have q3 := HZ3.out.cell
        have q4 := HZ3.out.fz
        clear HN HY HD
        go_wp2
        refine bodyPost_ret (results_cells_tmp rfl _ _ (w.heap.size + 1) (w.heap.size + 1 + 1) 41 41 _ _ (0, 0) (0, 0) _ (.bool false) rfl rfl rfl ((HA3.out.put _).other (by omega) _) ((HZ3.out.other (by omega) _).put _) Tryd.underlying41 rfl Tryd.sizeRope Tryd.sizeRope) rfl ?_
        exact ⟨_, _, rfl, World.ownsRow_nil _ _ _ _, World.ownsRow_nil _ _ _ _, (fun y z h => by cases h), (HB3.out.setCell (by show w.heap.size ≤ w.heap.size + 1; omega) _).setCell (by show w.heap.size ≤ w.heap.size + 1 + 1; omega) _⟩
    · have e0 : decide (n < 0) = true := by rw [decide_eq_true_iff]; omega
      obtain rfl : bb = false := by have := HD.out; rw [decide_eq_false h0, Bool.false_and] at this; exact this
      obtain ⟨rfl, rfl⟩ := HN.out (by first | rfl | trivial)
      have q1 := HA2.out.cell
      have q2 := HA2.out.fz
      have q3 := HZ2.out.cell
      have q4 := HZ2.out.fz
      clear HN HY HD
      go_wp2
      refine bodyPost_ret (results_cells_tmp rfl _ _ (w.heap.size + 1) (w.heap.size + 1 + 1) 41 41 _ _ (0, 0) (0, 0) _ (.bool false) rfl rfl rfl ((HA2.out.put _).other (by omega) _) ((HZ2.out.other (by omega) _).put _) Tryd.underlying41 rfl Tryd.sizeRope Tryd.sizeRope) rfl ?_
      exact ⟨_, _, rfl, World.ownsRow_nil _ _ _ _, World.ownsRow_nil _ _ _ _, (fun y z h => by cases h), (HB2.out.setCell (by show w.heap.size ≤ w.heap.size + 1; omega) _).setCell (by show w.heap.size ≤ w.heap.size + 1 + 1; omega) _⟩

/-- The byte at a place, and how many are gone through. -/
def bat : Lm → Nat → UInt8 × Nat
  | .pc s, n => (s.data.toList.getD n 0, 1)
  | .jn a b, n => if a.sz ≤ n then ((bat b (n - a.sz)).1, (bat b (n - a.sz)).2 + 1) else ((bat a n).1, (bat a n).2 + 1)

theorem bat_dp (t : Lm) : ∀ n, (bat t n).2 ≤ t.dp + 1 := by
  induction t with
  | pc s => intro n; simp [bat, Lm.dp]
  | jn a b iha ihb =>
    intro n
    simp only [bat, Lm.dp]
    split
    · have := ihb (n - a.sz); simp only; omega
    · have := iha n; simp only; omega

theorem bat_tx (t : Lm) : ∀ n, n < t.sz → (bat t n).1 = (txO (some t)).getD n 0 := by
  induction t with
  | pc s => intro n hn; rw [txO_pc]; rfl
  | jn a b iha ihb =>
    intro n hn
    simp only [Lm.sz] at hn
    have la := txO_len (some a)
    simp only [szO] at la
    rw [txO_jn]
    simp only [bat]
    split
    · rename_i h; rw [ihb _ (by omega), List.getD_eq_getElem?_getD, List.getD_eq_getElem?_getD, List.getElem?_append_right (by omega), la]
    · rename_i h; rw [iha _ (by omega), List.getD_eq_getElem?_getD, List.getD_eq_getElem?_getD, List.getElem?_append_left (by omega)]

theorem bya_pc (s : ByteArray) (w : World) : (method 317 146 (.string s) "loop.example/g00253/impl.byteAt").run Tryd.prog w = .ok (159, .string s) w := by kernel_rfl

theorem bya_jn (x y z : Value) (w : World) : (method 317 166 (.agg #[x, y, z]) "loop.example/g00253/impl.byteAt").run Tryd.prog w = .ok (162, .agg #[x, y, z]) w := by kernel_rfl

theorem entb_pc (a : Array Value) (w : World) : (callFunc 159 a).run Tryd.prog w = .ok (.enter 159 a) w := by kernel_rfl

theorem entb_jn (a : Array Value) (w : World) : (callFunc 162 a).run Tryd.prog w = .ok (.enter 162 a) w := by kernel_rfl

def BaPost (t : Lm) (n : Nat) (w : World) (e : Ending) (w' : World) : Prop := e = .returned (.tuple #[.int .u8 ((bat t n).1.toNat : Int), .int .i64 ((bat t n).2 : Int)]) ∧ Below w.heap.size w w'

def BaC (t : Lm) : Prop := ∃ T x K, lv t = .iface T x ∧ (∀ a w, (callFunc K a).run Tryd.prog w = .ok (.enter K a) w) ∧ (∀ w, (method 317 T x "loop.example/g00253/impl.byteAt").run Tryd.prog w = .ok (K, x) w) ∧ ∀ (n : Nat) w, n < t.sz → Calls Tryd.prog K #[x, .int .i64 (n : Int)] w (BaPost t n w)

set_option maxRecDepth 100000 in
set_option maxHeartbeats 4000000 in
theorem pieceByte (s : ByteArray) (n : Nat) (w : World) (hn : n < s.size) : Calls Tryd.prog 159 #[.string s, .int .i64 (n : Int)] w (BaPost (.pc s) n w) := by
  unfold BaPost
  have e : (bat (.pc s) n).1 = s[n] := by
    show s.data.toList.getD n 0 = _
    rw [List.getD_eq_getElem?_getD, List.getElem?_eq_getElem (by rw [← szB]; exact hn)]
    rfl
  rw [e, show (bat (.pc s) n).2 = 1 from rfl]
  clear e
  go_enter Tryd.func159, Tryd.ntmps159
  go_wp2
  go_ret2
  exact ⟨rfl, Below.refl _ _⟩

set_option maxRecDepth 100000 in
set_option maxHeartbeats 4000000 in
theorem jointByte (a b : Lm) (ha : BaC a) (hb : BaC b) (n : Nat) (w : World) (hn : n < a.sz + b.sz) (hz : a.sz + b.sz ≤ 100000) (hd : a.dp + b.dp ≤ 100000) : Calls Tryd.prog 162 #[.agg #[lv a, lv b, .int .i64 ((a.sz + b.sz : Nat) : Int)], .int .i64 (n : Int)] w (BaPost (.jn a b) n w) := by
  obtain ⟨T1, x1, K1, e1, ka, ma, ca⟩ := ha
  obtain ⟨T2, x2, K2, e2, kb, mb, cb⟩ := hb
  obtain ⟨T1', x1', K1', e1', ks, ms, cs⟩ := lv_size a
  rw [e1] at e1'
  cases e1'
  rw [e1, e2]
  have CS := hide cs
  obtain ⟨z, hz2⟩ : ∃ z : Int, ((a.sz + b.sz : Nat) : Int) = z := ⟨_, rfl⟩
  rw [hz2]
  unfold BaPost
  have HZ := hide (And.intro hn hz)
  have dpa := bat_dp a
  have dpb := bat_dp b
  clear cs hz2
  by_cases hc : a.sz ≤ n
  · have hc' : decide ((a.sz : Int) ≤ (n : Int)) = true := by rw [decide_eq_true_iff]; omega
    have e : bat (.jn a b) n = ((bat b (n - a.sz)).1, (bat b (n - a.sz)).2 + 1) := by simp only [bat]; rw [if_pos hc]
    rw [e]
    have C := hide (fun w => cb (n - a.sz) w (by omega))
    unfold BaPost at C
    have ew : IntKind.i64.wrap ((n : Int) - (a.sz : Int)) = ((n - a.sz : Nat) : Int) := by rw [IntKind.wrap_i64]; omega
    have hd2 := dpb (n - a.sz)
    obtain ⟨d, hdd⟩ : ∃ d : Nat, n - a.sz = d := ⟨_, rfl⟩
    rw [hdd] at ew C hd2 ⊢
    obtain ⟨cv, hcv⟩ : ∃ c, ((bat b d).1.toNat : Int) = c := ⟨_, rfl⟩
    obtain ⟨q, hq⟩ : ∃ q, (bat b d).2 = q := ⟨_, rfl⟩
    rw [hcv, hq] at C
    rw [hq] at hd2
    simp only [hcv, hq]
    clear ca cb e hcv hq hdd e1 e2 hn hz
    have c0 : (w.alloc (.cells #[.iface T1 x1, .iface T2 x2, .int .i64 z] 166)).cell? ⟨w.heap.size, 0, none⟩ = some (.iface T1 x1) ∧ (w.alloc (.cells #[.iface T1 x1, .iface T2 x2, .int .i64 z] 166)).cell? ⟨w.heap.size, 1, none⟩ = some (.iface T2 x2) := cells3 (Below.refl _ _)
    go_enter Tryd.func162, Tryd.ntmps162
    go_wp2_with fail
    refine (CS.out _).mono ?_
    rintro e w2 ⟨rfl, hb2⟩
    have hsz : (w.alloc (.cells #[.iface T1 x1, .iface T2 x2, .int .i64 z] 166)).heap.size = w.heap.size + 1 := by simp
    rw [hsz] at hb2
    have CC := cells3 hb2
    have HB2 : Hid (Below w.heap.size w w2) := hide (((Below.refl _ _).alloc (Nat.le_refl _) _).trans (hb2.mono (by omega)))
    have hs2 := hb2.size
    rw [hsz] at hs2
    clear hb2 hsz c0
    go_wp2_with fail
    go_region_held3 (fun w' => w'.cell? ⟨w.heap.size, 0, none⟩ = some (.iface T1 x1) ∧ w'.cell? ⟨w.heap.size, 1, none⟩ = some (.iface T2 x2))
      (first | assumption | exact CC | exact CC3)
      ((refine (CS.out _).mono ?_; rintro e w3 ⟨rfl, hb3⟩; have CC3 : w3.cell? ⟨w.heap.size, 0, none⟩ = some (.iface T1 x1) ∧ w3.cell? ⟨w.heap.size, 1, none⟩ = some (.iface T2 x2) := ⟨(World.cell?_of_block (hb3.block _ (by show w.heap.size < _; simp; omega))).trans CC.1, (World.cell?_of_block (hb3.block _ (by show w.heap.size < _; simp; omega))).trans CC.2⟩))
    go_wp2_with fail
    refine (C.out _).mono ?_
    rintro e w4 ⟨rfl, hb4⟩
    have HB3 : Hid (Below w.heap.size w w3) := hide (HB2.out.trans (((Below.refl _ _).drew.trans hb3).mono HB2.out.size))
    have HB4 : Hid (Below w.heap.size w w4) := hide (HB3.out.trans (hb4.mono HB3.out.size))
    clear hb3 hb4
    go_wp2
    go_ret2
    exact ⟨rfl, HB4.out⟩
  · have hc' : decide ((a.sz : Int) ≤ (n : Int)) = false := by rw [decide_eq_false_iff_not]; omega
    have e : bat (.jn a b) n = ((bat a n).1, (bat a n).2 + 1) := by simp only [bat]; rw [if_neg hc]
    rw [e]
    have C := hide (fun w => ca n w (by omega))
    unfold BaPost at C
    have hd2 := dpa n
    obtain ⟨cv, hcv⟩ : ∃ c, ((bat a n).1.toNat : Int) = c := ⟨_, rfl⟩
    obtain ⟨q, hq⟩ : ∃ q, (bat a n).2 = q := ⟨_, rfl⟩
    rw [hcv, hq] at C
    rw [hq] at hd2
    simp only [hcv, hq]
    clear ca cb e hcv hq e1 e2 hn hz
    go_enter Tryd.func162, Tryd.ntmps162
    go_wp2_with fail
    refine (CS.out _).mono ?_
    rintro e w2 ⟨rfl, hb2⟩
    have HB2 : Hid (Below w.heap.size w w2) := hide (((Below.refl _ _).alloc (Nat.le_refl _) _).trans (hb2.mono (by simp)))
    clear hb2
    go_wp2_with fail
    refine (C.out _).mono ?_
    rintro e w4 ⟨rfl, hb4⟩
    have HB4 : Hid (Below w.heap.size w w4) := hide (HB2.out.trans (hb4.mono HB2.out.size))
    clear hb4
    go_wp2
    go_ret2
    exact ⟨rfl, HB4.out⟩

/-- Each limb tells its bytes so (function 162 of joints). -/
theorem baC_all (t : Lm) (hz : t.sz ≤ 100000) (hn : t.nb ≤ 100000) : BaC t := by
  induction t with
  | pc s => exact ⟨_, _, _, rfl, entb_pc, bya_pc s, fun n w h => pieceByte s n w h⟩
  | jn a b iha ihb =>
    simp only [Lm.sz, Lm.nb] at hz hn
    have := Lm.dp_lt a
    have := Lm.dp_lt b
    exact ⟨_, _, _, rfl, entb_jn, bya_jn _ _ _, fun n w h => jointByte a b (iha (by omega) (by omega)) (ihb (by omega) (by omega)) n w (by simpa [Lm.sz] using h) (by omega) (by omega)⟩
end Go.Proofs.YtgacajnljplmiabDoor
