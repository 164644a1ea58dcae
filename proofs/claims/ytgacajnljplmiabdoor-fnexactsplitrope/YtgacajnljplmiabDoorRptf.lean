/- The model's SplitRope. -/
import Derived.Test.YtgacajnljplmiabDoorRpte
import Derived.Test.YtgacajnljplmiabDoorRpt8
import Derived.Test.YtgacajnljplmiabDoorRopf
set_option linter.unusedVariables false
namespace Go.Proofs.YtgacajnljplmiabDoor
open Go.RowKit
open Doc1

theorem l12Split_opt (o : Option Lm) (n : Nat) (a : Option Addr) (cap : Nat) (w : World) (h : BoIn w a cap (bo o)) (hn : n ≤ szO o) (hg : gdO o) (hb : nbO o ≤ 200) (hs : szO o ≤ 300) :
    Calls Tryd.prog 68 #[.slice a (bo o).length cap, .int .i64 (n : Int)] w (SqPost w (splO o n).1 (splO o n).2) := by
  cases o with
  | none =>
    have : n = 0 := by simp only [szO] at hn; omega
    subst this
    exact l12Split_zero none a cap w h
  | some t => exact l12Split_any t n a cap w h hn hg hb (by simp only [szO] at hs; omega)

theorem spl_mid {w3 w5 : World} {L1 L2 : List Bg} {a4 : Option Addr} {c4 : Nat} (a5 : Option Addr) (c5 : Nat) (hi : BoIn w3 a4 c4 L2) (hb5 : Below w3.heap.size (w3.alloc (.cells #[] 65)) w5) :
    Hid (World.ownsRow ((w5.alloc (.cells #[.slice a5 L1.length c5] 41)).alloc (.cells #[] 65)) (w5.heap.size + 1) 65 5 (.slice (some ⟨w5.heap.size + 1, 0, none⟩) 0 0) 0 []) ∧ Hid (BoIn ((w5.alloc (.cells #[.slice a5 L1.length c5] 41)).alloc (.cells #[] 65)) a4 c4 L2) ∧ w5.heap.size + 1 ≤ ((w5.alloc (.cells #[.slice a5 L1.length c5] 41)).alloc (.cells #[] 65)).heap.size := by
  have e : (w5.alloc (.cells #[.slice a5 L1.length c5] 41)).heap.size = w5.heap.size + 1 := by simp
  have h1 := own_new (w5.alloc (.cells #[.slice a5 L1.length c5] 41)) 65 #[] 0 5 rfl (by omega)
  rw [e] at h1
  have hb35 : Below w3.heap.size w3 w5 := ((Below.refl _ _).alloc (Nat.le_refl _) _).trans hb5
  have hb57 : Below w5.heap.size w5 ((w5.alloc (.cells #[.slice a5 L1.length c5] 41)).alloc (.cells #[] 65)) := ((Below.refl _ _).alloc (Nat.le_refl _) _).alloc (by simp) _
  exact ⟨hide h1, hide ((hi.later hb35).later hb57), by simp⟩

set_option maxRecDepth 100000 in
set_option maxHeartbeats 4000000 in
theorem splitRopeS {w : World} {a : Option Addr} {cap : Nat} {l : List Bg} (n : Int) (h : RIn w a cap l) :
    Calls Tryd.prog 19 #[.agg #[.slice a l.length cap], .int .i64 n] w (Rp2Post w (spL1 l n) (spL2 l n) (spOk l n)) := by
  obtain ⟨w1, hw1⟩ : ∃ w1, w1 = ((w.alloc (.cells #[.slice a l.length cap] 41)).alloc (.cells #[.slice none 0 0] 41)).alloc (.cells #[.slice none 0 0] 41) := ⟨_, rfl⟩
  obtain ⟨hs1, hb1, hc0, hc1, hc2⟩ := boxes3 w (.slice a l.length cap) (.slice none 0 0) (.slice none 0 0)
  rw [← hw1] at hs1 hb1 hc0 hc1 hc2
  have G1 := hide (goodRopeS (h.later hb1))
  have HB1 := hide hb1
  have HC0 := hide hc0
  have HC1 := hide hc1
  have HC2 := hide hc2
  unfold Rp2Post
  have HN : Hid (spOk l n = false → spL1 l n = [] ∧ spL2 l n = []) := hide (fun c => by unfold spL1 spL2; rw [c]; exact ⟨rfl, rfl⟩)
  have HY : Hid (spOk l n = true → spL1 l n = bo (splO (rtO l) n.toNat).1 ∧ spL2 l n = bo (splO (rtO l) n.toNat).2) := hide (fun c => by unfold spL1 spL2; rw [c]; exact ⟨rfl, rfl⟩)
  have HD : Hid (spOk l n = (rtB l && (decide (0 ≤ n) && decide (n ≤ (szO (rtO l) : Int))))) := hide rfl
  have ok1 := rt_ok l
  have hll := h.len
  have hcl := h.inn.le
  have hcm := h.inn.mx
  unfold maxLen at hcm
  obtain ⟨L1, hL1⟩ : ∃ L, spL1 l n = L := ⟨_, rfl⟩
  obtain ⟨L2, hL2⟩ : ∃ L, spL2 l n = L := ⟨_, rfl⟩
  obtain ⟨bb, hbb⟩ : ∃ bb, spOk l n = bb := ⟨_, rfl⟩
  rw [hL1, hL2, hbb] at HN HY ⊢
  rw [hbb] at HD
  cases hq : rtB l with
  | false =>
    rw [hq] at G1 HD
    obtain rfl : bb = false := HD.out
    obtain ⟨rfl, rfl⟩ := HN.out (by first | rfl | trivial)
    clear HN HY HD hL1 hL2 hbb hq h hb1 hc0 hc1 hc2
    go_enter Tryd.func19, Tryd.ntmps19
    go_wp2_with fail
    rw [← hw1]
    clear hw1
    refine G1.out.mono ?_
    rintro e w2 ⟨rfl, hb2⟩
    have HB2 : Hid (Below w.heap.size w w2) := hide (HB1.out.trans (hb2.mono HB1.out.size))
    have HA2 := hide (HC1.out.later hb2)
    have HZ2 := hide (HC2.out.later hb2)
    have q1 := HA2.out.cell
    have q2 := HA2.out.fz
    have q3 := HZ2.out.cell
    have q4 := HZ2.out.fz
    clear hb2
    go_wp2
    refine bodyPost_ret (results_cells_tmp rfl _ _ (w.heap.size + 1) (w.heap.size + 1 + 1) 41 41 _ _ (0, 0) (0, 0) _ (.bool false) rfl rfl rfl ((HA2.out.put _).other (by omega) _) ((HZ2.out.other (by omega) _).put _) Tryd.underlying41 rfl Tryd.sizeRope Tryd.sizeRope) rfl ?_
    exact ⟨_, _, rfl, World.ownsRow_nil _ _ _ _, World.ownsRow_nil _ _ _ _, (fun y z h => by cases h), (HB2.out.setCell (by show w.heap.size ≤ w.heap.size + 1; omega) _).setCell (by show w.heap.size ≤ w.heap.size + 1 + 1; omega) _⟩
  | true =>
    have e1 := rt_bo hq
    rw [hq] at G1 HD
    rw [Bool.true_and] at HD
    obtain ⟨o, ho⟩ : ∃ o, rtO l = o := ⟨_, rfl⟩
    rw [ho] at ok1 HY HD e1
    have hln : (bo o).length ≤ 200 := by rw [bo_len]; exact ok1.2.1
    have SZ := hide (fun w' (hb : Below w.heap.size w w') => l12Size_any (h.inn.later hb) (by omega))
    rw [show lastZ l = (szO o : Int) by rw [e1]; exact lastZ_bo o] at SZ
    have IN : Hid (∀ w', Calls Tryd.prog 55 #[.int .i64 n, .int .i64 0, .int .i64 (szO o : Int)] w' fun e w'' => e = .returned (.bool (decide ((0 : Int) ≤ n ∧ n ≤ (szO o : Int)))) ∧ w'' = w') := hide (fun w' => l1In_any _ _ _ w')
    have hoz := ok1.2.2
    by_cases hin : (0 : Int) ≤ n ∧ n ≤ (szO o : Int)
    · obtain ⟨k, rfl⟩ : ∃ k : Nat, n = (k : Int) := ⟨n.toNat, by omega⟩
      rw [decide_eq_true hin] at IN
      obtain rfl : bb = true := by have := HD.out; rw [decide_eq_true hin.1, decide_eq_true hin.2] at this; exact this
      obtain ⟨E1, E2⟩ := HY.out (by first | rfl | trivial)
      rw [Int.toNat_natCast] at E1 E2
      have SP := hide (fun w' (hb : Below w.heap.size w w') => l12Split_opt o k a cap w' (e1 ▸ h.inn.later hb) (by omega) ok1.1 ok1.2.1 ok1.2.2)
      unfold SqPost at SP
      have so := splO_ok o k (by omega) ok1.2.2 ok1.2.1
      have hL1l : L1.length ≤ 1000 := by rw [E1, bo_len]; omega
      have hL2l : L2.length ≤ 1000 := by rw [E2, bo_len]; omega
      simp only [← E1, ← E2] at SP
      rw [← e1] at SP
      have hl2 : l.length ≤ 200 := by rw [e1]; exact hln
      clear HN HY HD hL1 hL2 hbb hq h hb1 hc0 hc1 hc2 E1 E2 so e1 ho ok1 hln
      go_enter Tryd.func19, Tryd.ntmps19
      go_wp2_with fail
      rw [← hw1]
      clear hw1
      refine G1.out.mono ?_
      rintro e w2 ⟨rfl, hb2⟩
      have HB2 : Hid (Below w.heap.size w w2) := hide (HB1.out.trans (hb2.mono HB1.out.size))
      have HX2 := hide (HC0.out.later hb2)
      have HA2 := hide (HC1.out.later hb2)
      have HZ2 := hide (HC2.out.later hb2)
      have c0 := HX2.out.cell
      have SZ1 := hide (SZ.out w2 HB2.out)
      have IN1 := hide (IN.out w2)
      have SP1 := hide (SP.out w2 HB2.out)
      have HLT : Hid (w.heap.size + 1 < w2.heap.size) := hide HA2.out.lt
      have HLZ : Hid (w.heap.size + 1 + 1 < w2.heap.size) := hide HZ2.out.lt
      clear hb2 HC0 HC1 HC2 HB1 G1 SZ IN SP
      go_wp2_with (first
        | (go_at_call 67; refine SZ1.out.mono ?_; rintro e w9 ⟨rfl, hw'⟩; replace hw' := hw'.symm; subst hw')
        | (go_at_call 55; refine IN1.out.mono ?_; rintro e w9 ⟨rfl, hw'⟩; replace hw' := hw'.symm; subst hw'))
      refine SP1.out.mono ?_
      rintro e w3 ⟨a3, c3, a4, c4, rfl, hi3, hi4, hb3⟩
      have HB3 : Hid (Below w.heap.size w w3) := hide (HB2.out.trans (hb3.mono HB2.out.size))
      have HA3 := hide (HA2.out.later hb3)
      have HZ3 := hide (HZ2.out.later hb3)
      have hb34 : Below w3.heap.size w3 (w3.alloc (.cells #[] 65)) := (Below.refl _ _).alloc (Nat.le_refl _) _
      have HI4 := hide (hi3.later hb34)
      have HJ4 := hide (hi4.later hb34)
      have HO4 := hide (own_new w3 65 #[] 0 5 rfl (by omega))
      have hs4 : w3.heap.size ≤ (w3.alloc (.cells #[] 65)).heap.size := hb34.size
      have HS3 := hide HB3.out.size
      have HA4 := hide (HA3.out.later hb34)
      have HZ4 := hide (HZ3.out.later hb34)
      have HJ3 := hide hi4
      have HS23 := hide hb3.size
      have HB4 : Hid (Below w.heap.size w (w3.alloc (.cells #[] 65))) := hide (HB3.out.trans (hb34.mono HB3.out.size))
      clear hb3 hi3 hi4 hb34 SZ1 IN1 SP1 HA2 HZ2 HX2 c0
      go_wp2_with (first
        | (at_builtin; go_loud (refine append_copy _ rfl _ _ rfl (w5.heap.size + 1) ⟨w5.heap.size + 1, 0, none⟩ HO7.out a4 c4 L2 (by omega) rfl rfl HI7.out hs7 ?_); intro v8 w8 own8 hb8; obtain ⟨a8, c8, rfl, -⟩ := own_shp own8; have HO8 := hide own8; have HB8 := hide hb8; clear own8 hb8)
        | (at_builtin; go_loud ((refine append_copy _ rfl _ _ rfl w3.heap.size ⟨w3.heap.size, 0, none⟩ HO4.out a3 c3 L1 (by omega) rfl rfl HI4.out hs4 ?_); intro v5 w5 own5 hb5; obtain ⟨a5, c5, rfl, -⟩ := own_shp own5; have HO5 := hide own5; have HB5 := hide hb5; obtain ⟨HO7, HI7, hs7⟩ := spl_mid (L1 := L1) a5 c5 HJ3.out hb5; clear own5 hb5)))
      have hb35 : Below w3.heap.size w3 w5 := ((Below.refl _ _).alloc (Nat.le_refl _) _).trans HB5.out
      have hb57 : Below w5.heap.size w5 ((w5.alloc (.cells #[.slice a5 L1.length c5] 41)).alloc (.cells #[] 65)) := ((Below.refl _ _).alloc (Nat.le_refl _) _).alloc (by simp) _
      have hb58 : Below w5.heap.size w5 w8 := hb57.trans (HB8.out.mono (Nat.le_succ _))
      have hb38 : Below w3.heap.size w3 w8 := hb35.trans (hb58.mono hb35.size)
      have cr7 : CellR ((w5.alloc (.cells #[.slice a5 L1.length c5] 41)).alloc (.cells #[] 65)) w5.heap.size (.slice a5 L1.length c5) := (CellR.new w5 _).later ((Below.refl _ _).alloc (Nat.le_refl _) _)
      have cr8 : CellR w8 w5.heap.size (.slice a5 L1.length c5) := by
        unfold CellR at cr7 ⊢
        rw [HB8.out.block _ (by omega)]
        exact cr7
      obtain ⟨w9, hw9⟩ : ∃ w9, w9 = w8.alloc (.cells #[.slice a8 L2.length c8] 41) := ⟨_, rfl⟩
      have hb89 : Below w8.heap.size w8 w9 := by rw [hw9]; exact (Below.refl _ _).alloc (Nat.le_refl _) _
      have hx9 : CellR w9 w8.heap.size (.slice a8 L2.length c8) := by rw [hw9]; exact CellR.new w8 _
      have hb39 : Below w3.heap.size w3 w9 := hb38.trans (hb89.mono hb38.size)
      have HB9 : Hid (Below w.heap.size w w9) := hide (HB3.out.trans (hb39.mono HB3.out.size))
      have HA9 := hide (HA3.out.later hb39)
      have HZ9 := hide (HZ3.out.later hb39)
      have HX9 := hide (cr8.later hb89)
      have HO9a := hide (own_below (own_below HO5.out hb58) hb89)
      have HP9a := hide (own_below HO8.out hb89)
      have HS58 := hide hb58.size
      have HS35 := hide hb35.size
      have p1 := HX9.out.cell
      have p2 := hx9.cell
      have q1 := HA9.out.cell
      have q2 := HA9.out.fz
      have q3 := HZ9.out.cell
      have q4 := HZ9.out.fz
      have HDIS : Hid (∀ y z, (Value.slice a5 L1.length c5).ownBlock = some y → (Value.slice a8 L2.length c8).ownBlock = some z → y ≠ z) := hide (fun y z hy hz => by have h1 := BoOwn.lt HO5.out y hy; have h2 := (World.ownsRow.lt HO8.out z hz).1; omega)
      have nn : w.heap.size + 1 + 1 < w5.heap.size ∧ w.heap.size + 1 + 1 < w8.heap.size := by
        have := HLZ.out; have := HS23.out; have := HS35.out; have := HS58.out; omega
      have n1 : ¬ w.heap.size + 1 = w5.heap.size := by omega
      have n2 : ¬ w.heap.size + 1 + 1 = w5.heap.size := by omega
      have n3 : ¬ w.heap.size + 1 = w8.heap.size := by omega
      have n4 : ¬ w.heap.size + 1 + 1 = w8.heap.size := by omega
      have m1 : ¬ w5.heap.size = w.heap.size + 1 := by omega
      have m2 : ¬ w5.heap.size = w.heap.size + 1 + 1 := by omega
      have m3 : ¬ w8.heap.size = w.heap.size + 1 := by omega
      have m4 : ¬ w8.heap.size = w.heap.size + 1 + 1 := by omega
      have HO9 := hide (own_aside (own_aside HO9a.out (g := w.heap.size + 1) (by have := HLT.out; have := HS23.out; omega) 0 (.slice a5 L1.length c5)) (g := w.heap.size + 1 + 1) (by have := HLZ.out; have := HS23.out; omega) 0 (.slice a8 L2.length c8))
      have HP9 := hide (own_aside (own_aside HP9a.out (g := w.heap.size + 1) (by omega) 0 (.slice a5 L1.length c5)) (g := w.heap.size + 1 + 1) (by omega) 0 (.slice a8 L2.length c8))
      have HE9 : Hid (Below w.heap.size w ((w9.setCell ⟨w.heap.size + 1, 0, none⟩ (.slice a5 L1.length c5)).setCell ⟨w.heap.size + 1 + 1, 0, none⟩ (.slice a8 L2.length c8))) := hide ((HB9.out.setCell (by show w.heap.size ≤ w.heap.size + 1; omega) _).setCell (by show w.heap.size ≤ w.heap.size + 1 + 1; omega) _)
      have HS5 : Hid (w.heap.size ≤ w5.heap.size + 1) := hide (by omega)
      clear hb35 hb57 hb58 hb38 cr7 cr8 hb89 hx9 hb39 nn HO7 HI7 hs7 hs4
      rw [← hw9]
      clear hw9
      go_region
      go_wp2
      have r1 := ((HA9.out.put (.slice a5 L1.length c5)).other (d := w.heap.size + 1 + 1) (by omega) (.slice a8 L2.length c8))
      have r2 := ((HZ9.out.other (d := w.heap.size + 1) (by omega) (.slice a5 L1.length c5)).put (.slice a8 L2.length c8))
      refine bodyPost_ret (results_cells_tmp rfl _ _ (w.heap.size + 1) (w.heap.size + 1 + 1) 41 41 _ _ (0, 0) (0, 0) _ (.bool true) rfl rfl rfl r1 r2 Tryd.underlying41 rfl Tryd.sizeRope Tryd.sizeRope) rfl ?_
      exact ⟨_, _, rfl, own_mono (own_below HO9.out (Below.refl _ _).drew) HS3.out, own_mono (own_below HP9.out (Below.refl _ _).drew) HS5.out, HDIS.out, HE9.out.drew⟩
    · have hin2 : decide ((0 : Int) ≤ n ∧ n ≤ (szO o : Int)) = false := decide_eq_false hin
      rw [hin2] at IN
      obtain rfl : bb = false := by
        have := HD.out
        rw [this]
        by_cases c1 : 0 ≤ n
        · rw [decide_eq_false (fun c2 => hin ⟨c1, c2⟩), Bool.and_false]
        · rw [decide_eq_false c1, Bool.false_and]
      obtain ⟨rfl, rfl⟩ := HN.out (by first | rfl | trivial)
      clear HN HY HD hL1 hL2 hbb hq h hb1 hc0 hc1 hc2 hin hin2 e1 ho hln ok1
      go_enter Tryd.func19, Tryd.ntmps19
      go_wp2_with fail
      rw [← hw1]
      clear hw1
      refine G1.out.mono ?_
      rintro e w2 ⟨rfl, hb2⟩
      have HB2 : Hid (Below w.heap.size w w2) := hide (HB1.out.trans (hb2.mono HB1.out.size))
      have c0 := (HC0.out.later hb2).cell
      have HA2 := hide (HC1.out.later hb2)
      have HZ2 := hide (HC2.out.later hb2)
      have q1 := HA2.out.cell
      have q2 := HA2.out.fz
      have q3 := HZ2.out.cell
      have q4 := HZ2.out.fz
      have SZ1 := hide (SZ.out w2 HB2.out)
      have IN1 := hide (IN.out w2)
      clear hb2 SZ IN
      go_wp2_with (first
        | (go_at_call 67; refine SZ1.out.mono ?_; rintro e w9 ⟨rfl, hw'⟩; replace hw' := hw'.symm; subst hw')
        | (go_at_call 55; refine IN1.out.mono ?_; rintro e w9 ⟨rfl, hw'⟩; replace hw' := hw'.symm; subst hw'))
      refine bodyPost_ret (results_cells_tmp rfl _ _ (w.heap.size + 1) (w.heap.size + 1 + 1) 41 41 _ _ (0, 0) (0, 0) _ (.bool false) rfl rfl rfl ((HA2.out.put _).other (by omega) _) ((HZ2.out.other (by omega) _).put _) Tryd.underlying41 rfl Tryd.sizeRope Tryd.sizeRope) rfl ?_
      exact ⟨_, _, rfl, World.ownsRow_nil _ _ _ _, World.ownsRow_nil _ _ _ _, (fun y z h => by cases h), (HB2.out.setCell (by show w.heap.size ≤ w.heap.size + 1; omega) _).setCell (by show w.heap.size ≤ w.heap.size + 1 + 1; omega) _⟩
end Go.Proofs.YtgacajnljplmiabDoor
