/- Meetings of new clients in the laws; NewMeeting of both. -/
import Derived.Test.YtkjioadmebkaoaaDoorMt1
import Derived.Test.YtkjioadmebkaoaaDoorSrv4
import Derived.Deep.RegionLaw
import Derived.Deep.AppendLies
set_option linter.unusedVariables false
namespace Go.Proofs.YtkjioadmebkaoaaDoor
open Go.RowKit
open Doc1

set_option maxRecDepth 100000 in
set_option maxHeartbeats 8000000 in
theorem heldNS {K lo hi : Nat} {w : World} {v : Value} {n : Nat} (h : NK K lo hi w v n) (hn : n ≤ 1000) (hK : 0 < K ∧ K ≤ 100000000) :
    Calls Tryd.prog 125 #[v, .int .i64 (K : Int)] w fun e w' => e = .returned (.int .i64 (K + 6 * n : Nat)) ∧ Below w.heap.size w w' := by
  rcases h with ⟨rfl, a, c, rfl⟩ | ⟨g, cap, rfl, h0, a1, a2, hlo, hhi, a3⟩
  · rw [Nat.mul_zero, Nat.add_zero]
    go_enter Tryd.func125, Tryd.ntmps125
    go_wp2
    go_loop [1, 5] (fun k i => k = .int .i64 (K : Int) ∧ i = .int .i64 0) (fun _ _ => 0)
    case atStart => exact ⟨rfl, rfl⟩
    case round =>
      obtain ⟨rfl, rfl⟩ := hrel
      go_wp2
      go_ret
      exact ⟨rfl, Below.refl _ _⟩
  · have T : Hid (∀ (K : Nat) w, 0 < K → K ≤ 1000000000 → Calls Tryd.prog 171 #[.int .i64 (K : Int)] w fun e w' => e = .returned (.string (mkT K)) ∧ Below w.heap.size w w') := hide (fun K w h1 h2 => markText_any K w h1 h2)
    have M0 := hide (fun (k : Int) (w : World) => heldPartS_z none 0 k w)
    have H0 := hide a3
    clear a3
    go_enter Tryd.func125, Tryd.ntmps125
    go_wp2
    go_loopw [1, 5] (fun k1 i wr => ∃ k : Nat, k ≤ n ∧ i = .int .i64 k ∧ k1 = .int .i64 (K + 6 * k : Nat) ∧ Below w.heap.size w wr) (fun _ i _ => n - (intOf i).toNat)
    case atStart => exact ⟨0, by omega, rfl, rfl, Below.refl _ _⟩
    case round =>
      obtain ⟨k, hk, rfl, rfl, hbel⟩ := hrel
      by_cases hlt : k < n
      · obtain ⟨X, hX⟩ : ∃ X : Nat, X = K + 6 * k := ⟨_, rfl⟩
        rw [← hX]
        have hXm : X ≤ 200000000 ∧ 0 < X := by omega
        obtain ⟨m0, m1, m2, m3, m4, m5, m6, m7⟩ := mkq_at K k hX
        obtain ⟨b4, hb4⟩ : ∃ b, decide ((X + 4) % 3 = 0) = b := ⟨_, rfl⟩
        obtain ⟨b7, hb7⟩ : ∃ b, decide ((X + 5) % 3 = 0) = b := ⟨_, rfl⟩
        have i4 : ((((X : Int) + 1 + 1 + 1 + 1) % 3) == 0) = b4 := by rw [← hb4]; apply Bool.eq_iff_iff.2; rw [beq_iff_eq, decide_eq_true_eq]; omega
        have i7 : ((((X : Int) + 1 + 1 + 1 + 1 + 1) % 3) == 0) = b7 := by rw [← hb7]; apply Bool.eq_iff_iff.2; rw [beq_iff_eq, decide_eq_true_eq]; omega
        have n4 : (b4 != b4) = false := by simp
        have n7 : (b7 != b7) = false := by simp
        have d5 : decide ((X : Int) + 1 + 1 + 1 + 1 + 1 < 0) = false := by rw [decide_eq_false_iff_not]; omega
        rw [hb4] at m4
        rw [hb7] at m7
        rw [show ((X + 2 : Nat) : Int) = (X : Int) + 1 + 1 by omega] at m2
        rw [show ((X + 3 : Nat) : Int) = (X : Int) + 1 + 1 + 1 by omega] at m3
        have C : Hid (∀ wx, Below w.heap.size w wx → wx.cell? ⟨g, k * 8, none⟩ = some (.int .i64 (X : Int)) ∧ wx.cell? ⟨g, k * 8 + 1, none⟩ = some (.string (mkT (X + 1))) ∧ wx.cell? ⟨g, k * 8 + 2, none⟩ = some (.int .i64 ((X : Int) + 1 + 1)) ∧ wx.cell? ⟨g, k * 8 + 3, none⟩ = some (.int .i64 ((X : Int) + 1 + 1 + 1)) ∧ wx.cell? ⟨g, k * 8 + 4, none⟩ = some (.bool b4) ∧ wx.cell? ⟨g, k * 8 + 5, none⟩ = some (.slice none 0 0) ∧ wx.cell? ⟨g, k * 8 + 6, none⟩ = some (.slice none 0 0) ∧ wx.cell? ⟨g, k * 8 + 7, none⟩ = some (.bool b7)) := hide (fun wx hx => by
          have h := H0.out.later hx
          exact ⟨by rw [h.c _ (by omega), m0], by rw [h.c _ (by omega), m1], by rw [h.c _ (by omega), m2], by rw [h.c _ (by omega), m3], by rw [h.c _ (by omega), m4], by rw [h.c _ (by omega), m5], by rw [h.c _ (by omega), m6], by rw [h.c _ (by omega), m7]⟩)
        have HX := hide hX
        obtain ⟨c0, c1, -⟩ := C.out wr hbel
        have T1 := hide (fun w => T.out (X + 1) w (by omega) (by omega))
        clear hX hb4 hb7 m0 m1 m2 m3 m4 m5 m6 m7
        go_wp2_with fail
        go_region_with (go_at_call 171; refine (T1.out _).mono ?_; rintro e w1 ⟨rfl, hb1⟩; have hB1 := hbel.trans ((Below.refl _ _).drew.trans (hb1.mono (show w.heap.size ≤ wr.drew.heap.size from hbel.size))); obtain ⟨d0, d1, d2, d3, d4, d5', d6, d7⟩ := C.out w1 hB1)
        all_goals
          (try clear c0)
          (try clear c1)
          clear hb1 hbel T1
          go_wp2_with (go_at_call 174; refine (M0.out _ _).mono ?_; rintro e w' ⟨rfl, hw⟩; replace hw := hw.symm; subst hw)
          refine ⟨⟨k + 1, by omega, by go_num, by rw [HX.out]; congr 1 <;> omega, hB1⟩, by simp [intOf]; omega⟩
      · obtain rfl : k = n := by omega
        go_wp2
        go_ret
        exact ⟨rfl, hbel⟩

set_option maxRecDepth 100000 in
set_option maxHeartbeats 2000000 in
theorem eqMt {lo hi lo' hi' : Nat} {w : World} {s t : ByteArray} {ax ay : Option Addr} {cx cy : Nat} {va vb : Value} {n : Nat} (ha : NR lo hi w va s n) (hb : NR lo' hi' w vb s n) (hn : n ≤ 1000) :
    Calls Tryd.prog 48 #[.agg #[.string t, .string t, .slice ax 0 cx, va], .agg #[.string t, .string t, .slice ay 0 cy, vb]] w fun e w' => e = .returned (.bool true) ∧ Below w.heap.size w w' := by
  obtain ⟨a1, c1, e1⟩ := ha.shp
  obtain ⟨a2, c2, e2⟩ := hb.shp
  subst e1 e2
  obtain ⟨w1, hw1⟩ : ∃ w1, w1 = (w.alloc (.cells #[.string t, .string t, .slice ax 0 cx, .slice a1 n c1] 82)).alloc (.cells #[.string t, .string t, .slice ay 0 cy, .slice a2 n c2] 82) := ⟨_, rfl⟩
  obtain ⟨k1, k2, k3, k4⟩ := cb_two w #[.string t, .string t, .slice ax 0 cx, .slice a1 n c1] #[.string t, .string t, .slice ay 0 cy, .slice a2 n c2] 82 82
  rw [← hw1] at k1 k2 k3 k4
  have H1 := hide (eqSX (w := w1) (s := t) (t := t) (l := []) (sx_nil 0 0 w1 ax cx) (sx_nil 0 0 w1 ay cy) ⟨by simp, fun i hi => by simp at hi⟩)
  have H2 : Hid (∀ w2, Below w1.heap.size w1 w2 → Calls Tryd.prog 121 #[.slice a1 n c1, .slice a2 n c2] w2 fun e w' => e = .returned (.bool true) ∧ Below w2.heap.size w2 w') := hide (fun w2 h2 => eqNS ((ha.later k3).later h2) ((hb.later k3).later h2) hn)
  have HK1 := hide k1
  have HK2 := hide k2
  have HB := hide k3
  have x0 : w1.cell? ⟨w.heap.size, 0, none⟩ = some (.string t) := k1.cell 0 rfl
  have x1 : w1.cell? ⟨w.heap.size, 1, none⟩ = some (.string t) := k1.cell 1 rfl
  have x2 : w1.cell? ⟨w.heap.size, 2, none⟩ = some (.slice ax 0 cx) := k1.cell 2 rfl
  have z0 : w1.cell? ⟨w.heap.size + 1, 0, none⟩ = some (.string t) := k2.cell 0 rfl
  have z1 : w1.cell? ⟨w.heap.size + 1, 1, none⟩ = some (.string t) := k2.cell 1 rfl
  have z2 : w1.cell? ⟨w.heap.size + 1, 2, none⟩ = some (.slice ay 0 cy) := k2.cell 2 rfl
  rw [hw1] at x0 x1 x2 z0 z1 z2
  clear ha hb k1 k2 k3
  go_enter Tryd.func48, Tryd.ntmps48
  go_wp2_with fail
  rw [← hw1]
  clear hw1 x0 x1 x2 z0 z1 z2
  refine H1.out.mono ?_
  rintro e w2 ⟨rfl, hb2⟩
  have q1 : w2.cell? ⟨w.heap.size, 3, none⟩ = some (.slice a1 n c1) := (HK1.out.later hb2).cell 3 rfl
  have q2 : w2.cell? ⟨w.heap.size + 1, 3, none⟩ = some (.slice a2 n c2) := (HK2.out.later hb2).cell 3 rfl
  have H3 := hide (H2.out w2 hb2)
  have HB2 := hide (HB.out.trans (hb2.mono HB.out.size))
  clear hb2 H2 HK1 HK2
  go_wp2_with fail
  refine H3.out.mono ?_
  rintro e w3 ⟨rfl, hb3⟩
  have HB3 := hide (HB2.out.trans (hb3.mono HB2.out.size))
  clear hb3 q1 q2
  go_wp2
  go_ret
  exact ⟨rfl, HB3.out⟩

set_option maxRecDepth 100000 in
set_option maxHeartbeats 2000000 in
theorem markMt {lo hi : Nat} {w : World} {s t : ByteArray} {ax : Option Addr} {cx : Nat} {va : Value} {n : Nat} (ha : NR lo hi w va s n) (hw : hi ≤ w.heap.size) (hn : n ≤ 1000) (K : Nat) (hK : 0 < K ∧ K ≤ 100000000) :
    Calls Tryd.prog 49 #[.agg #[.string t, .string t, .slice ax 0 cx, va], .int .i64 (K : Int)] w fun e w' => e = .returned (.int .i64 (K + 6 * n : Nat)) ∧ Out (Iv lo hi) w w' ∧ NK K lo hi w' va n := by
  obtain ⟨a1, c1, e1⟩ := ha.shp
  subst e1
  obtain ⟨w1, hw1⟩ : ∃ w1, w1 = w.alloc (.cells #[.string t, .string t, .slice ax 0 cx, .slice a1 n c1] 82) := ⟨_, rfl⟩
  have k1 : CB w1 w.heap.size #[.string t, .string t, .slice ax 0 cx, .slice a1 n c1] := by rw [hw1]; exact CB.new _ _ _
  have k3 : Below w.heap.size w w1 := by rw [hw1]; exact (Below.refl _ _).alloc (Nat.le_refl _) _
  have H1 := hide (markSX (w := w1) (s := t) (t := t) (l := []) (sx_nil w1.heap.size w1.heap.size w1 ax cx) ⟨by simp, fun i hi => by simp at hi⟩ K ⟨hK.1, by show K + 0 ≤ _; omega⟩)
  have H2 : Hid (∀ w2, Below w1.heap.size w1 w2 → Calls Tryd.prog 123 #[.slice a1 n c1, .int .i64 (K : Int)] w2 fun e w' => e = .returned (.int .i64 (K + 6 * n : Nat)) ∧ Out (Iv lo hi) w2 w' ∧ NK K lo hi w' (.slice a1 n c1) n) := hide (fun w2 h2 => markNS ((ha.later k3).later h2) hn K hK)
  rw [show K + mkNE [] = K from rfl] at H1
  have HK1 := hide k1
  have HB := hide k3
  have x0 : w1.cell? ⟨w.heap.size, 0, none⟩ = some (.string t) := k1.cell 0 rfl
  have x1 : w1.cell? ⟨w.heap.size, 1, none⟩ = some (.string t) := k1.cell 1 rfl
  have x2 : w1.cell? ⟨w.heap.size, 2, none⟩ = some (.slice ax 0 cx) := k1.cell 2 rfl
  rw [hw1] at x0 x1 x2
  obtain ⟨Y, hY⟩ : ∃ Y : Nat, K + 6 * n = Y := ⟨_, rfl⟩
  simp only [hY] at H2 ⊢
  clear ha k1 k3 hY
  go_enter Tryd.func49, Tryd.ntmps49
  go_wp2_with fail
  rw [← hw1]
  clear hw1 x0 x1 x2
  refine H1.out.mono ?_
  rintro e w2 ⟨rfl, ho2, -⟩
  have hb2 : Below w1.heap.size w1 w2 := ho2.to (fun k hk => hk.1) (Nat.le_refl _)
  have q1 : w2.cell? ⟨w.heap.size, 3, none⟩ = some (.slice a1 n c1) := (HK1.out.later hb2).cell 3 rfl
  have H3 := hide (H2.out w2 hb2)
  have HB2 := hide (HB.out.trans (hb2.mono HB.out.size))
  clear hb2 ho2 H2 HK1
  go_wp2_with fail
  refine H3.out.mono ?_
  rintro e w3 ⟨rfl, ho3, hk3⟩
  have HO := hide ((Out.below (S := Iv lo hi) HB2.out).trans ho3)
  have HK := hide hk3
  clear ho3 hk3 q1
  go_wp2
  go_ret
  exact ⟨rfl, HO.out, HK.out⟩

set_option maxRecDepth 100000 in
set_option maxHeartbeats 2000000 in
theorem heldMt {K lo hi : Nat} {w : World} {t : ByteArray} {ax : Option Addr} {cx : Nat} {va : Value} {n : Nat} (ha : NK K lo hi w va n) (hn : n ≤ 1000) (hK : 0 < K ∧ K ≤ 100000000) :
    Calls Tryd.prog 50 #[.agg #[.string t, .string t, .slice ax 0 cx, va], .int .i64 (K : Int)] w fun e w' => e = .returned (.int .i64 (K + 6 * n : Nat)) ∧ Below w.heap.size w w' := by
  obtain ⟨a1, c1, e1⟩ := ha.shp
  subst e1
  obtain ⟨w1, hw1⟩ : ∃ w1, w1 = w.alloc (.cells #[.string t, .string t, .slice ax 0 cx, .slice a1 n c1] 82) := ⟨_, rfl⟩
  have k1 : CB w1 w.heap.size #[.string t, .string t, .slice ax 0 cx, .slice a1 n c1] := by rw [hw1]; exact CB.new _ _ _
  have k3 : Below w.heap.size w w1 := by rw [hw1]; exact (Below.refl _ _).alloc (Nat.le_refl _) _
  have H1 := hide (heldSX (w := w1) (s := t) (t := t) (l := []) (K := K) (lo := 0) (hi := 0) ⟨fun _ => False, .inl ⟨rfl, ax, cx, rfl⟩, fun _ h => h.elim⟩ ⟨by simp, fun i hi => by simp at hi⟩ ⟨hK.1, by show K + 0 ≤ _; omega⟩)
  have H2 : Hid (∀ w2, Below w1.heap.size w1 w2 → Calls Tryd.prog 125 #[.slice a1 n c1, .int .i64 (K : Int)] w2 fun e w' => e = .returned (.int .i64 (K + 6 * n : Nat)) ∧ Below w2.heap.size w2 w') := hide (fun w2 h2 => heldNS ((ha.later k3).later h2) hn hK)
  rw [show K + mkNE [] = K from rfl] at H1
  have HK1 := hide k1
  have HB := hide k3
  have x0 : w1.cell? ⟨w.heap.size, 0, none⟩ = some (.string t) := k1.cell 0 rfl
  have x1 : w1.cell? ⟨w.heap.size, 1, none⟩ = some (.string t) := k1.cell 1 rfl
  have x2 : w1.cell? ⟨w.heap.size, 2, none⟩ = some (.slice ax 0 cx) := k1.cell 2 rfl
  rw [hw1] at x0 x1 x2
  have d1 : decide ((K : Int) < 0) = false := by rw [decide_eq_false_iff_not]; omega
  obtain ⟨Y, hY⟩ : ∃ Y : Int, ((K + 6 * n : Nat) : Int) = Y := ⟨_, rfl⟩
  have d2 : decide (Y < 0) = false := by rw [decide_eq_false_iff_not]; omega
  simp only [hY] at H2 ⊢
  clear ha k1 k3 hY
  go_enter Tryd.func50, Tryd.ntmps50
  go_wp2_with fail
  rw [← hw1]
  clear hw1 x0 x1 x2
  refine H1.out.mono ?_
  rintro e w2 ⟨rfl, hb2⟩
  have q1 : w2.cell? ⟨w.heap.size, 3, none⟩ = some (.slice a1 n c1) := (HK1.out.later hb2).cell 3 rfl
  have H3 := hide (H2.out w2 hb2)
  have HB2 := hide (HB.out.trans (hb2.mono HB.out.size))
  clear hb2 H2 HK1
  go_wp2_with fail
  refine H3.out.mono ?_
  rintro e w3 ⟨rfl, hb3⟩
  have HB3 := hide (HB2.out.trans (hb3.mono HB2.out.size))
  clear hb3 q1
  go_wp2
  go_ret
  exact ⟨rfl, HB3.out⟩
end Go.Proofs.YtkjioadmebkaoaaDoor
