/- Rows of parts are marked from any number on, and held so. Rows of parts are marked, from any number on. -/
import Derived.Test.YtmjehpigfkobeabDoorRowsPart
import Derived.Test.YtmjehpigfkobeabDoorWBk
set_option linter.unusedVariables false
namespace Go.Proofs.YtmjehpigfkobeabDoor
open Go.RowKit
open Doc1

/-- The mark at a place, from K on. -/
def mkp (K j : Nat) : Value := if j % 3 = 0 then .int .i64 ((K + j : Nat) : Int) else .string (mkT (K + j))
theorem mkp_i {K j : Nat} {x : Int} (h : j % 3 = 0) (hx : x = ((K + j : Nat) : Int)) : mkp K j = .int .i64 x := by unfold mkp; rw [if_pos h, hx]
theorem mkp_s {K j x : Nat} (h : j % 3 ≠ 0) (hx : x = K + j) : mkp K j = .string (mkT x) := by unfold mkp; rw [if_neg h, hx]
/-- The first of a block are marked. -/
def MkAp (K : Nat) (w : World) (g m : Nat) : Prop := ∀ j, j < m → w.cell? ⟨g, j, none⟩ = some (mkp K j)
theorem MkAp.later {K : Nat} {w w1 : World} {B g m : Nat} (h : MkAp K w g m) (hb : Below B w w1) (hg : g < B) : MkAp K w1 g m := fun j hj => (World.cell?_of_block (hb.block g hg)).trans (h j hj)
structure WKp (K : Nat) (w : World) (g n m : Nat) (wr : World) : Prop where
  wb : WB w g n wr
  c : MkAp K wr g m
theorem WKp.below {K : Nat} {w wr w1 : World} {g n m : Nat} (h : WKp K w g n m wr) (hb : Below wr.heap.size wr w1) : WKp K w g n m w1 :=
  ⟨h.wb.below hb, h.c.later hb (Nat.lt_of_lt_of_le h.wb.lt h.wb.grown.size)⟩
theorem WKp.put {K : Nat} {w wr : World} {g n m : Nat} (h : WKp K w g n m wr) (hm : m < n) (v : Value) (hv : mkp K m = v) : WKp K w g n (m + 1) (wr.setCell ⟨g, m, none⟩ v) :=
  ⟨h.wb.put m v, fun j hj => by
    obtain ⟨y, hy⟩ := h.wb.blk.ex m hm
    by_cases e : j = m
    · subst e; rw [hv]; exact World.cell?_setCell_same _ _ _ hy
    · rw [World.cell?_setCell_other _ _ _ _ (fun c => e (Addr.mk.inj c).2.1.symm)]; exact h.c j (by omega)⟩
theorem wkp_start (K : Nat) {w : World} {g n : Nat} (hb : Blk w g n) (hg : g < w.heap.size) : WKp K w g n (0 * 3) w := ⟨wb_start hb hg, fun j hj => by omega⟩

set_option maxHeartbeats 4000000 in
theorem markPartS_k (g c n K : Nat) (w : World) (hm : n ≤ 10000000) (hK : 0 < K ∧ K ≤ 500000000) (_h1 : n ≤ c ∧ c ≤ maxLen) (hg : g < w.heap.size) (hb : Blk w g (n * 3)) :
    Calls Tryd.prog 31 #[.slice (some ⟨g, 0, none⟩) n c, .int .i64 (K : Int)] w fun e w' => e = .returned (.int .i64 (K + n * 3 : Nat)) ∧ w.grownBy w' (some g) ∧ MkAp K w' g (n * 3) := by
  have T : Hid (∀ (K : Nat) w, 0 < K → K ≤ 1000000000 → Calls Tryd.prog 62 #[.int .i64 (K : Int)] w fun e w' => e = .returned (.string (mkT K)) ∧ Below w.heap.size w w') := hide (fun K w h1 h2 => markText_any K w h1 h2)
  go_enter Tryd.func31, Tryd.ntmps31
  go_wp2
  go_loopw [1, 5] (fun k1 i wr => ∃ k : Nat, k ≤ n ∧ i = .int .i64 k ∧ k1 = .int .i64 (K + k * 3 : Nat) ∧ Hid (WKp K w g (n * 3) (k * 3) wr)) (fun _ i _ => n - (intOf i).toNat)
  case atStart => exact ⟨0, by omega, rfl, rfl, hide (wkp_start K hb hg)⟩
  case round =>
    obtain ⟨k, hk, rfl, rfl, R0⟩ := hrel
    by_cases hlt : k < n
    · clear hb
      have r0 := R0.out
      obtain ⟨y0, hy0⟩ := r0.wb.blk.ex (k * 3) (by omega)
      have f0 := r0.wb.blk.fz (k * 3)
      have R1 := hide (r0.put (by omega) (.int .i64 ((K : Int) + (k : Int) * 3)) (mkp_i (by omega) (by omega)))
      clear r0
      have r1 := R1.out
      obtain ⟨W1, hW1⟩ : ∃ W, W = (wr.setCell ⟨g, k * 3, none⟩ (.int .i64 ((K : Int) + (k : Int) * 3))) := ⟨_, rfl⟩
      rw [← hW1] at R1
      clear r1
      go_wp2_with fail
      rw [← hW1]
      clear hW1 hy0 f0
      go_wp2_with fail
      refine (T.out (K + k * 3 + 1) W1 (by omega) (by omega)).mono ?_
      rintro e x1 ⟨rfl, hb1⟩
      have r1 := R1.out.below hb1
      obtain ⟨y1, hy1⟩ := r1.wb.blk.ex (k * 3 + 1) (by omega)
      have f1 := r1.wb.blk.fz (k * 3 + 1)
      have R2 := hide (r1.put (by omega) (.string (mkT (K + k * 3 + 1))) (mkp_s (by omega) (by omega)))
      clear r1 hb1
      have r2 := R2.out
      obtain ⟨W2, hW2⟩ : ∃ W, W = (x1.setCell ⟨g, k * 3 + 1, none⟩ (.string (mkT (K + k * 3 + 1)))) := ⟨_, rfl⟩
      rw [← hW2] at R2
      clear r2
      go_wp2_with fail
      rw [← hW2]
      clear hW2 hy1 f1
      go_wp2_with fail
      refine (T.out (K + k * 3 + 2) W2 (by omega) (by omega)).mono ?_
      rintro e x2 ⟨rfl, hb2⟩
      have r2 := R2.out.below hb2
      obtain ⟨y2, hy2⟩ := r2.wb.blk.ex (k * 3 + 2) (by omega)
      have f2 := r2.wb.blk.fz (k * 3 + 2)
      have R3 := hide (r2.put (by omega) (.string (mkT (K + k * 3 + 2))) (mkp_s (by omega) (by omega)))
      clear r2 hb2
      obtain ⟨WZ, hWZ⟩ : ∃ W, W = (x2.setCell ⟨g, k * 3 + 2, none⟩ (.string (mkT (K + k * 3 + 2)))) := ⟨_, rfl⟩
      rw [← hWZ] at R3
      go_wp2
      rw [← hWZ]
      refine ⟨⟨k + 1, by omega, by go_num, by rw [show (K : Int) + ↑k * 3 + 1 + 1 + 1 = ((K + (k + 1) * 3 : Nat) : Int) by omega], by rw [show (k + 1) * 3 = k * 3 + 2 + 1 by omega]; exact R3⟩, by simp [intOf]; omega⟩
    · obtain rfl : k = n := by omega
      go_wp2
      go_ret
      exact ⟨rfl, R0.out.wb.grown, R0.out.c⟩

set_option maxHeartbeats 4000000 in
theorem heldPartS_k (g c n K : Nat) (w : World) (hK : 0 < K ∧ K ≤ 500000000) (hm : n ≤ 10000000) (_h1 : n ≤ c ∧ c ≤ maxLen) (hg : g < w.heap.size) (hb : MkAp K w g (n * 3)) :
    Calls Tryd.prog 32 #[.slice (some ⟨g, 0, none⟩) n c, .int .i64 (K : Int)] w fun e w' => e = .returned (.int .i64 (K + n * 3 : Nat)) ∧ Below w.heap.size w w' := by
  have T : Hid (∀ (K : Nat) w, 0 < K → K ≤ 1000000000 → Calls Tryd.prog 62 #[.int .i64 (K : Int)] w fun e w' => e = .returned (.string (mkT K)) ∧ Below w.heap.size w w') := hide (fun K w h1 h2 => markText_any K w h1 h2)
  go_enter Tryd.func32, Tryd.ntmps32
  go_wp2
  go_loopw [1, 5] (fun k1 i wr => ∃ k : Nat, k ≤ n ∧ i = .int .i64 k ∧ k1 = .int .i64 (K + k * 3 : Nat) ∧ Below w.heap.size w wr) (fun _ i _ => n - (intOf i).toNat)
  case atStart => exact ⟨0, by omega, rfl, by rw [Nat.zero_mul]; rfl, Below.refl _ _⟩
  case round =>
    obtain ⟨k, hk, rfl, rfl, hbel⟩ := hrel
    by_cases hlt : k < n
    · have C : Hid (∀ wx, Below w.heap.size w wx → wx.cell? ⟨g, k * 3, none⟩ = some (.int .i64 ((K : Int) + (k : Int) * 3)) ∧ wx.cell? ⟨g, k * 3 + 1, none⟩ = some (.string (mkT (K + k * 3 + 1))) ∧ wx.cell? ⟨g, k * 3 + 2, none⟩ = some (.string (mkT (K + k * 3 + 2)))) := hide (fun wx hx => by
        have h := hb.later hx hg
        exact ⟨by rw [h _ (by omega), mkp_i (x := (K : Int) + (k : Int) * 3) (by omega) (by omega)], by rw [h _ (by omega), mkp_s (x := K + k * 3 + 1) (by omega) (by omega)], by rw [h _ (by omega), mkp_s (x := K + k * 3 + 2) (by omega) (by omega)]⟩)
      clear hb
      obtain ⟨c0, c1, c2⟩ := C.out wr hbel
      have T1 := hide (fun w => T.out (K + k * 3 + 1) w (by omega) (by omega))
      go_wp2_with fail
      go_region_with (go_at_call 62; refine (T1.out _).mono ?_; rintro e w1 ⟨rfl, hb1⟩; have hB1 := hbel.trans ((Below.refl _ _).drew.trans (hb1.mono (show w.heap.size ≤ wr.drew.heap.size from hbel.size))); obtain ⟨d1_0, d1_1, d1_2⟩ := C.out w1 hB1)
      all_goals
        (try clear c0)
        (try clear c1)
        (try clear c2)
        clear hb1 hbel T1
        have T2 := hide (fun w => T.out (K + k * 3 + 2) w (by omega) (by omega))
        go_wp2_with fail
        go_region_with (go_at_call 62; refine (T2.out _).mono ?_; rintro e w2 ⟨rfl, hb2⟩; have hB2 := hB1.trans ((Below.refl _ _).drew.trans (hb2.mono (show w.heap.size ≤ w1.drew.heap.size from hB1.size))); obtain ⟨d2_0, d2_1, d2_2⟩ := C.out w2 hB2)
        all_goals
          (try clear d1_0)
          (try clear d1_1)
          (try clear d1_2)
          clear hb2 hB1 T2
          go_wp2
          refine ⟨⟨k + 1, by omega, by go_num, by rw [show (K : Int) + ↑k * 3 + 1 + 1 + 1 = ((K + (k + 1) * 3 : Nat) : Int) by omega], hB2⟩, by simp [intOf]; omega⟩
    · obtain rfl : k = n := by omega
      go_wp2
      go_ret
      exact ⟨rfl, hbel⟩

/-- A row that is marked from K on. -/
def PMq (K : Nat) (w : World) (v : Value) (n : Nat) : Prop := (n = 0 ∧ ∃ a cap, v = .slice a 0 cap) ∨ ∃ g cap, v = .slice (some ⟨g, 0, none⟩) n cap ∧ n ≤ cap ∧ cap ≤ maxLen ∧ g < w.heap.size ∧ MkAp K w g (n * 3)
theorem PMq.later {K : Nat} {w w1 : World} {v : Value} {n : Nat} (h : PMq K w v n) (hb : Below w.heap.size w w1) : PMq K w1 v n :=
  h.imp id (fun ⟨g, cap, e, h1, h2, h3, h4⟩ => ⟨g, cap, e, h1, h2, Nat.lt_of_lt_of_le h3 hb.size, h4.later hb h3⟩)
/-- A row keeps where its own block does. -/
theorem PMq.keep {K : Nat} {w w1 : World} {v : Value} {n : Nat} (h : PMq K w v n) (hs : w.heap.size ≤ w1.heap.size) (he : ∀ y, v.ownBlock = some y → y < w.heap.size → w1.heap[y]? = w.heap[y]?) : PMq K w1 v n := by
  rcases h with h | ⟨g, cap, rfl, h1, h2, h3, h4⟩
  · exact .inl h
  · exact .inr ⟨g, cap, rfl, h1, h2, Nat.lt_of_lt_of_le h3 hs, fun j hj => (World.cell?_of_block (a := ⟨g, j, none⟩) (he g rfl h3)).trans (h4 j hj)⟩

set_option maxHeartbeats 400000 in
theorem markPartS_z (a : Option Addr) (ca : Nat) (K : Int) (w : World) :
    Calls Tryd.prog 31 #[.slice a 0 ca, .int .i64 K] w fun e w' => e = .returned (.int .i64 K) ∧ w' = w := by
  go_enter Tryd.func31, Tryd.ntmps31
  go_wp2
  go_loop [1, 5] (fun k i => k = .int .i64 K ∧ i = .int .i64 0) (fun _ _ => 0)
  case atStart => exact ⟨rfl, rfl⟩
  case round =>
    obtain ⟨rfl, rfl⟩ := hrel
    go_wp2
    go_ret
    exact ⟨rfl, rfl⟩

set_option maxHeartbeats 400000 in
theorem heldPartS_z (a : Option Addr) (ca : Nat) (K : Int) (w : World) :
    Calls Tryd.prog 32 #[.slice a 0 ca, .int .i64 K] w fun e w' => e = .returned (.int .i64 K) ∧ w' = w := by
  go_enter Tryd.func32, Tryd.ntmps32
  go_wp2
  go_loop [1, 5] (fun k i => k = .int .i64 K ∧ i = .int .i64 0) (fun _ _ => 0)
  case atStart => exact ⟨rfl, rfl⟩
  case round =>
    obtain ⟨rfl, rfl⟩ := hrel
    go_wp2
    go_ret
    exact ⟨rfl, rfl⟩


/-- A row of parts that is one's own, or a copy: it can be read and marked. -/
def PR (w : World) (v : Value) (l : List Pt) : Prop := (l = [] ∧ ∃ a cap, v = .slice a 0 cap ∧ cap ≤ maxLen) ∨ ∃ g cap, v = .slice (some ⟨g, 0, none⟩) l.length cap ∧ l.length ≤ cap ∧ cap ≤ maxLen ∧ g < w.heap.size ∧ CLs w g (encP l) ∧ Blk w g (l.length * 3)
theorem PR.own {w : World} {B : Nat} {v : Value} {l : List Pt} (h : POwn w B v l) : PR w v l := by
  unfold POwn at h
  by_cases h0 : l = []
  · subst h0
    obtain ⟨a, ca, rfl, -, hcm⟩ := own_shp h
    exact .inl ⟨rfl, a, ca, rfl, hcm⟩
  · obtain ⟨ga, ca, rfl, a1, a2, -, a3, a4, a5⟩ := own_cat h (List.length_pos_iff.2 h0)
    exact .inr ⟨ga, ca, rfl, a1, a2, a3, a4, by rw [← encP_len]; exact a5⟩
theorem PR.cp {w : World} {g : Nat} {l : List Pt} (h : PCp w g l) (hm : l.length ≤ maxLen) : PR w (.slice (some ⟨g, 0, none⟩) l.length l.length) l := .inr ⟨g, l.length, rfl, Nat.le_refl _, hm, h.lt, h.at', h.blk⟩
theorem PR.shp {w : World} {v : Value} {l : List Pt} (h : PR w v l) : ∃ a cap, v = .slice a l.length cap := by
  rcases h with ⟨rfl, a, c, rfl, -⟩ | ⟨g, c, rfl, -⟩
  · exact ⟨a, c, rfl⟩
  · exact ⟨_, c, rfl⟩
theorem PR.keep {w w1 : World} {v : Value} {l : List Pt} (h : PR w v l) (hs : w.heap.size ≤ w1.heap.size) (he : ∀ y, v.ownBlock = some y → y < w.heap.size → w1.heap[y]? = w.heap[y]?) : PR w1 v l := by
  rcases h with h | ⟨g, cap, rfl, h1, h2, h3, h4, h5⟩
  · exact .inl h
  · have e := he g rfl h3
    exact .inr ⟨g, cap, rfl, h1, h2, Nat.lt_of_lt_of_le h3 hs, fun j u hu => (World.cell?_of_block e).trans (h4 j u hu), ⟨fun j hj => by rw [World.cell?_of_block e]; exact h5.ex j hj, fun j => by rw [World.frozen?_of_block e]; exact h5.fz j⟩⟩
theorem PR.later {w w1 : World} {v : Value} {l : List Pt} (h : PR w v l) (hb : Below w.heap.size w w1) : PR w1 v l := by
  rcases h with h | ⟨g, cap, rfl, h1, h2, h3, h4, h5⟩
  · exact .inl h
  · exact .inr ⟨g, cap, rfl, h1, h2, Nat.lt_of_lt_of_le h3 hb.size, h4.later hb h3, h5.later hb h3⟩

theorem eqP_r {w : World} {va vb : Value} {l : List Pt} (ha : PR w va l) (hb : PR w vb l) (hm : l.length ≤ 10000000) :
    Calls Tryd.prog 30 #[va, vb] w fun e w' => e = .returned (.bool true) ∧ Below w.heap.size w w' := by
  by_cases h0 : l = []
  · subst h0
    obtain ⟨a, ca, rfl⟩ := ha.shp
    obtain ⟨b, cb, rfl⟩ := hb.shp
    refine (eqPartS_zero a b ca cb w).mono ?_
    rintro e w' ⟨rfl, rfl⟩
    exact ⟨rfl, Below.refl _ _⟩
  · rcases ha with ⟨c, -⟩ | ⟨ga, ca, rfl, a1, a2, a3, a4, -⟩
    · exact absurd c h0
    · rcases hb with ⟨c, -⟩ | ⟨gb, cb, rfl, b1, b2, b3, b4, -⟩
      · exact absurd c h0
      · exact eqPartS_at ga gb ca cb l w hm ⟨a1, a2⟩ ⟨b1, b2⟩ a4 b4 a3 b3

theorem markP_r {w : World} {v : Value} {l : List Pt} (h : PR w v l) (hm : l.length ≤ 10000000) (K : Nat) (hK : 0 < K ∧ K ≤ 500000000) :
    Calls Tryd.prog 31 #[v, .int .i64 (K : Int)] w fun e w' => e = .returned (.int .i64 (K + l.length * 3 : Nat)) ∧ w.grownBy w' v.ownBlock ∧ PMq K w' v l.length := by
  rcases h with ⟨rfl, a, c, rfl, -⟩ | ⟨ga, ca, rfl, a1, a2, a3, -, a5⟩
  · refine (markPartS_z a c K w).mono ?_
    rintro e w' ⟨rfl, rfl⟩
    exact ⟨rfl, grown_self _ _, .inl ⟨rfl, a, c, rfl⟩⟩
  · refine (markPartS_k ga ca l.length K w hm hK ⟨a1, a2⟩ a3 a5).mono ?_
    rintro e w' ⟨rfl, hg, hi⟩
    exact ⟨rfl, hg, .inr ⟨ga, ca, rfl, a1, a2, Nat.lt_of_lt_of_le a3 hg.size, hi⟩⟩

theorem heldP_q {w : World} {v : Value} {n K : Nat} (h : PMq K w v n) (hm : n ≤ 10000000) (hK : 0 < K ∧ K ≤ 500000000) :
    Calls Tryd.prog 32 #[v, .int .i64 (K : Int)] w fun e w' => e = .returned (.int .i64 (K + n * 3 : Nat)) ∧ Below w.heap.size w w' := by
  rcases h with ⟨rfl, a, c, rfl⟩ | ⟨g, cap, rfl, h1, h2, h3, h4⟩
  · refine (heldPartS_z a c K w).mono ?_
    rintro e w' ⟨rfl, rfl⟩
    exact ⟨rfl, Below.refl _ _⟩
  · exact heldPartS_k g cap n K w hK hm ⟨h1, h2⟩ h3 h4
end Go.Proofs.YtmjehpigfkobeabDoor

namespace Go.Proofs.YtmjehpigfkobeabDoor
open Go.RowKit
open Doc1

theorem markP_from {w : World} {g : Nat} {l : List Pt} (h : PCp w g l) (hm : l.length ≤ 2000000) (K : Nat) (hK : 0 < K ∧ K ≤ 500000000) :
    Calls Tryd.prog 31 #[.slice (some ⟨g, 0, none⟩) l.length l.length, .int .i64 (K : Int)] w fun e w' => e = .returned (.int .i64 (K + l.length * 3 : Nat)) ∧ w.grownBy w' (some g) := by
  refine (markPartS_k g l.length l.length K w (by omega) hK ⟨Nat.le_refl _, by unfold maxLen; omega⟩ h.lt h.blk).mono ?_
  rintro e w' ⟨rfl, hg, -⟩
  exact ⟨rfl, hg⟩
end Go.Proofs.YtmjehpigfkobeabDoor
