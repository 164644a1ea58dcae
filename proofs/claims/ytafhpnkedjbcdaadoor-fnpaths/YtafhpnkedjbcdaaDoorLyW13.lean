/- The contracts of impl.GoodTree, FlatOf, SizeOf. -/
import Derived.Test.YtafhpnkedjbcdaaDoorLyW12
import Derived.Test.YtafhpnkedjbcdaaDoorTreeS2
namespace Go.Proofs.YtafhpnkedjbcdaaDoor
open Go.RowKit
open Doc1

/-- Nodes in a block of the call's own. -/
structure Nin (w : World) (g cap : Nat) (l : List Nd) : Prop where
  cap : l.length ≤ cap ∧ cap ≤ maxLen
  sz : l.length + szU l l.length ≤ 1048576
  at' : NAt w g l
  lt : g < w.heap.size
theorem Nin.later {w w1 : World} {g cap : Nat} {l : List Nd} (h : Nin w g cap l) (hb : Below w.heap.size w w1) : Nin w1 g cap l := ⟨h.cap, h.sz, h.at'.later hb h.lt, Nat.lt_of_lt_of_le h.lt hb.size⟩
theorem Nin.low {w w1 : World} {B g cap : Nat} {l : List Nd} (h : Nin w g cap l) (hb : Below B w w1) (hB : g < B) : Nin w1 g cap l := ⟨h.cap, h.sz, h.at'.later hb hB, Nat.lt_of_lt_of_le h.lt hb.size⟩
theorem ownL_le (l : List Nd) : ∀ n, n ≤ l.length → sF (ownL l) 0 n ≤ n + szU l n
  | 0, _ => by simp [sF]
  | n + 1, h => by
    have := ownL_le l n (by omega)
    rw [sF_snoc, szU_succ l n (by omega), Nat.zero_add]
    have e : ownL l n ≤ l[n].name.size + l[n].text.size + 1 := by
      unfold ownL nmL txL slL
      rw [ndAt_get (by omega)]
      have h1 : l[n].name.data.toList.length = l[n].name.size := size_len _
      have h2 : l[n].text.data.toList.length = l[n].text.size := size_len _
      split <;> simp only [List.length_nil, List.length_singleton] <;> omega
    omega
theorem Nin.sum {w : World} {g cap : Nat} {l : List Nd} (h : Nin w g cap l) : sF (ownL l) 0 l.length ≤ 1048576 := by
  have := ownL_le l l.length (Nat.le_refl _)
  have := h.sz
  omega
theorem goodS {w : World} {g cap : Nat} {l : List Nd} (h : Nin w g cap l) : Calls Tryd.prog 83 #[.slice (some ⟨g, 0, none⟩) l.length cap] w fun e w' => e = .returned (.bool (goodT l)) ∧ Below w.heap.size w w' :=
  goodTreeS_any l g cap w h.cap (by have := h.sz; omega) h.sum h.at' h.lt

/-- What layOut answers. -/
def LayAns (l : List Nd) (B : Nat) (e : Ending) (w' : World) : Prop :=
  (layL l = none → e = .returned (.tuple #[noLy, .bool false])) ∧
  ∀ y, layL l = some y → ∃ p0 x0 p1 x1 p2 x2 p3 x3, e = .returned (.tuple #[.agg #[.slice p0 y.text.length x0, .slice p1 y.fr.length x1, .slice p2 y.to.length x2, .slice p3 y.op.length x3], .bool true]) ∧
    w'.ownsRow B 5 1 (.slice p0 y.text.length x0) y.text.length (byt y.text) ∧ w'.ownsRow B 3 1 (.slice p1 y.fr.length x1) y.fr.length (ints (natI y.fr)) ∧ w'.ownsRow B 3 1 (.slice p2 y.to.length x2) y.to.length (ints (natI y.to)) ∧
    (y.text.length ≤ x0 ∧ x0 ≤ maxLen) ∧ (y.fr.length ≤ x1 ∧ x1 ≤ maxLen) ∧ (y.to.length ≤ x2 ∧ x2 ≤ maxLen)
theorem own_sh {w : World} {B n sz : Nat} {e : TypeId} {v : Value} {xs : List Value} (h : w.ownsRow B e sz v n xs) : ∃ a cap, v = .slice a n cap ∧ n ≤ cap ∧ cap ≤ maxLen := by
  rcases h.2 with ⟨hv, h0⟩ | ⟨g, cap, cur, hv, hb, hh, hle, hm, hs, ht⟩
  · exact ⟨none, 0, by rw [h0, hv], by omega, by unfold maxLen; omega⟩
  · exact ⟨_, cap, hv, hle, hm⟩
theorem layOut_all {w : World} {g cap : Nat} {l : List Nd} (h : Nin w g cap l) (hT : Tab w) :
    Calls Tryd.prog 80 #[.slice (some ⟨g, 0, none⟩) l.length cap] w fun e w' => Below w.heap.size w w' ∧ LayAns l w.heap.size e w' := by
  by_cases hc : l.length = 0 ∨ 301 < l.length
  · refine (layOut_long l _ cap w (by have := h.sz; omega) h.cap hc).mono ?_
    rintro e w' ⟨rfl, hb⟩
    have hn : layL l = none := by
      unfold layL
      rw [if_pos (hc.imp List.length_eq_zero_iff.1 id)]
    exact ⟨hb, fun _ => rfl, fun y hy => by rw [hn] at hy; cases hy⟩
  · refine (layOut_any l g cap w h.cap (by omega) (by omega) h.sz h.at' h.lt hT).mono ?_
    rintro e w' ⟨hb, h1, h2⟩
    refine ⟨hb, h1, fun y hy => ?_⟩
    obtain ⟨V, rfl, hV⟩ := h2 y hy
    have o0 := hV 0 (by omega)
    have o1 := hV 1 (by omega)
    have o2 := hV 2 (by omega)
    have o3 := hV 3 (by omega)
    rw [X0, byt_len] at o0
    rw [X1, ints_len] at o1
    rw [X2, ints_len] at o2
    rw [X3, ints_len, List.length_reverse] at o3
    obtain ⟨p0, x0, e0, b0, c0⟩ := own_sh o0
    obtain ⟨p1, x1, e1, b1, c1⟩ := own_sh o1
    obtain ⟨p2, x2, e2, b2, c2⟩ := own_sh o2
    obtain ⟨p3, x3, e3, -, -⟩ := own_sh o3
    rw [e0] at o0
    rw [e1] at o1
    rw [e2] at o2
    exact ⟨p0, x0, p1, x1, p2, x2, p3, x3, by rw [e0, e1, e2, e3], o0, o1, o2, ⟨b0, c0⟩, ⟨b1, c1⟩, ⟨b2, c2⟩⟩
theorem good_none {l : List Nd} (h : layL l = none) : goodT l = false := by rw [← lay_good, h]; rfl
theorem good_some {l : List Nd} {y : LS} (h : layL l = some y) : goodT l = true := by rw [← lay_good, h]; rfl

set_option maxHeartbeats 2000000 in
theorem goodI {w : World} {g cap : Nat} {l : List Nd} (h : Nin w g cap l) (hT : Tab w) :
    Calls Tryd.prog 31 #[.slice (some ⟨g, 0, none⟩) l.length cap] w fun e w' => e = .returned (.bool (goodT l)) ∧ Below w.heap.size w w' := by
  have A := hide (layOut_all h hT)
  clear h
  cases hl : layL l with
  | none =>
    rw [good_none hl]
    go_enter Tryd.func31, Tryd.ntmps31
    go_wp2_with fail
    refine A.out.mono ?_
    rintro e w1 ⟨hb, h1, -⟩
    obtain rfl := h1 hl
    unfold noLy
    go_wp2
    go_ret
    exact ⟨rfl, hb.alloc hb.size _⟩
  | some y =>
    rw [good_some hl]
    go_enter Tryd.func31, Tryd.ntmps31
    go_wp2_with fail
    refine A.out.mono ?_
    rintro e w1 ⟨hb, -, h2⟩
    obtain ⟨p0, x0, p1, x1, p2, x2, p3, x3, rfl, -⟩ := h2 y hl
    go_wp2
    go_ret
    exact ⟨rfl, hb.alloc hb.size _⟩

def flatA (l : List Nd) : ByteArray := if goodT l then ba (fl l 0) else ⟨#[]⟩

set_option maxRecDepth 100000 in
set_option maxHeartbeats 2000000 in
theorem flatI {w : World} {g cap : Nat} {l : List Nd} (h : Nin w g cap l) (hT : Tab w) :
    Calls Tryd.prog 30 #[.slice (some ⟨g, 0, none⟩) l.length cap] w fun e w' => e = .returned (.tuple #[.string (flatA l), .bool (goodT l)]) ∧ Below w.heap.size w w' := by
  have A := hide (layOut_all h hT)
  clear h
  unfold flatA
  cases hl : layL l with
  | none =>
    rw [good_none hl]
    simp only [Bool.false_eq_true, if_false]
    have hcv : ∀ w : World, (convert 22 9 (.slice none 0 0)).run Tryd.prog w = .ok (.string ⟨#[]⟩) w := fun w => conv_own (B := 0) (l := []) (World.ownsRow_nil _ _ _ _)
    go_enter Tryd.func30, Tryd.ntmps30
    go_wp2_with fail
    refine A.out.mono ?_
    rintro e w1 ⟨hb, h1, -⟩
    obtain rfl := h1 hl
    unfold noLy
    go_wp2
    go_ret2
    exact ⟨rfl, hb.alloc hb.size _⟩
  | some y =>
    rw [good_some hl]
    simp only [if_true]
    have ht := (laid_of hl).text
    rw [← ht]
    clear ht
    go_enter Tryd.func30, Tryd.ntmps30
    go_wp2_with fail
    refine A.out.mono ?_
    rintro e w1 ⟨hb, -, h2⟩
    obtain ⟨p0, x0, p1, x1, p2, x2, p3, x3, rfl, o0, -⟩ := h2 y hl
    have hcv := fun o => conv_own (o0.alloc o)
    clear o0
    go_wp2
    go_ret2
    exact ⟨rfl, hb.alloc hb.size _⟩

theorem ret_iB {x y : Int} {b : Bool} (h : x = y) : Ending.returned (.tuple #[.int .i64 x, .bool b]) = .returned (.tuple #[.int .i64 y, .bool b]) := by rw [h]
/-- What SizeOf answers. -/
def sizeA (l : List Nd) (k : Int) : Int := if goodT l = true ∧ 0 ≤ k ∧ k < l.length then ((fl l k.toNat).length : Int) else 0
def inK (l : List Nd) (k : Int) : Bool := decide (goodT l = true ∧ 0 ≤ k ∧ k < l.length)

set_option maxRecDepth 100000 in
set_option maxHeartbeats 4000000 in
theorem sizeI {w : World} {g cap : Nat} {l : List Nd} (k : Int) (h : Nin w g cap l) (hT : Tab w) :
    Calls Tryd.prog 36 #[.slice (some ⟨g, 0, none⟩) l.length cap, .int .i64 k] w fun e w' => e = .returned (.tuple #[.int .i64 (sizeA l k), .bool (inK l k)]) ∧ Below w.heap.size w w' := by
  have A := hide (layOut_all h hT)
  have hsz := h.sz
  have hcp := h.cap
  clear h
  unfold sizeA inK
  cases hl : layL l with
  | none =>
    rw [good_none hl]
    simp only [Bool.false_eq_true, false_and, if_false, decide_false]
    go_enter Tryd.func36, Tryd.ntmps36
    go_wp2_with fail
    refine A.out.mono ?_
    rintro e w1 ⟨hb, h1, -⟩
    obtain rfl := h1 hl
    unfold noLy
    go_wp2
    go_ret2
    exact ⟨rfl, hb.alloc hb.size _⟩
  | some y =>
    rw [good_some hl]
    simp only [true_and]
    have hL := laid_of hl
    by_cases hk : 0 ≤ k ∧ k < l.length
    · rw [if_pos hk, decide_eq_true hk]
      obtain ⟨m, rfl⟩ : ∃ m : Nat, k = m := ⟨k.toNat, by omega⟩
      have hm : m < l.length := by omega
      rw [Int.toNat_natCast]
      obtain ⟨e1, e2⟩ := hL.seg m hm
      have hnf := hL.nf
      have hnt := hL.nt
      have hfr : y.fr.getD m 0 = y.fr[m]'(by omega) := by rw [List.getD_eq_getElem?_getD, List.getElem?_eq_getElem (by omega)]; rfl
      have hto : y.to.getD m 0 = y.to[m]'(by omega) := by rw [List.getD_eq_getElem?_getD, List.getElem?_eq_getElem (by omega)]; rfl
      have htx : y.text.length ≤ 300 := by
        have hg := hL.good
        unfold goodT doc good at hg
        simp only [Bool.and_eq_true, decide_eq_true_eq] at hg
        rw [hL.text]; exact hg.2.1.1.2
      go_enter Tryd.func36, Tryd.ntmps36
      go_wp2_with fail
      refine A.out.mono ?_
      rintro e w1 ⟨hb, -, h2⟩
      obtain ⟨p0, x0, p1, x1, p2, x2, p3, x3, rfl, -, o1, o2, -, q1, q2⟩ := h2 y hl
      obtain ⟨g1, c1, hv1, -, -, -, -, hc1⟩ := own_open o1 (by omega)
      obtain ⟨g2, c2, hv2, -, -, -, -, hc2⟩ := own_open o2 (by omega)
      cases hv1
      cases hv2
      have r1 : w1.cell? ⟨g1, m, none⟩ = some (.int .i64 (y.fr.getD m 0 : Int)) := hc1 m _ (by rw [ints, natI, List.getElem?_map, List.getElem?_map, List.getElem?_eq_getElem (by omega), hfr]; rfl)
      have r2 : w1.cell? ⟨g2, m, none⟩ = some (.int .i64 (y.to.getD m 0 : Int)) := hc2 m _ (by rw [ints, natI, List.getElem?_map, List.getElem?_map, List.getElem?_eq_getElem (by omega), hto]; rfl)
      have s1 : ∀ o, (w1.alloc o).cell? ⟨g1, m, none⟩ = some (.int .i64 (y.fr.getD m 0 : Int)) := fun o => (World.cell?_of_block (Below.heap_alloc w1 o _ (World.block_lt_of_cell? w1 _ r1))).trans r1
      have s2 : ∀ o, (w1.alloc o).cell? ⟨g2, m, none⟩ = some (.int .i64 (y.to.getD m 0 : Int)) := fun o => (World.cell?_of_block (Below.heap_alloc w1 o _ (World.block_lt_of_cell? w1 _ r2))).trans r2
      have m1 : (m : Int) < (y.fr.length : Int) := by omega
      have m2 : (m : Int) < (y.to.length : Int) := by omega
      have m0 : (0 : Int) ≤ (m : Int) := by omega
      obtain ⟨F, hF⟩ : ∃ F, F = y.fr.getD m 0 := ⟨_, rfl⟩
      obtain ⟨T, hT'⟩ : ∃ T, T = y.to.getD m 0 := ⟨_, rfl⟩
      rw [← hF] at s1 e1
      rw [← hT'] at s2 e1 e2
      clear o1 o2 hc1 hc2 r1 r2 hfr hto hF hT'
      go_wp2_with fail
      go_region
      all_goals
        go_wp2
        go_ret2
        exact ⟨ret_iB (by omega), (hb.alloc hb.size _).drew⟩
    · rw [if_neg hk, decide_eq_false hk]
      go_enter Tryd.func36, Tryd.ntmps36
      go_wp2_with fail
      refine A.out.mono ?_
      rintro e w1 ⟨hb, -, h2⟩
      obtain ⟨p0, x0, p1, x1, p2, x2, p3, x3, rfl, -⟩ := h2 y hl
      by_cases hk0 : k < 0
      · go_wp2
        go_ret2
        exact ⟨rfl, hb.alloc hb.size _⟩
      · have hk1 : (l.length : Int) ≤ k := by omega
        go_wp2
        go_ret2
        exact ⟨rfl, hb.alloc hb.size _⟩
end Go.Proofs.YtafhpnkedjbcdaaDoor
