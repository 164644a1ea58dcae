/- The contracts of the laws' own helpers over rows of Atom: held against one another, marked, measured, copied. -/
import Derived.Test.YtnhooalibadeeabDoorSeq1
import Derived.Test.YtnhooalibadeeabDoorCells
import Derived.Test.YtnhooalibadeeabDoorOwnG
import Derived.Test.YtnhooalibadeeabDoorWBk
import Derived.Test.YtnhooalibadeeabDoorNodes2
import Derived.Deep.QuietTactic
import Derived.BigQuiet
import Derived.Deep.RegionWith
namespace Go.Proofs.YtnhooalibadeeabDoor
open Go.RowKit
open Doc1

def amV (x : Am) : Value := .agg #[.int .i64 x.time, .int .i64 x.actor, .int .i64 x.above, .int .i64 x.maker, .string x.byte, .bool x.gone]
def amC (x : Am) : List Value := [.int .i64 x.time, .int .i64 x.actor, .int .i64 x.above, .int .i64 x.maker, .string x.byte, .bool x.gone]
def encAm (l : List Am) : List Value := l.flatMap amC
theorem encAm_len (l : List Am) : (encAm l).length = l.length * 6 := by
  induction l with
  | nil => rfl
  | cons x l ih => rw [encAm, List.flatMap_cons, List.length_append]; change _ + (encAm l).length = _; rw [ih]; simp [amC]; omega
theorem encAm_app (a b : List Am) : encAm (a ++ b) = encAm a ++ encAm b := by simp [encAm]
theorem encAm_at (l : List Am) : ∀ i (h : i < l.length), (encAm l)[i * 6]? = some (.int .i64 l[i].time) ∧ (encAm l)[i * 6 + 1]? = some (.int .i64 l[i].actor) ∧ (encAm l)[i * 6 + 2]? = some (.int .i64 l[i].above) ∧ (encAm l)[i * 6 + 3]? = some (.int .i64 l[i].maker) ∧ (encAm l)[i * 6 + 4]? = some (.string l[i].byte) ∧ (encAm l)[i * 6 + 5]? = some (.bool l[i].gone) := by
  induction l with
  | nil => intro i h; simp at h
  | cons x l ih =>
    intro i h
    have e : encAm (x :: l) = amC x ++ encAm l := by simp [encAm]
    cases i with
    | zero => rw [e]; simp [amC]
    | succ i =>
      have := ih i (by simpa using h)
      rw [e, show (i + 1) * 6 = 6 + i * 6 by omega, show 6 + i * 6 + 1 = 6 + (i * 6 + 1) by omega, show 6 + i * 6 + 2 = 6 + (i * 6 + 2) by omega, show 6 + i * 6 + 3 = 6 + (i * 6 + 3) by omega, show 6 + i * 6 + 4 = 6 + (i * 6 + 4) by omega, show 6 + i * 6 + 5 = 6 + (i * 6 + 5) by omega]
      rw [List.getElem?_append_right (by simp [amC]), List.getElem?_append_right (by simp [amC]), List.getElem?_append_right (by simp [amC]), List.getElem?_append_right (by simp [amC]), List.getElem?_append_right (by simp [amC]), List.getElem?_append_right (by simp [amC])]
      simpa [amC] using this
/-- The mark at a place, from K on. -/
def mkcAm (K j : Nat) : Value := if j % 6 = 4 then .string (mkT (K + j)) else if j % 6 = 5 then .bool ((((K + j : Nat) : Int) % 3) == 0) else .int .i64 ((K + j : Nat) : Int)
def MkAmA (K : Nat) (w : World) (g m : Nat) : Prop := ∀ j, j < m → w.cell? ⟨g, j, none⟩ = some (mkcAm K j)
theorem MkAmA.later {K : Nat} {w w1 : World} {B g m : Nat} (h : MkAmA K w g m) (hb : Below B w w1) (hg : g < B) : MkAmA K w1 g m := fun j hj => (World.cell?_of_block (hb.block g hg)).trans (h j hj)
structure WKAm (K : Nat) (w : World) (g n m : Nat) (wr : World) : Prop where
  wb : WB w g n wr
  c : MkAmA K wr g m
theorem WKAm.below {K : Nat} {w wr w1 : World} {g n m : Nat} (h : WKAm K w g n m wr) (hb : Below wr.heap.size wr w1) : WKAm K w g n m w1 :=
  ⟨h.wb.below hb, h.c.later hb (Nat.lt_of_lt_of_le h.wb.lt h.wb.grown.size)⟩
theorem WKAm.put {K : Nat} {w wr : World} {g n m : Nat} (h : WKAm K w g n m wr) (hm : m < n) (v : Value) (hv : mkcAm K m = v) : WKAm K w g n (m + 1) (wr.setCell ⟨g, m, none⟩ v) :=
  ⟨h.wb.put m v, fun j hj => by
    obtain ⟨y, hy⟩ := h.wb.blk.ex m hm
    by_cases e : j = m
    · subst e; rw [hv]; exact World.cell?_setCell_same _ _ _ hy
    · rw [World.cell?_setCell_other _ _ _ _ (fun c => e (Addr.mk.inj c).2.1.symm)]; exact h.c j (by omega)⟩
theorem wkAm_start (K : Nat) {w : World} {g n : Nat} (hb : Blk w g n) (hg : g < w.heap.size) : WKAm K w g n (0 * 6) w := ⟨wb_start hb hg, fun j hj => by omega⟩
theorem CLs.amat {w : World} {g : Nat} {l : List Am} (h : CLs w g (encAm l)) (i : Nat) (hi : i < l.length) : w.cell? ⟨g, i * 6, none⟩ = some (.int .i64 l[i].time) ∧ w.cell? ⟨g, i * 6 + 1, none⟩ = some (.int .i64 l[i].actor) ∧ w.cell? ⟨g, i * 6 + 2, none⟩ = some (.int .i64 l[i].above) ∧ w.cell? ⟨g, i * 6 + 3, none⟩ = some (.int .i64 l[i].maker) ∧ w.cell? ⟨g, i * 6 + 4, none⟩ = some (.string l[i].byte) ∧ w.cell? ⟨g, i * 6 + 5, none⟩ = some (.bool l[i].gone) := by
  have := encAm_at l i hi
  exact ⟨h _ _ this.1, h _ _ this.2.1, h _ _ this.2.2.1, h _ _ this.2.2.2.1, h _ _ this.2.2.2.2.1, h _ _ this.2.2.2.2.2⟩

set_option maxHeartbeats 1000000 in
theorem eqAtom_same (x : Am) (w : World) :
    Calls Tryd.prog 54 #[amV x, amV x] w fun e w' => e = .returned (.bool true) ∧ Below w.heap.size w w' := by
  unfold amV
  obtain ⟨y5, hy5⟩ : ∃ y, y = x.gone := ⟨_, rfl⟩
  rw [← hy5]
  have by5 : (y5 != y5) = false := by cases y5 <;> rfl
  clear hy5
  go_enter Tryd.func54, Tryd.ntmps54
  go_wp2
  go_ret
  exact ⟨rfl, (((Below.refl _ _).alloc (Nat.le_refl _) _).alloc (by simp) _)⟩

set_option maxHeartbeats 1000000 in
theorem eqAtomS_at (ga gb ca cb : Nat) (l : List Am) (w : World) (hm : l.length ≤ 10000000) (_h1 : l.length ≤ ca ∧ ca ≤ maxLen) (_h2 : l.length ≤ cb ∧ cb ≤ maxLen) (ha : CLs w ga (encAm l)) (hb : CLs w gb (encAm l)) (hga : ga < w.heap.size) (hgb : gb < w.heap.size) :
    Calls Tryd.prog 34 #[.slice (some ⟨ga, 0, none⟩) l.length ca, .slice (some ⟨gb, 0, none⟩) l.length cb] w fun e w' => e = .returned (.bool true) ∧ Below w.heap.size w w' := by
  have E : Hid (∀ x w, Calls Tryd.prog 54 #[amV x, amV x] w fun e w' => e = .returned (.bool true) ∧ Below w.heap.size w w') := hide (fun x w => eqAtom_same x w)
  go_enter Tryd.func34, Tryd.ntmps34
  go_wp2
  go_loopw [5] (fun i wr => ∃ k : Nat, k ≤ l.length ∧ i = .int .i64 k ∧ Below w.heap.size w wr) (fun i _ => l.length - (intOf i).toNat)
  case atStart => exact ⟨0, by omega, rfl, Below.refl _ _⟩
  case round =>
    obtain ⟨k, hk, rfl, hbel⟩ := hrel
    by_cases hlt : k < l.length
    · obtain ⟨a0, a1, a2, a3, a4, a5⟩ := (ha.later hbel hga).amat k hlt
      obtain ⟨b0, b1, b2, b3, b4, b5⟩ := (hb.later hbel hgb).amat k hlt
      go_wp2_with fail
      go_region_with (go_at_call 54; refine (E.out l[k] _).mono ?_; rintro e w' ⟨rfl, hb'⟩)
      all_goals
        go_wp2
        go_roundw
        case rel => exact ⟨k + 1, by omega, by go_num, hbel.trans ((Below.refl _ _).drew.trans (hb'.mono (show w.heap.size ≤ wr.drew.heap.size from hbel.size)))⟩
        case measure => simp [intOf]; omega
    · go_wp2
      go_ret
      exact ⟨rfl, hbel⟩

theorem mkcAm_0 {K i : Nat} {x : Int} (h : i % 6 = 0) (hx : x = ((K + i : Nat) : Int)) : mkcAm K i = .int .i64 x := by unfold mkcAm; rw [if_neg (by omega), if_neg (by omega), hx]
theorem mkcAm_1 {K i : Nat} {x : Int} (h : i % 6 = 1) (hx : x = ((K + i : Nat) : Int)) : mkcAm K i = .int .i64 x := by unfold mkcAm; rw [if_neg (by omega), if_neg (by omega), hx]
theorem mkcAm_2 {K i : Nat} {x : Int} (h : i % 6 = 2) (hx : x = ((K + i : Nat) : Int)) : mkcAm K i = .int .i64 x := by unfold mkcAm; rw [if_neg (by omega), if_neg (by omega), hx]
theorem mkcAm_3 {K i : Nat} {x : Int} (h : i % 6 = 3) (hx : x = ((K + i : Nat) : Int)) : mkcAm K i = .int .i64 x := by unfold mkcAm; rw [if_neg (by omega), if_neg (by omega), hx]
theorem mkcAm_4 {K i : Nat} {x : Nat} (h : i % 6 = 4) (hx : x = K + i) : mkcAm K i = .string (mkT x) := by unfold mkcAm; rw [if_pos (by omega), hx]
theorem mkcAm_5 {K i : Nat} {x : Int} (h : i % 6 = 5) (hx : x = ((K + i : Nat) : Int)) : mkcAm K i = .bool (x % 3 == 0) := by unfold mkcAm; rw [if_neg (by omega), if_pos (by omega), hx]

set_option maxHeartbeats 4000000 in
theorem markAtomS_k (g c n K : Nat) (w : World) (hm : n ≤ 10000000) (hK : 0 < K ∧ K ≤ 500000000) (_h1 : n ≤ c ∧ c ≤ maxLen) (hg : g < w.heap.size) (hb : Blk w g (n * 6)) :
    Calls Tryd.prog 35 #[.slice (some ⟨g, 0, none⟩) n c, .int .i64 (K : Int)] w fun e w' => e = .returned (.int .i64 (K + n * 6 : Nat)) ∧ w.grownBy w' (some g) ∧ MkAmA K w' g (n * 6) := by
  have T : Hid (∀ (K : Nat) w, 0 < K → K ≤ 1000000000 → Calls Tryd.prog 55 #[.int .i64 (K : Int)] w fun e w' => e = .returned (.string (mkT K)) ∧ Below w.heap.size w w') := hide (fun K w h1 h2 => markText_any K w h1 h2)
  go_enter Tryd.func35, Tryd.ntmps35
  go_wp2
  go_loopw [1, 5] (fun k1 i wr => ∃ k : Nat, k ≤ n ∧ i = .int .i64 k ∧ k1 = .int .i64 (K + k * 6 : Nat) ∧ Hid (WKAm K w g (n * 6) (k * 6) wr)) (fun _ i _ => n - (intOf i).toNat)
  case atStart => exact ⟨0, by omega, rfl, rfl, hide (wkAm_start K hb hg)⟩
  case round =>
    obtain ⟨k, hk, rfl, rfl, R0⟩ := hrel
    by_cases hlt : k < n
    · clear hb
      have r0 := R0.out
      obtain ⟨y0, hy0⟩ := r0.wb.blk.ex (k * 6) (by omega)
      have f0 := r0.wb.blk.fz (k * 6)
      have R1 := hide (r0.put (by omega) (.int .i64 ((K : Int) + (k : Int) * 6)) (mkcAm_0 (by omega) (by omega)))
      clear r0
      have r1 := R1.out
      obtain ⟨y1, hy1⟩ := r1.wb.blk.ex (k * 6 + 1) (by omega)
      have f1 := r1.wb.blk.fz (k * 6 + 1)
      have R2 := hide (r1.put (by omega) (.int .i64 ((K : Int) + (k : Int) * 6 + 1)) (mkcAm_1 (by omega) (by omega)))
      clear r1
      have r2 := R2.out
      obtain ⟨y2, hy2⟩ := r2.wb.blk.ex (k * 6 + 2) (by omega)
      have f2 := r2.wb.blk.fz (k * 6 + 2)
      have R3 := hide (r2.put (by omega) (.int .i64 ((K : Int) + (k : Int) * 6 + 1 + 1)) (mkcAm_2 (by omega) (by omega)))
      clear r2
      have r3 := R3.out
      obtain ⟨y3, hy3⟩ := r3.wb.blk.ex (k * 6 + 3) (by omega)
      have f3 := r3.wb.blk.fz (k * 6 + 3)
      have R4 := hide (r3.put (by omega) (.int .i64 ((K : Int) + (k : Int) * 6 + 1 + 1 + 1)) (mkcAm_3 (by omega) (by omega)))
      clear r3
      have r4 := R4.out
      obtain ⟨W4, hW4⟩ : ∃ W, W = ((((wr.setCell ⟨g, k * 6, none⟩ (.int .i64 ((K : Int) + (k : Int) * 6))).setCell ⟨g, k * 6 + 1, none⟩ (.int .i64 ((K : Int) + (k : Int) * 6 + 1))).setCell ⟨g, k * 6 + 2, none⟩ (.int .i64 ((K : Int) + (k : Int) * 6 + 1 + 1))).setCell ⟨g, k * 6 + 3, none⟩ (.int .i64 ((K : Int) + (k : Int) * 6 + 1 + 1 + 1))) := ⟨_, rfl⟩
      rw [← hW4] at R4
      clear r4
      go_wp2_with fail
      rw [← hW4]
      clear hW4 hy0 f0 hy1 f1 hy2 f2 hy3 f3
      go_wp2_with fail
      refine (T.out (K + k * 6 + 4) W4 (by omega) (by omega)).mono ?_
      rintro e x4 ⟨rfl, hb4⟩
      have r4 := R4.out.below hb4
      obtain ⟨y4, hy4⟩ := r4.wb.blk.ex (k * 6 + 4) (by omega)
      have f4 := r4.wb.blk.fz (k * 6 + 4)
      have R5 := hide (r4.put (by omega) (.string (mkT (K + k * 6 + 4))) (mkcAm_4 (by omega) (by omega)))
      clear r4 hb4
      have r5 := R5.out
      obtain ⟨y5, hy5⟩ := r5.wb.blk.ex (k * 6 + 5) (by omega)
      have f5 := r5.wb.blk.fz (k * 6 + 5)
      have R6 := hide (r5.put (by omega) (.bool ((((K : Int) + (k : Int) * 6 + 1 + 1 + 1 + 1 + 1) % 3) == 0)) (mkcAm_5 (by omega) (by omega)))
      clear r5
      obtain ⟨WZ, hWZ⟩ : ∃ W, W = ((x4.setCell ⟨g, k * 6 + 4, none⟩ (.string (mkT (K + k * 6 + 4)))).setCell ⟨g, k * 6 + 5, none⟩ (.bool ((((K : Int) + (k : Int) * 6 + 1 + 1 + 1 + 1 + 1) % 3) == 0))) := ⟨_, rfl⟩
      rw [← hWZ] at R6
      go_wp2
      rw [← hWZ]
      refine ⟨⟨k + 1, by omega, by go_num, by rw [show (K : Int) + ↑k * 6 + 1 + 1 + 1 + 1 + 1 + 1 = ((K + (k + 1) * 6 : Nat) : Int) by omega], by rw [show (k + 1) * 6 = k * 6 + 5 + 1 by omega]; exact R6⟩, by simp [intOf]; omega⟩
    · obtain rfl : k = n := by omega
      go_wp2
      go_ret
      exact ⟨rfl, R0.out.wb.grown, R0.out.c⟩

set_option maxHeartbeats 4000000 in
theorem heldAtomS_k (g c n K : Nat) (w : World) (hK : 0 < K ∧ K ≤ 500000000) (hm : n ≤ 10000000) (_h1 : n ≤ c ∧ c ≤ maxLen) (hg : g < w.heap.size) (hb : MkAmA K w g (n * 6)) :
    Calls Tryd.prog 36 #[.slice (some ⟨g, 0, none⟩) n c, .int .i64 (K : Int)] w fun e w' => e = .returned (.int .i64 (K + n * 6 : Nat)) ∧ Below w.heap.size w w' := by
  have T : Hid (∀ (K : Nat) w, 0 < K → K ≤ 1000000000 → Calls Tryd.prog 55 #[.int .i64 (K : Int)] w fun e w' => e = .returned (.string (mkT K)) ∧ Below w.heap.size w w') := hide (fun K w h1 h2 => markText_any K w h1 h2)
  go_enter Tryd.func36, Tryd.ntmps36
  go_wp2
  go_loopw [1, 5] (fun k1 i wr => ∃ k : Nat, k ≤ n ∧ i = .int .i64 k ∧ k1 = .int .i64 (K + k * 6 : Nat) ∧ Below w.heap.size w wr) (fun _ i _ => n - (intOf i).toNat)
  case atStart => exact ⟨0, by omega, rfl, by rw [Nat.zero_mul]; rfl, Below.refl _ _⟩
  case round =>
    obtain ⟨k, hk, rfl, rfl, hbel⟩ := hrel
    by_cases hlt : k < n
    · have C : Hid (∀ wx, Below w.heap.size w wx → wx.cell? ⟨g, k * 6, none⟩ = some (.int .i64 ((K : Int) + (k : Int) * 6)) ∧ wx.cell? ⟨g, k * 6 + 1, none⟩ = some (.int .i64 ((K : Int) + (k : Int) * 6 + 1)) ∧ wx.cell? ⟨g, k * 6 + 2, none⟩ = some (.int .i64 ((K : Int) + (k : Int) * 6 + 1 + 1)) ∧ wx.cell? ⟨g, k * 6 + 3, none⟩ = some (.int .i64 ((K : Int) + (k : Int) * 6 + 1 + 1 + 1)) ∧ wx.cell? ⟨g, k * 6 + 4, none⟩ = some (.string (mkT (K + k * 6 + 4))) ∧ wx.cell? ⟨g, k * 6 + 5, none⟩ = some (.bool ((((K : Int) + (k : Int) * 6 + 1 + 1 + 1 + 1 + 1) % 3) == 0))) := hide (fun wx hx => by
        have h := hb.later hx hg
        exact ⟨(h _ (by omega)).trans (congrArg some (mkcAm_0 (by omega) (by omega))), (h _ (by omega)).trans (congrArg some (mkcAm_1 (by omega) (by omega))), (h _ (by omega)).trans (congrArg some (mkcAm_2 (by omega) (by omega))), (h _ (by omega)).trans (congrArg some (mkcAm_3 (by omega) (by omega))), (h _ (by omega)).trans (congrArg some (mkcAm_4 (by omega) (by omega))), (h _ (by omega)).trans (congrArg some (mkcAm_5 (by omega) (by omega)))⟩)
      clear hb
      obtain ⟨c0, c1, c2, c3, c4, c5⟩ := C.out wr hbel
      have T4 := hide (fun w => T.out (K + k * 6 + 4) w (by omega) (by omega))
      go_wp2_with fail
      go_region_with (go_at_call 55; refine (T4.out _).mono ?_; rintro e w4 ⟨rfl, hb4⟩; have hB4 := hbel.trans ((Below.refl _ _).drew.trans (hb4.mono (show w.heap.size ≤ wr.drew.heap.size from hbel.size))); obtain ⟨d4_0, d4_1, d4_2, d4_3, d4_4, d4_5⟩ := C.out w4 hB4)
      all_goals
        (try clear c0)
        (try clear c1)
        (try clear c2)
        (try clear c3)
        (try clear c4)
        (try clear c5)
        clear hb4 hbel T4
        go_wp2
        refine ⟨⟨k + 1, by omega, by go_num, by rw [show (K : Int) + ↑k * 6 + 1 + 1 + 1 + 1 + 1 + 1 = ((K + (k + 1) * 6 : Nat) : Int) by omega], hB4⟩, by simp [intOf]; omega⟩
    · obtain rfl : k = n := by omega
      go_wp2
      go_ret
      exact ⟨rfl, hbel⟩

/-- A slice of Atom as it came in. -/
inductive ArgAm (W : World) : Value → List Am → Prop
  | nil (a : Option Addr) (cap : Nat) : ArgAm W (.slice a 0 cap) []
  | row (b off cap : Nat) (l : List Am) (hb : b < W.heap.size) (hn : 0 < l.length) (hle : l.length ≤ cap) (hm : cap ≤ maxLen) (hc : ∀ i (h : i < l.length), W.cell? ⟨b, off + i * 6, none⟩ = some (.int .i64 l[i].time) ∧ W.cell? ⟨b, off + i * 6 + 1, none⟩ = some (.int .i64 l[i].actor) ∧ W.cell? ⟨b, off + i * 6 + 2, none⟩ = some (.int .i64 l[i].above) ∧ W.cell? ⟨b, off + i * 6 + 3, none⟩ = some (.int .i64 l[i].maker) ∧ W.cell? ⟨b, off + i * 6 + 4, none⟩ = some (.string l[i].byte) ∧ W.cell? ⟨b, off + i * 6 + 5, none⟩ = some (.bool l[i].gone)) :
      ArgAm W (.slice (some ⟨b, off, none⟩) l.length cap) l
theorem ArgAm.later {W W1 : World} {v : Value} {l : List Am} (h : ArgAm W v l) (hb : Below W.heap.size W W1) : ArgAm W1 v l := by
  cases h with
  | nil a cap => exact .nil a cap
  | row b off cap p h1 h2 h3 h4 h5 => exact .row b off cap _ (Nat.lt_of_lt_of_le h1 hb.size) h2 h3 h4 (fun i hi => by
      have := h5 i hi
      exact ⟨(World.cell?_of_block (hb.block b h1)).trans this.1, (World.cell?_of_block (hb.block b h1)).trans this.2.1, (World.cell?_of_block (hb.block b h1)).trans this.2.2.1, (World.cell?_of_block (hb.block b h1)).trans this.2.2.2.1, (World.cell?_of_block (hb.block b h1)).trans this.2.2.2.2.1, (World.cell?_of_block (hb.block b h1)).trans this.2.2.2.2.2⟩)
theorem argAm_len {w : World} {v : Value} {l : List Am} (h : ArgAm w v l) : l.length ≤ 9223372036854775807 := by
  cases h with
  | nil a cap => simp
  | row b off cap p h1 h2 h3 h4 h5 => unfold maxLen at h4; omega
/-- What the first have of letters. -/
def szAmU (l : List Am) : Nat → Nat
  | 0 => 0
  | i + 1 => szAmU l i + (match l[i]? with | some x => x.byte.size | none => 0)
theorem szAmU_succ (l : List Am) (i : Nat) (h : i < l.length) : szAmU l (i + 1) = szAmU l i + (l[i].byte.size) := by
  show szAmU l i + _ = _
  rw [List.getElem?_eq_getElem h]
theorem szAmU_mono (l : List Am) : ∀ i j, i ≤ j → szAmU l i ≤ szAmU l j
  | i, 0, h => by obtain rfl : i = 0 := by omega
                  exact Nat.le_refl _
  | i, j + 1, h => by
    by_cases e : i = j + 1
    · subst e; exact Nat.le_refl _
    · have := szAmU_mono l i j (by omega)
      show _ ≤ szAmU l j + _
      omega
def szAmn (l : List Am) : Nat := l.length + szAmU l l.length

set_option maxHeartbeats 1000000 in
theorem szAtom_any (x : Am) (left : Nat) (w : World) (hl : left ≤ 1048576) (h : x.byte.size ≤ 9223372036854775807) :
    Calls Tryd.prog 42 #[amV x, .int .i64 (left : Int)] w fun e w' => e = .returned (.int .i64 (if x.byte.size ≤ left then ((left - (x.byte.size) : Nat) : Int) else -1)) ∧ Below w.heap.size w w' := by
  unfold amV
  obtain ⟨R, hR⟩ : ∃ R : Int, R = if x.byte.size ≤ left then ((left - (x.byte.size) : Nat) : Int) else -1 := ⟨_, rfl⟩
  rw [← hR]
  have HR := hide hR
  clear hR
  go_enter Tryd.func42, Tryd.ntmps42
  go_wp2
  all_goals
    go_ret
    refine ⟨ret_i2 ?_, (Below.refl _ _).alloc (Nat.le_refl _) _⟩
    rw [HR.out]
    split <;> omega

set_option maxHeartbeats 2000000 in
/-- Too many letters are told by -1. -/
theorem szAm_from {w : World} {v : Value} {l : List Am} (h : ArgAm w v l) (hs : ∀ i (hi : i < l.length), l[i].byte.size ≤ 9223372036854775807) (hm : l.length ≤ 9223372036854775807) (left : Nat) (hlf : left ≤ 1048576) :
    Calls Tryd.prog 20 #[v, .int .i64 (left : Int)] w fun e w' => e = .returned (.int .i64 (if szAmn l ≤ left then ((left - szAmn l : Nat) : Int) else -1)) ∧ Below w.heap.size w w' := by
  cases h with
  | nil a cap =>
    have e0 : (if szAmn ([] : List Am) ≤ left then ((left - szAmn ([] : List Am) : Nat) : Int) else -1) = left := by simp [szAmn, szAmU]
    rw [e0]
    go_enter Tryd.func20, Tryd.ntmps20
    go_wp2
    go_loop [1, 5] (fun k i => k = .int .i64 (left : Int) ∧ i = .int .i64 0) (fun _ _ => 0)
    case atStart => exact ⟨rfl, rfl⟩
    case round =>
      obtain ⟨rfl, rfl⟩ := hrel
      go_wp2
      go_ret
      exact ⟨rfl, Below.refl _ _⟩
  | row b off cap l hb hn hle hmx hc =>
    have Hc := hide hc
    have Hs := hide hs
    clear hc hs
    obtain ⟨R, hR⟩ : ∃ R : Int, R = if szAmn l ≤ left then ((left - szAmn l : Nat) : Int) else -1 := ⟨_, rfl⟩
    rw [← hR]
    unfold szAmn at hR
    have HR := hide hR
    clear hR
    by_cases hbig : l.length ≤ left
    · go_enter Tryd.func20, Tryd.ntmps20
      go_wp2
      go_loopw [1, 5] (fun k i wr => ∃ m : Nat, i = .int .i64 m ∧ m ≤ l.length ∧ l.length + szAmU l m ≤ left ∧ k = .int .i64 ((left - (l.length + szAmU l m) : Nat) : Int) ∧ Below w.heap.size w wr) (fun _ i _ => l.length - (intOf i).toNat)
      case atStart => exact ⟨0, rfl, Nat.zero_le _, by show l.length + 0 ≤ _; omega, by rw [show ((left - (l.length + szAmU l 0) : Nat) : Int) = (left : Int) - (l.length : Int) by show ((left - (l.length + 0) : Nat) : Int) = _; omega], Below.refl _ _⟩
      case round =>
        obtain ⟨m, rfl, hm1, hm2, rfl, hbel⟩ := hrel
        by_cases hlt : m < l.length
        · obtain ⟨c0, c1, c2, c3, c4, c5⟩ := Hc.out m hlt
          have d0 := (World.cell?_of_block (a := ⟨b, off + m * 6, none⟩) (hbel.block b hb)).trans c0
          have d1 := (World.cell?_of_block (a := ⟨b, off + m * 6 + 1, none⟩) (hbel.block b hb)).trans c1
          have d2 := (World.cell?_of_block (a := ⟨b, off + m * 6 + 2, none⟩) (hbel.block b hb)).trans c2
          have d3 := (World.cell?_of_block (a := ⟨b, off + m * 6 + 3, none⟩) (hbel.block b hb)).trans c3
          have d4 := (World.cell?_of_block (a := ⟨b, off + m * 6 + 4, none⟩) (hbel.block b hb)).trans c4
          have d5 := (World.cell?_of_block (a := ⟨b, off + m * 6 + 5, none⟩) (hbel.block b hb)).trans c5
          have S := hide (szAtom_any l[m] (left - (l.length + szAmU l m)) wr (by omega) (Hs.out m hlt))
          have hsu := szAmU_succ l m hlt
          have hmo := szAmU_mono l (m + 1) l.length (by omega)
          clear c0 c1 c2 c3 c4 c5
          by_cases hfit : l[m].byte.size ≤ left - (l.length + szAmU l m)
          · rw [if_pos hfit] at S
            have e1 : left - (l.length + szAmU l m) - (l[m].byte.size) = left - (l.length + szAmU l (m + 1)) := by omega
            rw [e1] at S
            have hm3 : l.length + szAmU l (m + 1) ≤ left := by omega
            obtain ⟨x, hx⟩ : ∃ x, x = left - (l.length + szAmU l (m + 1)) := ⟨_, rfl⟩
            rw [← hx] at S
            have Hx := hide hx
            clear hx hsu e1
            go_wp2_with fail
            refine S.out.mono ?_
            rintro e w2 ⟨rfl, hb2⟩
            go_wp2
            refine ⟨⟨m + 1, by go_num, by omega, hm3, by rw [Hx.out], hbel.trans (hb2.mono hbel.size)⟩, by simp [intOf]; omega⟩
          · rw [if_neg hfit] at S
            have hno : ¬ l.length + szAmU l l.length ≤ left := by omega
            have Hno := hide hno
            clear hsu hmo hno
            go_wp2_with fail
            refine S.out.mono ?_
            rintro e w2 ⟨rfl, hb2⟩
            go_wp2
            go_ret
            refine ⟨ret_i2 ?_, hbel.trans (hb2.mono hbel.size)⟩
            rw [HR.out, if_neg Hno.out]
        · obtain rfl : m = l.length := by omega
          go_wp2
          go_ret
          refine ⟨ret_i2 ?_, hbel⟩
          rw [HR.out, if_pos hm2]
    · go_enter Tryd.func20, Tryd.ntmps20
      go_wp2
      go_ret
      refine ⟨ret_i2 ?_, Below.refl _ _⟩
      rw [HR.out, if_neg (by omega)]

set_option maxHeartbeats 1000000 in
theorem toAtom_any (x : Am) (w : World) :
    Calls Tryd.prog 45 #[amV x] w fun e w' => e = .returned (amV x) ∧ Below w.heap.size w w' := by
  unfold amV
  go_enter Tryd.func45, Tryd.ntmps45
  go_wp2
  refine bodyPost_ret (v := .agg #[.int .i64 x.time, .int .i64 x.actor, .int .i64 x.above, .int .i64 x.maker, .string x.byte, .bool x.gone]) (by simp [results, Tryd.results45, go_sem]) rfl ⟨rfl, ?_⟩
  exact (((Below.refl _ _).alloc (Nat.le_refl _) _).alloc (by simp) _).alloc (by simp; omega) _

theorem makeAm (n : Nat) (hn : n ≤ 2000000) : ∃ C : Array Value, C.size = n * 6 ∧ ∀ w : World, (Instr.makeSlice 26 (.int .i64 (n : Int)) (.int .i64 (n : Int))).run Tryd.prog w = .ok (.slice (some ⟨w.heap.size, 0, none⟩) n n) (w.alloc (.cells C 47)) := by
  have hinfo : (Tryd.prog.info? 47).map (fun i => (i.zero, i.size, i.bytes)) = some (some (.agg #[.int .i64 0, .int .i64 0, .int .i64 0, .int .i64 0, .string ⟨#[]⟩, .bool false]), 6, 56) := by kernel_rfl
  obtain ⟨i0, hi0, hz0, hz1, hz2⟩ := info_parts hinfo
  refine ⟨madeCells (Value.agg #[.int .i64 0, .int .i64 0, .int .i64 0, .int .i64 0, .string ⟨#[]⟩, .bool false]).cells (n * i0.size), by rw [size_madeCells, hz1], fun w => ?_⟩
  have := run_make (P := Tryd.prog) w 26 47 i0 (.agg #[.int .i64 0, .int .i64 0, .int .i64 0, .int .i64 0, .string ⟨#[]⟩, .bool false]) Tryd.underlying26 hi0 hz0 .i64 .i64 n n (by omega) (Int.le_refl _) (by rw [hz2]; omega) (by omega)
  simpa only [Int.toNat_natCast] using this

/-- A copy of what came in. -/
structure AmCp (w : World) (g : Nat) (l : List Am) : Prop where
  at' : CLs w g (encAm l)
  blk : Blk w g (l.length * 6)
  lt : g < w.heap.size
theorem AmCp.later {w w1 : World} {g : Nat} {l : List Am} (h : AmCp w g l) (hb : Below w.heap.size w w1) : AmCp w1 g l := ⟨h.at'.later hb h.lt, h.blk.later hb h.lt, Nat.lt_of_lt_of_le h.lt hb.size⟩

set_option maxHeartbeats 2000000 in
theorem toAm_cp {w : World} {v : Value} {l : List Am} (h : ArgAm w v l) (hm : l.length ≤ 2000000) :
    Calls Tryd.prog 24 #[v] w fun e w' => e = .returned (.slice (some ⟨w.heap.size, 0, none⟩) l.length l.length) ∧ AmCp w' w.heap.size l ∧ Below w.heap.size w w' := by
  cases h with
  | nil a cap =>
    obtain ⟨C, hC, hmk⟩ := makeAm 0 (by omega)
    have S0 := hide (wc_start (cs := encAm []) (w := w) (C := C) (t := 47) (by rw [encAm_len]; simpa using hC))
    have hmk0 : ∀ w : World, (Instr.makeSlice 26 (.int .i64 0) (.int .i64 0)).run Tryd.prog w = .ok (.slice (some ⟨w.heap.size, 0, none⟩) 0 0) (w.alloc (.cells C 47)) := hmk
    clear hmk hC
    go_enter Tryd.func24, Tryd.ntmps24
    go_wp2
    go_loop [4] (fun i => i = .int .i64 0) (fun _ => 0)
    case atStart => rfl
    case round =>
      subst hrel
      go_wp2
      go_ret
      exact ⟨rfl, ⟨fun j u hu => by simp [encAm] at hu, by simpa [encAm] using S0.out.blk, S0.out.lt⟩, S0.out.below⟩
  | row b off cap l hb hn hle hmx hc =>
    obtain ⟨C, hC, hmk⟩ := makeAm l.length hm
    have S0 := hide (wc_start (cs := encAm l) (w := w) (C := C) (t := 47) (by rw [encAm_len]; exact hC))
    have Hc := hide hc
    clear hC hc
    go_enter Tryd.func24, Tryd.ntmps24
    go_wp2
    clear hmk
    go_loopw [4] (fun i wr => ∃ k : Nat, k ≤ l.length ∧ i = .int .i64 k ∧ WC (encAm l) w (k * 6) wr) (fun i _ => l.length - (intOf i).toNat)
    case atStart => exact ⟨0, by omega, rfl, by rw [Nat.zero_mul]; exact S0.out⟩
    case round =>
      obtain ⟨k, hk, rfl, hat⟩ := hrel
      by_cases hlt : k < l.length
      · obtain ⟨c0, c1, c2, c3, c4, c5⟩ := Hc.out k hlt
        have d0 := (World.cell?_of_block (a := ⟨b, off + k * 6, none⟩) (hat.below.block b hb)).trans c0
        have d1 := (World.cell?_of_block (a := ⟨b, off + k * 6 + 1, none⟩) (hat.below.block b hb)).trans c1
        have d2 := (World.cell?_of_block (a := ⟨b, off + k * 6 + 2, none⟩) (hat.below.block b hb)).trans c2
        have d3 := (World.cell?_of_block (a := ⟨b, off + k * 6 + 3, none⟩) (hat.below.block b hb)).trans c3
        have d4 := (World.cell?_of_block (a := ⟨b, off + k * 6 + 4, none⟩) (hat.below.block b hb)).trans c4
        have d5 := (World.cell?_of_block (a := ⟨b, off + k * 6 + 5, none⟩) (hat.below.block b hb)).trans c5
        have Hat := hide hat
        have T := hide (toAtom_any l[k] wr)
        clear hat c0 c1 c2 c3 c4 c5
        go_wp2_with fail
        refine T.out.mono ?_
        rintro e w2 ⟨rfl, hb2⟩
        have h2 := Hat.out.later hb2
        have hel := encAm_len l
        obtain ⟨x0, y0⟩ := h2.blk.ex (k * 6) (by omega)
        have f0 := h2.blk.fz (k * 6)
        obtain ⟨x1, y1⟩ := h2.blk.ex (k * 6 + 1) (by omega)
        have f1 := h2.blk.fz (k * 6 + 1)
        obtain ⟨x2, y2⟩ := h2.blk.ex (k * 6 + 2) (by omega)
        have f2 := h2.blk.fz (k * 6 + 2)
        obtain ⟨x3, y3⟩ := h2.blk.ex (k * 6 + 3) (by omega)
        have f3 := h2.blk.fz (k * 6 + 3)
        obtain ⟨x4, y4⟩ := h2.blk.ex (k * 6 + 4) (by omega)
        have f4 := h2.blk.fz (k * 6 + 4)
        obtain ⟨x5, y5⟩ := h2.blk.ex (k * 6 + 5) (by omega)
        have f5 := h2.blk.fz (k * 6 + 5)
        have ea := encAm_at l k hlt
        have A := hide ((((((h2.put _ ea.1).put _ ea.2.1).put _ ea.2.2.1).put _ ea.2.2.2.1).put _ ea.2.2.2.2.1).put _ ea.2.2.2.2.2)
        unfold amV
        clear h2 d0 d1 d2 d3 d4 d5 hel ea
        go_wp2
        refine ⟨⟨k + 1, by omega, by go_num, by rw [show (k + 1) * 6 = k * 6 + 5 + 1 by omega]; exact A.out⟩, by simp [intOf]; omega⟩
      · obtain rfl : k = l.length := by omega
        go_wp2
        go_ret
        rw [← encAm_len] at hat
        exact ⟨rfl, ⟨hat.all, by rw [← encAm_len]; exact hat.blk, hat.lt⟩, hat.below⟩

theorem eqAm_cp {w : World} {ga gb : Nat} {l : List Am} (ha : AmCp w ga l) (hb : AmCp w gb l) (hm : l.length ≤ 2000000) :
    Calls Tryd.prog 34 #[.slice (some ⟨ga, 0, none⟩) l.length l.length, .slice (some ⟨gb, 0, none⟩) l.length l.length] w fun e w' => e = .returned (.bool true) ∧ Below w.heap.size w w' :=
  eqAtomS_at ga gb l.length l.length l w (by omega) ⟨Nat.le_refl _, by unfold maxLen; omega⟩ ⟨Nat.le_refl _, by unfold maxLen; omega⟩ ha.at' hb.at' ha.lt hb.lt

theorem markAm_from {w : World} {g : Nat} {l : List Am} (h : AmCp w g l) (hm : l.length ≤ 2000000) (K : Nat) (hK : 0 < K ∧ K ≤ 400000000) :
    Calls Tryd.prog 35 #[.slice (some ⟨g, 0, none⟩) l.length l.length, .int .i64 (K : Int)] w fun e w' => e = .returned (.int .i64 (K + l.length * 6 : Nat)) ∧ w.grownBy w' (some g) := by
  refine (markAtomS_k g l.length l.length K w (by omega) (by omega) ⟨Nat.le_refl _, by unfold maxLen; omega⟩ h.lt h.blk).mono ?_
  rintro e w' ⟨rfl, hg, -⟩
  exact ⟨rfl, hg⟩

def AmOwn (w : World) (B : Nat) (v : Value) (l : List Am) : Prop := w.ownsRow B 47 6 v l.length (encAm l)
theorem AmOwn.mono {w : World} {B B' : Nat} {v : Value} {l : List Am} (h : AmOwn w B v l) (hB : B' ≤ B) : AmOwn w B' v l := own_mono h hB
/-- A row that is marked from K on. -/
def AmMk (K : Nat) (w : World) (v : Value) (n : Nat) : Prop := (n = 0 ∧ ∃ a cap, v = .slice a 0 cap) ∨ ∃ g cap, v = .slice (some ⟨g, 0, none⟩) n cap ∧ n ≤ cap ∧ cap ≤ maxLen ∧ g < w.heap.size ∧ MkAmA K w g (n * 6)
theorem AmMk.later {K : Nat} {w w1 : World} {v : Value} {n : Nat} (h : AmMk K w v n) (hb : Below w.heap.size w w1) : AmMk K w1 v n :=
  h.imp id (fun ⟨g, cap, e, h1, h2, h3, h4⟩ => ⟨g, cap, e, h1, h2, Nat.lt_of_lt_of_le h3 hb.size, h4.later hb h3⟩)
theorem AmMk.grown {K : Nat} {w w1 : World} {v : Value} {n : Nat} {r : Option Nat} (h : AmMk K w v n) (hg : w.grownBy w1 r) (hne : ∀ y, v.ownBlock = some y → r ≠ some y) : AmMk K w1 v n := by
  rcases h with h | ⟨g, cap, rfl, h1, h2, h3, h4⟩
  · exact .inl h
  · exact .inr ⟨g, cap, rfl, h1, h2, Nat.lt_of_lt_of_le h3 hg.size, fun j hj => (World.cell?_of_block (a := ⟨g, j, none⟩) (hg.block g h3 (fun e => hne g rfl e.symm))).trans (h4 j hj)⟩
theorem AmCp.grown {w w1 : World} {g : Nat} {l : List Am} {r : Option Nat} (h : AmCp w g l) (hg : w.grownBy w1 r) (hne : r ≠ some g) : AmCp w1 g l :=
  ⟨fun j u hu => (World.cell?_of_block (a := ⟨g, j, none⟩) (hg.block g h.lt (fun e => hne e.symm))).trans (h.at' j u hu), ⟨fun j hj => by obtain ⟨v, hv⟩ := h.blk.ex j hj; exact ⟨v, (World.cell?_of_block (a := ⟨g, j, none⟩) (hg.block g h.lt (fun e => hne e.symm))).trans hv⟩, fun j => (World.frozen?_of_block (a := ⟨g, j, none⟩) (hg.block g h.lt (fun e => hne e.symm))).trans (h.blk.fz j)⟩, Nat.lt_of_lt_of_le h.lt hg.size⟩

set_option maxHeartbeats 400000 in
theorem eqAtomS_zero (a b : Option Addr) (ca cb : Nat) (w : World) :
    Calls Tryd.prog 34 #[.slice a 0 ca, .slice b 0 cb] w fun e w' => e = .returned (.bool true) ∧ w' = w := by
  go_enter Tryd.func34, Tryd.ntmps34
  go_wp2
  go_loop [5] (fun i => i = .int .i64 0) (fun _ => 0)
  case atStart => rfl
  case round =>
    subst hrel
    go_wp2
    go_ret
    exact ⟨rfl, rfl⟩

set_option maxHeartbeats 400000 in
theorem markAtomS_zero (a : Option Addr) (ca : Nat) (K : Int) (w : World) :
    Calls Tryd.prog 35 #[.slice a 0 ca, .int .i64 K] w fun e w' => e = .returned (.int .i64 K) ∧ w' = w := by
  go_enter Tryd.func35, Tryd.ntmps35
  go_wp2
  go_loop [1, 5] (fun k i => k = .int .i64 K ∧ i = .int .i64 0) (fun _ _ => 0)
  case atStart => exact ⟨rfl, rfl⟩
  case round =>
    obtain ⟨rfl, rfl⟩ := hrel
    go_wp2
    go_ret
    exact ⟨rfl, rfl⟩

set_option maxHeartbeats 400000 in
theorem heldAtomS_zero (a : Option Addr) (ca : Nat) (K : Int) (w : World) :
    Calls Tryd.prog 36 #[.slice a 0 ca, .int .i64 K] w fun e w' => e = .returned (.int .i64 K) ∧ w' = w := by
  go_enter Tryd.func36, Tryd.ntmps36
  go_wp2
  go_loop [1, 5] (fun k i => k = .int .i64 K ∧ i = .int .i64 0) (fun _ _ => 0)
  case atStart => exact ⟨rfl, rfl⟩
  case round =>
    obtain ⟨rfl, rfl⟩ := hrel
    go_wp2
    go_ret
    exact ⟨rfl, rfl⟩

theorem eqAm_own {w : World} {Ba Bb : Nat} {va vb : Value} {l : List Am} (ha : AmOwn w Ba va l) (hb : AmOwn w Bb vb l) (hm : l.length ≤ 10000000) :
    Calls Tryd.prog 34 #[va, vb] w fun e w' => e = .returned (.bool true) ∧ Below w.heap.size w w' := by
  unfold AmOwn at ha hb
  by_cases h0 : l = []
  · subst h0
    obtain ⟨a, ca, rfl, -, -⟩ := own_shp ha
    obtain ⟨b, cb, rfl, -, -⟩ := own_shp hb
    refine (eqAtomS_zero a b ca cb w).mono ?_
    rintro e w' ⟨rfl, rfl⟩
    exact ⟨rfl, Below.refl _ _⟩
  · have hp := List.length_pos_iff.2 h0
    obtain ⟨ga, ca, rfl, a1, a2, -, a3, a4, -⟩ := own_cat ha hp
    obtain ⟨gb, cb, rfl, b1, b2, -, b3, b4, -⟩ := own_cat hb hp
    exact eqAtomS_at ga gb ca cb l w hm ⟨a1, a2⟩ ⟨b1, b2⟩ a4 b4 a3 b3

theorem markAm_own {w : World} {B : Nat} {v : Value} {l : List Am} (h : AmOwn w B v l) (hm : l.length ≤ 10000000) (K : Nat) (hK : 0 < K ∧ K ≤ 400000000) :
    Calls Tryd.prog 35 #[v, .int .i64 (K : Int)] w fun e w' => e = .returned (.int .i64 (K + l.length * 6 : Nat)) ∧ w.grownBy w' v.ownBlock ∧ AmMk K w' v l.length := by
  unfold AmOwn at h
  by_cases h0 : l = []
  · subst h0
    obtain ⟨a, ca, rfl, -, -⟩ := own_shp h
    refine (markAtomS_zero a ca K w).mono ?_
    rintro e w' ⟨rfl, rfl⟩
    exact ⟨rfl, grown_self _ _, .inl ⟨rfl, a, ca, rfl⟩⟩
  · obtain ⟨ga, ca, rfl, a1, a2, -, a3, a4, a5⟩ := own_cat h (List.length_pos_iff.2 h0)
    refine (markAtomS_k ga ca l.length K w hm (by omega) ⟨a1, a2⟩ a3 (by rw [← encAm_len]; exact a5)).mono ?_
    rintro e w' ⟨rfl, hg, hi⟩
    exact ⟨rfl, hg, .inr ⟨ga, ca, rfl, a1, a2, Nat.lt_of_lt_of_le a3 hg.size, hi⟩⟩

theorem heldAm_own {w : World} {v : Value} {n K : Nat} (h : AmMk K w v n) (hm : n ≤ 10000000) (hK : 0 < K ∧ K ≤ 400000000) :
    Calls Tryd.prog 36 #[v, .int .i64 (K : Int)] w fun e w' => e = .returned (.int .i64 (K + n * 6 : Nat)) ∧ Below w.heap.size w w' := by
  rcases h with ⟨rfl, a, ca, rfl⟩ | ⟨g, cap, rfl, h1, h2, h3, h4⟩
  · refine (heldAtomS_zero a ca K w).mono ?_
    rintro e w' ⟨rfl, rfl⟩
    exact ⟨rfl, Below.refl _ _⟩
  · exact heldAtomS_k g cap n K w (by omega) hm ⟨h1, h2⟩ h3 h4
end Go.Proofs.YtnhooalibadeeabDoor
