/- The contracts of the laws' own helpers over rows of Bough: held against one another, marked, measured, copied. -/
import Derived.Test.YtpeconmdmddkfaaDoorRop1
import Derived.Test.YtpeconmdmddkfaaDoorCells
import Derived.Test.YtpeconmdmddkfaaDoorOwnG
import Derived.Test.YtpeconmdmddkfaaDoorNodes2
import Derived.Deep.QuietTactic
import Derived.BigQuiet
import Derived.Deep.RegionWith
namespace Go.Proofs.YtpeconmdmddkfaaDoor
open Go.RowKit
open Doc1

def bgV (x : Bg) : Value := .agg #[.int .i64 x.left, .int .i64 x.right, .string x.text, .int .i64 x.size, .int .i64 x.deep]
def bgC (x : Bg) : List Value := [.int .i64 x.left, .int .i64 x.right, .string x.text, .int .i64 x.size, .int .i64 x.deep]
def encBo (l : List Bg) : List Value := l.flatMap bgC
theorem encBo_len (l : List Bg) : (encBo l).length = l.length * 5 := by
  induction l with
  | nil => rfl
  | cons x l ih => rw [encBo, List.flatMap_cons, List.length_append]; change _ + (encBo l).length = _; rw [ih]; simp [bgC]; omega
theorem encBo_app (a b : List Bg) : encBo (a ++ b) = encBo a ++ encBo b := by simp [encBo]
theorem encBo_at (l : List Bg) : ∀ i (h : i < l.length), (encBo l)[i * 5]? = some (.int .i64 l[i].left) ∧ (encBo l)[i * 5 + 1]? = some (.int .i64 l[i].right) ∧ (encBo l)[i * 5 + 2]? = some (.string l[i].text) ∧ (encBo l)[i * 5 + 3]? = some (.int .i64 l[i].size) ∧ (encBo l)[i * 5 + 4]? = some (.int .i64 l[i].deep) := by
  induction l with
  | nil => intro i h; simp at h
  | cons x l ih =>
    intro i h
    have e : encBo (x :: l) = bgC x ++ encBo l := by simp [encBo]
    cases i with
    | zero => rw [e]; simp [bgC]
    | succ i =>
      have := ih i (by simpa using h)
      rw [e, show (i + 1) * 5 = 5 + i * 5 by omega, show 5 + i * 5 + 1 = 5 + (i * 5 + 1) by omega, show 5 + i * 5 + 2 = 5 + (i * 5 + 2) by omega, show 5 + i * 5 + 3 = 5 + (i * 5 + 3) by omega, show 5 + i * 5 + 4 = 5 + (i * 5 + 4) by omega]
      rw [List.getElem?_append_right (by simp [bgC]), List.getElem?_append_right (by simp [bgC]), List.getElem?_append_right (by simp [bgC]), List.getElem?_append_right (by simp [bgC]), List.getElem?_append_right (by simp [bgC])]
      simpa [bgC] using this
def ksBo (j : Nat) : Bool := j % 5 == 2
theorem CLs.bgat {w : World} {g : Nat} {l : List Bg} (h : CLs w g (encBo l)) (i : Nat) (hi : i < l.length) : w.cell? ⟨g, i * 5, none⟩ = some (.int .i64 l[i].left) ∧ w.cell? ⟨g, i * 5 + 1, none⟩ = some (.int .i64 l[i].right) ∧ w.cell? ⟨g, i * 5 + 2, none⟩ = some (.string l[i].text) ∧ w.cell? ⟨g, i * 5 + 3, none⟩ = some (.int .i64 l[i].size) ∧ w.cell? ⟨g, i * 5 + 4, none⟩ = some (.int .i64 l[i].deep) := by
  have := encBo_at l i hi
  exact ⟨h _ _ this.1, h _ _ this.2.1, h _ _ this.2.2.1, h _ _ this.2.2.2.1, h _ _ this.2.2.2.2⟩

set_option maxHeartbeats 1000000 in
theorem eqBough_same (x : Bg) (w : World) :
    Calls Tryd.prog 145 #[bgV x, bgV x] w fun e w' => e = .returned (.bool true) ∧ Below w.heap.size w w' := by
  unfold bgV
  go_enter Tryd.func145, Tryd.ntmps145
  go_wp2
  go_ret
  exact ⟨rfl, (((Below.refl _ _).alloc (Nat.le_refl _) _).alloc (by simp) _)⟩

set_option maxHeartbeats 1000000 in
theorem eqBoughS_at (ga gb ca cb : Nat) (l : List Bg) (w : World) (hm : l.length ≤ 10000000) (_h1 : l.length ≤ ca ∧ ca ≤ maxLen) (_h2 : l.length ≤ cb ∧ cb ≤ maxLen) (ha : CLs w ga (encBo l)) (hb : CLs w gb (encBo l)) (hga : ga < w.heap.size) (hgb : gb < w.heap.size) :
    Calls Tryd.prog 96 #[.slice (some ⟨ga, 0, none⟩) l.length ca, .slice (some ⟨gb, 0, none⟩) l.length cb] w fun e w' => e = .returned (.bool true) ∧ Below w.heap.size w w' := by
  have E : Hid (∀ x w, Calls Tryd.prog 145 #[bgV x, bgV x] w fun e w' => e = .returned (.bool true) ∧ Below w.heap.size w w') := hide (fun x w => eqBough_same x w)
  go_enter Tryd.func96, Tryd.ntmps96
  go_wp2
  go_loopw [5] (fun i wr => ∃ k : Nat, k ≤ l.length ∧ i = .int .i64 k ∧ Below w.heap.size w wr) (fun i _ => l.length - (intOf i).toNat)
  case atStart => exact ⟨0, by omega, rfl, Below.refl _ _⟩
  case round =>
    obtain ⟨k, hk, rfl, hbel⟩ := hrel
    by_cases hlt : k < l.length
    · obtain ⟨a0, a1, a2, a3, a4⟩ := (ha.later hbel hga).bgat k hlt
      obtain ⟨b0, b1, b2, b3, b4⟩ := (hb.later hbel hgb).bgat k hlt
      go_wp2_with fail
      go_region_with (go_at_call 145; refine (E.out l[k] _).mono ?_; rintro e w' ⟨rfl, hb'⟩)
      all_goals
        go_wp2
        go_roundw
        case rel => exact ⟨k + 1, by omega, by go_num, hbel.trans ((Below.refl _ _).drew.trans (hb'.mono (show w.heap.size ≤ wr.drew.heap.size from hbel.size)))⟩
        case measure => simp [intOf]; omega
    · go_wp2
      go_ret
      exact ⟨rfl, hbel⟩

set_option maxHeartbeats 2000000 in
theorem markBoughS_at (g c n : Nat) (w : World) (hm : n ≤ 10000000) (_h1 : n ≤ c ∧ c ≤ maxLen) (hg : g < w.heap.size) (hb : Blk w g (n * 5)) :
    Calls Tryd.prog 97 #[.slice (some ⟨g, 0, none⟩) n c, .int .i64 1] w fun e w' => e = .returned (.int .i64 (1 + n * 5 : Nat)) ∧ w.grownBy w' (some g) ∧ CLs w' g (mkAll ksBo (n * 5)) := by
  have T : Hid (∀ (K : Nat) w, 0 < K → K ≤ 1000000000 → Calls Tryd.prog 69 #[.int .i64 (K : Int)] w fun e w' => e = .returned (.string (mkT K)) ∧ Below w.heap.size w w') := hide (fun K w h1 h2 => markText_any K w h1 h2)
  go_enter Tryd.func97, Tryd.ntmps97
  go_wp2
  go_loopw [1, 5] (fun k1 i wr => ∃ k : Nat, k ≤ n ∧ i = .int .i64 k ∧ k1 = .int .i64 (1 + k * 5 : Nat) ∧ Hid (MC ksBo w g (n * 5) (k * 5) wr)) (fun _ i _ => n - (intOf i).toNat)
  case atStart => exact ⟨0, by omega, rfl, rfl, by rw [Nat.zero_mul]; exact hide (mc_start hb hg)⟩
  case round =>
    obtain ⟨k, hk, rfl, rfl, R0⟩ := hrel
    by_cases hlt : k < n
    · clear hb
      have r0 := R0.out
      obtain ⟨x0, hx0⟩ := r0.blk.ex (k * 5) (by omega)
      have f0 := r0.blk.fz (k * 5)
      have R1 := hide (r0.put (by omega) (.int .i64 (1 + (k : Int) * 5)) (by rw [show (1 + (k : Int) * 5) = ((1 + (k * 5) : Nat) : Int) by omega]; exact mkI (by simp [ksBo]; try omega)))
      clear r0
      have r1 := R1.out
      obtain ⟨x1, hx1⟩ := r1.blk.ex (k * 5 + 1) (by omega)
      have f1 := r1.blk.fz (k * 5 + 1)
      have R2 := hide (r1.put (by omega) (.int .i64 (1 + (k : Int) * 5 + 1)) (by rw [show (1 + (k : Int) * 5 + 1) = ((1 + (k * 5 + 1) : Nat) : Int) by omega]; exact mkI (by simp [ksBo]; try omega)))
      clear r1
      obtain ⟨W1, hW1⟩ : ∃ W, W = (wr.setCell ⟨g, k * 5, none⟩ (.int .i64 (1 + (k : Int) * 5))).setCell ⟨g, k * 5 + 1, none⟩ (.int .i64 (1 + (k : Int) * 5 + 1)) := ⟨_, rfl⟩
      rw [← hW1] at R2
      go_wp2_with fail
      rw [← hW1]
      clear hW1 hx1 f1
      go_wp2_with fail
      refine (T.out (1 + k * 5 + 2) W1 (by omega) (by omega)).mono ?_
      rintro e u2 ⟨rfl, hb2⟩
      have r2 := R2.out.below hb2
      obtain ⟨x2, hx2⟩ := r2.blk.ex (k * 5 + 2) (by omega)
      have f2 := r2.blk.fz (k * 5 + 2)
      have R3 := hide (r2.put (by omega) (.string (mkT (1 + k * 5 + 2))) (by rw [show 1 + k * 5 + 2 = 1 + (k * 5 + 2) by omega]; exact mkS (by simp [ksBo]; try omega)))
      clear r2 hb2
      have r3 := R3.out
      obtain ⟨x3, hx3⟩ := r3.blk.ex (k * 5 + 3) (by omega)
      have f3 := r3.blk.fz (k * 5 + 3)
      have R4 := hide (r3.put (by omega) (.int .i64 (1 + (k : Int) * 5 + 1 + 1 + 1)) (by rw [show (1 + (k : Int) * 5 + 1 + 1 + 1) = ((1 + (k * 5 + 3) : Nat) : Int) by omega]; exact mkI (by simp [ksBo]; try omega)))
      clear r3
      have r4 := R4.out
      obtain ⟨x4, hx4⟩ := r4.blk.ex (k * 5 + 4) (by omega)
      have f4 := r4.blk.fz (k * 5 + 4)
      have R5 := hide (r4.put (by omega) (.int .i64 (1 + (k : Int) * 5 + 1 + 1 + 1 + 1)) (by rw [show (1 + (k : Int) * 5 + 1 + 1 + 1 + 1) = ((1 + (k * 5 + 4) : Nat) : Int) by omega]; exact mkI (by simp [ksBo]; try omega)))
      clear r4
      obtain ⟨W4, hW4⟩ : ∃ W, W = ((u2.setCell ⟨g, k * 5 + 2, none⟩ (.string (mkT (1 + k * 5 + 2)))).setCell ⟨g, k * 5 + 3, none⟩ (.int .i64 (1 + (k : Int) * 5 + 1 + 1 + 1))).setCell ⟨g, k * 5 + 4, none⟩ (.int .i64 (1 + (k : Int) * 5 + 1 + 1 + 1 + 1)) := ⟨_, rfl⟩
      rw [← hW4] at R5
      go_wp2
      rw [← hW4]
      refine ⟨⟨k + 1, by omega, by go_num, by rw [show (1 : Int) + ↑k * 5 + 1 + 1 + 1 + 1 + 1 = ((1 + (k + 1) * 5 : Nat) : Int) by omega], ?_⟩, by simp [intOf]; omega⟩
      rw [show (k + 1) * 5 = k * 5 + 4 + 1 by omega]
      exact R5
    · obtain rfl : k = n := by omega
      go_wp2
      go_ret
      exact ⟨rfl, R0.out.grown, R0.out.all⟩

set_option maxHeartbeats 4000000 in
theorem heldBoughS_at (g c n : Nat) (w : World) (hm : n ≤ 10000000) (_h1 : n ≤ c ∧ c ≤ maxLen) (hg : g < w.heap.size) (hb : CLs w g (mkAll ksBo (n * 5))) :
    Calls Tryd.prog 98 #[.slice (some ⟨g, 0, none⟩) n c, .int .i64 1] w fun e w' => e = .returned (.int .i64 (1 + n * 5 : Nat)) ∧ Below w.heap.size w w' := by
  have T : Hid (∀ (K : Nat) w, 0 < K → K ≤ 1000000000 → Calls Tryd.prog 69 #[.int .i64 (K : Int)] w fun e w' => e = .returned (.string (mkT K)) ∧ Below w.heap.size w w') := hide (fun K w h1 h2 => markText_any K w h1 h2)
  go_enter Tryd.func98, Tryd.ntmps98
  go_wp2
  go_loopw [1, 5] (fun k1 i wr => ∃ k : Nat, k ≤ n ∧ i = .int .i64 k ∧ k1 = .int .i64 (1 + k * 5 : Nat) ∧ Below w.heap.size w wr) (fun _ i _ => n - (intOf i).toNat)
  case atStart => exact ⟨0, by omega, rfl, by rw [Nat.zero_mul]; rfl, Below.refl _ _⟩
  case round =>
    obtain ⟨k, hk, rfl, rfl, hbel⟩ := hrel
    by_cases hlt : k < n
    · have C : Hid (∀ wx, Below w.heap.size w wx → wx.cell? ⟨g, k * 5, none⟩ = some (.int .i64 (1 + (k : Int) * 5)) ∧ wx.cell? ⟨g, k * 5 + 1, none⟩ = some (.int .i64 (1 + (k : Int) * 5 + 1)) ∧ wx.cell? ⟨g, k * 5 + 2, none⟩ = some (.string (mkT (1 + k * 5 + 2))) ∧ wx.cell? ⟨g, k * 5 + 3, none⟩ = some (.int .i64 (1 + (k : Int) * 5 + 1 + 1 + 1)) ∧ wx.cell? ⟨g, k * 5 + 4, none⟩ = some (.int .i64 (1 + (k : Int) * 5 + 1 + 1 + 1 + 1))) := hide (fun wx hx => by
        have h := hb.later hx hg
        refine ⟨?_, ?_, ?_, ?_, ?_⟩
        · rw [show (1 + (k : Int) * 5) = ((1 + (k * 5) : Nat) : Int) by omega]
          exact h _ _ ((mkAll_at ksBo (by omega)).trans (by rw [← mkI (by simp [ksBo]; try omega)]))
        · rw [show (1 + (k : Int) * 5 + 1) = ((1 + (k * 5 + 1) : Nat) : Int) by omega]
          exact h _ _ ((mkAll_at ksBo (by omega)).trans (by rw [← mkI (by simp [ksBo]; try omega)]))
        · rw [show 1 + k * 5 + 2 = 1 + (k * 5 + 2) by omega]
          exact h _ _ ((mkAll_at ksBo (by omega)).trans (by rw [← mkS (by simp [ksBo]; try omega)]))
        · rw [show (1 + (k : Int) * 5 + 1 + 1 + 1) = ((1 + (k * 5 + 3) : Nat) : Int) by omega]
          exact h _ _ ((mkAll_at ksBo (by omega)).trans (by rw [← mkI (by simp [ksBo]; try omega)]))
        · rw [show (1 + (k : Int) * 5 + 1 + 1 + 1 + 1) = ((1 + (k * 5 + 4) : Nat) : Int) by omega]
          exact h _ _ ((mkAll_at ksBo (by omega)).trans (by rw [← mkI (by simp [ksBo]; try omega)])))
      clear hb
      obtain ⟨c0, c1, c2, c3, c4⟩ := C.out wr hbel
      have T2 := hide (fun w => T.out (1 + k * 5 + 2) w (by omega) (by omega))
      go_wp2_with fail
      go_region_with (go_at_call 69; refine (T2.out _).mono ?_; rintro e w2 ⟨rfl, hb2⟩; have hB2 := hbel.trans ((Below.refl _ _).drew.trans (hb2.mono (show w.heap.size ≤ wr.drew.heap.size from hbel.size))); obtain ⟨d2_0, d2_1, d2_2, d2_3, d2_4⟩ := C.out w2 hB2)
      all_goals
        (try clear c0)
        (try clear c1)
        (try clear c2)
        (try clear c3)
        (try clear c4)
        clear hb2 hbel T2
        go_wp2
        refine ⟨⟨k + 1, by omega, by go_num, by rw [show (1 : Int) + ↑k * 5 + 1 + 1 + 1 + 1 + 1 = ((1 + (k + 1) * 5 : Nat) : Int) by omega], hB2⟩, by simp [intOf]; omega⟩
    · obtain rfl : k = n := by omega
      go_wp2
      go_ret
      exact ⟨rfl, hbel⟩

/-- A slice of Bough as it came in. -/
inductive ArgBo (W : World) : Value → List Bg → Prop
  | nil (a : Option Addr) (cap : Nat) : ArgBo W (.slice a 0 cap) []
  | row (b off cap : Nat) (l : List Bg) (hb : b < W.heap.size) (hn : 0 < l.length) (hle : l.length ≤ cap) (hm : cap ≤ maxLen) (hc : ∀ i (h : i < l.length), W.cell? ⟨b, off + i * 5, none⟩ = some (.int .i64 l[i].left) ∧ W.cell? ⟨b, off + i * 5 + 1, none⟩ = some (.int .i64 l[i].right) ∧ W.cell? ⟨b, off + i * 5 + 2, none⟩ = some (.string l[i].text) ∧ W.cell? ⟨b, off + i * 5 + 3, none⟩ = some (.int .i64 l[i].size) ∧ W.cell? ⟨b, off + i * 5 + 4, none⟩ = some (.int .i64 l[i].deep)) :
      ArgBo W (.slice (some ⟨b, off, none⟩) l.length cap) l
theorem ArgBo.later {W W1 : World} {v : Value} {l : List Bg} (h : ArgBo W v l) (hb : Below W.heap.size W W1) : ArgBo W1 v l := by
  cases h with
  | nil a cap => exact .nil a cap
  | row b off cap p h1 h2 h3 h4 h5 => exact .row b off cap _ (Nat.lt_of_lt_of_le h1 hb.size) h2 h3 h4 (fun i hi => by
      have := h5 i hi
      exact ⟨(World.cell?_of_block (hb.block b h1)).trans this.1, (World.cell?_of_block (hb.block b h1)).trans this.2.1, (World.cell?_of_block (hb.block b h1)).trans this.2.2.1, (World.cell?_of_block (hb.block b h1)).trans this.2.2.2.1, (World.cell?_of_block (hb.block b h1)).trans this.2.2.2.2⟩)
theorem argBo_len {w : World} {v : Value} {l : List Bg} (h : ArgBo w v l) : l.length ≤ 9223372036854775807 := by
  cases h with
  | nil a cap => simp
  | row b off cap p h1 h2 h3 h4 h5 => unfold maxLen at h4; omega
/-- What the first have of letters. -/
def szBoU (l : List Bg) : Nat → Nat
  | 0 => 0
  | i + 1 => szBoU l i + (match l[i]? with | some x => x.text.size | none => 0)
theorem szBoU_succ (l : List Bg) (i : Nat) (h : i < l.length) : szBoU l (i + 1) = szBoU l i + (l[i].text.size) := by
  show szBoU l i + _ = _
  rw [List.getElem?_eq_getElem h]
theorem szBoU_mono (l : List Bg) : ∀ i j, i ≤ j → szBoU l i ≤ szBoU l j
  | i, 0, h => by obtain rfl : i = 0 := by omega
                  exact Nat.le_refl _
  | i, j + 1, h => by
    by_cases e : i = j + 1
    · subst e; exact Nat.le_refl _
    · have := szBoU_mono l i j (by omega)
      show _ ≤ szBoU l j + _
      omega
def szBon (l : List Bg) : Nat := l.length + szBoU l l.length

set_option maxHeartbeats 1000000 in
theorem szBough_any (x : Bg) (left : Nat) (w : World) (hl : left ≤ 1048576) (h : x.text.size ≤ 9223372036854775807) :
    Calls Tryd.prog 135 #[bgV x, .int .i64 (left : Int)] w fun e w' => e = .returned (.int .i64 (if x.text.size ≤ left then ((left - (x.text.size) : Nat) : Int) else -1)) ∧ Below w.heap.size w w' := by
  unfold bgV
  obtain ⟨R, hR⟩ : ∃ R : Int, R = if x.text.size ≤ left then ((left - (x.text.size) : Nat) : Int) else -1 := ⟨_, rfl⟩
  rw [← hR]
  have HR := hide hR
  clear hR
  go_enter Tryd.func135, Tryd.ntmps135
  go_wp2
  all_goals
    go_ret
    refine ⟨ret_i2 ?_, (Below.refl _ _).alloc (Nat.le_refl _) _⟩
    rw [HR.out]
    split <;> omega

set_option maxHeartbeats 2000000 in
/-- Too many letters are told by -1. -/
theorem szBo_from {w : World} {v : Value} {l : List Bg} (h : ArgBo w v l) (hs : ∀ i (hi : i < l.length), l[i].text.size ≤ 9223372036854775807) (hm : l.length ≤ 9223372036854775807) (left : Nat) (hlf : left ≤ 1048576) :
    Calls Tryd.prog 81 #[v, .int .i64 (left : Int)] w fun e w' => e = .returned (.int .i64 (if szBon l ≤ left then ((left - szBon l : Nat) : Int) else -1)) ∧ Below w.heap.size w w' := by
  cases h with
  | nil a cap =>
    have e0 : (if szBon ([] : List Bg) ≤ left then ((left - szBon ([] : List Bg) : Nat) : Int) else -1) = left := by simp [szBon, szBoU]
    rw [e0]
    go_enter Tryd.func81, Tryd.ntmps81
    go_wp2
    go_loop [1, 5] (fun k i => k = .int .i64 (left : Int) ∧ i = .int .i64 0) (fun _ _ => 0)
    case atStart => exact ⟨rfl, rfl⟩
    case round =>
      obtain ⟨rfl, rfl⟩ := hrel
      go_wp2
      go_ret
      exact ⟨rfl, Below.refl _ _⟩
  | row b off cap l hb hn hle hmx hc =>
    have Hc := hide hc
    have Hs := hide hs
    clear hc hs
    obtain ⟨R, hR⟩ : ∃ R : Int, R = if szBon l ≤ left then ((left - szBon l : Nat) : Int) else -1 := ⟨_, rfl⟩
    rw [← hR]
    unfold szBon at hR
    have HR := hide hR
    clear hR
    by_cases hbig : l.length ≤ left
    · go_enter Tryd.func81, Tryd.ntmps81
      go_wp2
      go_loopw [1, 5] (fun k i wr => ∃ m : Nat, i = .int .i64 m ∧ m ≤ l.length ∧ l.length + szBoU l m ≤ left ∧ k = .int .i64 ((left - (l.length + szBoU l m) : Nat) : Int) ∧ Below w.heap.size w wr) (fun _ i _ => l.length - (intOf i).toNat)
      case atStart => exact ⟨0, rfl, Nat.zero_le _, by show l.length + 0 ≤ _; omega, by rw [show ((left - (l.length + szBoU l 0) : Nat) : Int) = (left : Int) - (l.length : Int) by show ((left - (l.length + 0) : Nat) : Int) = _; omega], Below.refl _ _⟩
      case round =>
        obtain ⟨m, rfl, hm1, hm2, rfl, hbel⟩ := hrel
        by_cases hlt : m < l.length
        · obtain ⟨c0, c1, c2, c3, c4⟩ := Hc.out m hlt
          have d0 := (World.cell?_of_block (a := ⟨b, off + m * 5, none⟩) (hbel.block b hb)).trans c0
          have d1 := (World.cell?_of_block (a := ⟨b, off + m * 5 + 1, none⟩) (hbel.block b hb)).trans c1
          have d2 := (World.cell?_of_block (a := ⟨b, off + m * 5 + 2, none⟩) (hbel.block b hb)).trans c2
          have d3 := (World.cell?_of_block (a := ⟨b, off + m * 5 + 3, none⟩) (hbel.block b hb)).trans c3
          have d4 := (World.cell?_of_block (a := ⟨b, off + m * 5 + 4, none⟩) (hbel.block b hb)).trans c4
          have S := hide (szBough_any l[m] (left - (l.length + szBoU l m)) wr (by omega) (Hs.out m hlt))
          have hsu := szBoU_succ l m hlt
          have hmo := szBoU_mono l (m + 1) l.length (by omega)
          clear c0 c1 c2 c3 c4
          by_cases hfit : l[m].text.size ≤ left - (l.length + szBoU l m)
          · rw [if_pos hfit] at S
            have e1 : left - (l.length + szBoU l m) - (l[m].text.size) = left - (l.length + szBoU l (m + 1)) := by omega
            rw [e1] at S
            have hm3 : l.length + szBoU l (m + 1) ≤ left := by omega
            obtain ⟨x, hx⟩ : ∃ x, x = left - (l.length + szBoU l (m + 1)) := ⟨_, rfl⟩
            rw [← hx] at S
            have Hx := hide hx
            clear hx hsu e1
            go_wp2_with fail
            refine S.out.mono ?_
            rintro e w2 ⟨rfl, hb2⟩
            go_wp2
            refine ⟨⟨m + 1, by go_num, by omega, hm3, by rw [Hx.out], hbel.trans (hb2.mono hbel.size)⟩, by simp [intOf]; omega⟩
          · rw [if_neg hfit] at S
            have hno : ¬ l.length + szBoU l l.length ≤ left := by omega
            have Hno := hide hno
            clear hsu hmo hno
            go_wp2_with fail
            refine S.out.mono ?_
            rintro e w2 ⟨rfl, hb2⟩
            go_wp2
            go_ret
            refine ⟨ret_i2 ?_, hbel.trans (hb2.mono hbel.size)⟩
            rw [HR.out, if_neg Hno.out]
        · obtain rfl : m = l.length := by omega
          go_wp2
          go_ret
          refine ⟨ret_i2 ?_, hbel⟩
          rw [HR.out, if_pos hm2]
    · go_enter Tryd.func81, Tryd.ntmps81
      go_wp2
      go_ret
      refine ⟨ret_i2 ?_, Below.refl _ _⟩
      rw [HR.out, if_neg (by omega)]

set_option maxHeartbeats 1000000 in
theorem toBough_any (x : Bg) (w : World) :
    Calls Tryd.prog 139 #[bgV x] w fun e w' => e = .returned (bgV x) ∧ Below w.heap.size w w' := by
  unfold bgV
  go_enter Tryd.func139, Tryd.ntmps139
  go_wp2
  refine bodyPost_ret (v := .agg #[.int .i64 x.left, .int .i64 x.right, .string x.text, .int .i64 x.size, .int .i64 x.deep]) (by simp [results, Tryd.results139, go_sem]) rfl ⟨rfl, ?_⟩
  exact (((Below.refl _ _).alloc (Nat.le_refl _) _).alloc (by simp) _).alloc (by simp; omega) _

theorem makeBo (n : Nat) (hn : n ≤ 2000000) : ∃ C : Array Value, C.size = n * 5 ∧ ∀ w : World, (Instr.makeSlice 60 (.int .i64 (n : Int)) (.int .i64 (n : Int))).run Tryd.prog w = .ok (.slice (some ⟨w.heap.size, 0, none⟩) n n) (w.alloc (.cells C 184)) := by
  have hinfo : (Tryd.prog.info? 184).map (fun i => (i.zero, i.size, i.bytes)) = some (some (.agg #[.int .i64 0, .int .i64 0, .string ⟨#[]⟩, .int .i64 0, .int .i64 0]), 5, 48) := by kernel_rfl
  obtain ⟨i0, hi0, hz0, hz1, hz2⟩ := info_parts hinfo
  refine ⟨madeCells (Value.agg #[.int .i64 0, .int .i64 0, .string ⟨#[]⟩, .int .i64 0, .int .i64 0]).cells (n * i0.size), by rw [size_madeCells, hz1], fun w => ?_⟩
  have := run_make (P := Tryd.prog) w 60 184 i0 (.agg #[.int .i64 0, .int .i64 0, .string ⟨#[]⟩, .int .i64 0, .int .i64 0]) Tryd.underlying60 hi0 hz0 .i64 .i64 n n (by omega) (Int.le_refl _) (by rw [hz2]; omega) (by omega)
  simpa only [Int.toNat_natCast] using this

/-- A copy of what came in. -/
structure BoCp (w : World) (g : Nat) (l : List Bg) : Prop where
  at' : CLs w g (encBo l)
  blk : Blk w g (l.length * 5)
  lt : g < w.heap.size
theorem BoCp.later {w w1 : World} {g : Nat} {l : List Bg} (h : BoCp w g l) (hb : Below w.heap.size w w1) : BoCp w1 g l := ⟨h.at'.later hb h.lt, h.blk.later hb h.lt, Nat.lt_of_lt_of_le h.lt hb.size⟩

set_option maxHeartbeats 2000000 in
theorem toBo_cp {w : World} {v : Value} {l : List Bg} (h : ArgBo w v l) (hm : l.length ≤ 2000000) :
    Calls Tryd.prog 89 #[v] w fun e w' => e = .returned (.slice (some ⟨w.heap.size, 0, none⟩) l.length l.length) ∧ BoCp w' w.heap.size l ∧ Below w.heap.size w w' := by
  cases h with
  | nil a cap =>
    obtain ⟨C, hC, hmk⟩ := makeBo 0 (by omega)
    have S0 := hide (wc_start (cs := encBo []) (w := w) (C := C) (t := 184) (by rw [encBo_len]; simpa using hC))
    have hmk0 : ∀ w : World, (Instr.makeSlice 60 (.int .i64 0) (.int .i64 0)).run Tryd.prog w = .ok (.slice (some ⟨w.heap.size, 0, none⟩) 0 0) (w.alloc (.cells C 184)) := hmk
    clear hmk hC
    go_enter Tryd.func89, Tryd.ntmps89
    go_wp2
    go_loop [4] (fun i => i = .int .i64 0) (fun _ => 0)
    case atStart => rfl
    case round =>
      subst hrel
      go_wp2
      go_ret
      exact ⟨rfl, ⟨fun j u hu => by simp [encBo] at hu, by simpa [encBo] using S0.out.blk, S0.out.lt⟩, S0.out.below⟩
  | row b off cap l hb hn hle hmx hc =>
    obtain ⟨C, hC, hmk⟩ := makeBo l.length hm
    have S0 := hide (wc_start (cs := encBo l) (w := w) (C := C) (t := 184) (by rw [encBo_len]; exact hC))
    have Hc := hide hc
    clear hC hc
    go_enter Tryd.func89, Tryd.ntmps89
    go_wp2
    clear hmk
    go_loopw [4] (fun i wr => ∃ k : Nat, k ≤ l.length ∧ i = .int .i64 k ∧ WC (encBo l) w (k * 5) wr) (fun i _ => l.length - (intOf i).toNat)
    case atStart => exact ⟨0, by omega, rfl, by rw [Nat.zero_mul]; exact S0.out⟩
    case round =>
      obtain ⟨k, hk, rfl, hat⟩ := hrel
      by_cases hlt : k < l.length
      · obtain ⟨c0, c1, c2, c3, c4⟩ := Hc.out k hlt
        have d0 := (World.cell?_of_block (a := ⟨b, off + k * 5, none⟩) (hat.below.block b hb)).trans c0
        have d1 := (World.cell?_of_block (a := ⟨b, off + k * 5 + 1, none⟩) (hat.below.block b hb)).trans c1
        have d2 := (World.cell?_of_block (a := ⟨b, off + k * 5 + 2, none⟩) (hat.below.block b hb)).trans c2
        have d3 := (World.cell?_of_block (a := ⟨b, off + k * 5 + 3, none⟩) (hat.below.block b hb)).trans c3
        have d4 := (World.cell?_of_block (a := ⟨b, off + k * 5 + 4, none⟩) (hat.below.block b hb)).trans c4
        have Hat := hide hat
        have T := hide (toBough_any l[k] wr)
        clear hat c0 c1 c2 c3 c4
        go_wp2_with fail
        refine T.out.mono ?_
        rintro e w2 ⟨rfl, hb2⟩
        have h2 := Hat.out.later hb2
        have hel := encBo_len l
        obtain ⟨x0, y0⟩ := h2.blk.ex (k * 5) (by omega)
        have f0 := h2.blk.fz (k * 5)
        obtain ⟨x1, y1⟩ := h2.blk.ex (k * 5 + 1) (by omega)
        have f1 := h2.blk.fz (k * 5 + 1)
        obtain ⟨x2, y2⟩ := h2.blk.ex (k * 5 + 2) (by omega)
        have f2 := h2.blk.fz (k * 5 + 2)
        obtain ⟨x3, y3⟩ := h2.blk.ex (k * 5 + 3) (by omega)
        have f3 := h2.blk.fz (k * 5 + 3)
        obtain ⟨x4, y4⟩ := h2.blk.ex (k * 5 + 4) (by omega)
        have f4 := h2.blk.fz (k * 5 + 4)
        have ea := encBo_at l k hlt
        have A := hide (((((h2.put _ ea.1).put _ ea.2.1).put _ ea.2.2.1).put _ ea.2.2.2.1).put _ ea.2.2.2.2)
        unfold bgV
        clear h2 d0 d1 d2 d3 d4 hel ea
        go_wp2
        refine ⟨⟨k + 1, by omega, by go_num, by rw [show (k + 1) * 5 = k * 5 + 4 + 1 by omega]; exact A.out⟩, by simp [intOf]; omega⟩
      · obtain rfl : k = l.length := by omega
        go_wp2
        go_ret
        rw [← encBo_len] at hat
        exact ⟨rfl, ⟨hat.all, by rw [← encBo_len]; exact hat.blk, hat.lt⟩, hat.below⟩

theorem eqBo_cp {w : World} {ga gb : Nat} {l : List Bg} (ha : BoCp w ga l) (hb : BoCp w gb l) (hm : l.length ≤ 2000000) :
    Calls Tryd.prog 96 #[.slice (some ⟨ga, 0, none⟩) l.length l.length, .slice (some ⟨gb, 0, none⟩) l.length l.length] w fun e w' => e = .returned (.bool true) ∧ Below w.heap.size w w' :=
  eqBoughS_at ga gb l.length l.length l w (by omega) ⟨Nat.le_refl _, by unfold maxLen; omega⟩ ⟨Nat.le_refl _, by unfold maxLen; omega⟩ ha.at' hb.at' ha.lt hb.lt

theorem markBo_cp {w : World} {g : Nat} {l : List Bg} (h : BoCp w g l) (hm : l.length ≤ 2000000) :
    Calls Tryd.prog 97 #[.slice (some ⟨g, 0, none⟩) l.length l.length, .int .i64 1] w fun e w' => e = .returned (.int .i64 (1 + l.length * 5 : Nat)) ∧ w.grownBy w' (some g) := by
  refine (markBoughS_at g l.length l.length w (by omega) ⟨Nat.le_refl _, by unfold maxLen; omega⟩ h.lt h.blk).mono ?_
  rintro e w' ⟨rfl, hg, -⟩
  exact ⟨rfl, hg⟩

def BoOwn (w : World) (B : Nat) (v : Value) (l : List Bg) : Prop := w.ownsRow B 184 5 v l.length (encBo l)
theorem BoOwn.mono {w : World} {B B' : Nat} {v : Value} {l : List Bg} (h : BoOwn w B v l) (hB : B' ≤ B) : BoOwn w B' v l := own_mono h hB
def BoMk (w : World) (v : Value) (n : Nat) : Prop := (n = 0 ∧ ∃ a cap, v = .slice a 0 cap) ∨ ∃ g cap, v = .slice (some ⟨g, 0, none⟩) n cap ∧ n ≤ cap ∧ cap ≤ maxLen ∧ g < w.heap.size ∧ CLs w g (mkAll ksBo (n * 5))
theorem BoMk.later {w w1 : World} {v : Value} {n : Nat} (h : BoMk w v n) (hb : Below w.heap.size w w1) : BoMk w1 v n :=
  h.imp id (fun ⟨g, cap, e, h1, h2, h3, h4⟩ => ⟨g, cap, e, h1, h2, Nat.lt_of_lt_of_le h3 hb.size, h4.later hb h3⟩)

set_option maxHeartbeats 400000 in
theorem eqBoughS_zero (a b : Option Addr) (ca cb : Nat) (w : World) :
    Calls Tryd.prog 96 #[.slice a 0 ca, .slice b 0 cb] w fun e w' => e = .returned (.bool true) ∧ w' = w := by
  go_enter Tryd.func96, Tryd.ntmps96
  go_wp2
  go_loop [5] (fun i => i = .int .i64 0) (fun _ => 0)
  case atStart => rfl
  case round =>
    subst hrel
    go_wp2
    go_ret
    exact ⟨rfl, rfl⟩

set_option maxHeartbeats 400000 in
theorem markBoughS_zero (a : Option Addr) (ca : Nat) (w : World) :
    Calls Tryd.prog 97 #[.slice a 0 ca, .int .i64 1] w fun e w' => e = .returned (.int .i64 1) ∧ w' = w := by
  go_enter Tryd.func97, Tryd.ntmps97
  go_wp2
  go_loop [1, 5] (fun k i => k = .int .i64 1 ∧ i = .int .i64 0) (fun _ _ => 0)
  case atStart => exact ⟨rfl, rfl⟩
  case round =>
    obtain ⟨rfl, rfl⟩ := hrel
    go_wp2
    go_ret
    exact ⟨rfl, rfl⟩

set_option maxHeartbeats 400000 in
theorem heldBoughS_zero (a : Option Addr) (ca : Nat) (w : World) :
    Calls Tryd.prog 98 #[.slice a 0 ca, .int .i64 1] w fun e w' => e = .returned (.int .i64 1) ∧ w' = w := by
  go_enter Tryd.func98, Tryd.ntmps98
  go_wp2
  go_loop [1, 5] (fun k i => k = .int .i64 1 ∧ i = .int .i64 0) (fun _ _ => 0)
  case atStart => exact ⟨rfl, rfl⟩
  case round =>
    obtain ⟨rfl, rfl⟩ := hrel
    go_wp2
    go_ret
    exact ⟨rfl, rfl⟩

theorem eqBo_own {w : World} {Ba Bb : Nat} {va vb : Value} {l : List Bg} (ha : BoOwn w Ba va l) (hb : BoOwn w Bb vb l) (hm : l.length ≤ 10000000) :
    Calls Tryd.prog 96 #[va, vb] w fun e w' => e = .returned (.bool true) ∧ Below w.heap.size w w' := by
  unfold BoOwn at ha hb
  by_cases h0 : l = []
  · subst h0
    obtain ⟨a, ca, rfl, -, -⟩ := own_shp ha
    obtain ⟨b, cb, rfl, -, -⟩ := own_shp hb
    refine (eqBoughS_zero a b ca cb w).mono ?_
    rintro e w' ⟨rfl, rfl⟩
    exact ⟨rfl, Below.refl _ _⟩
  · have hp := List.length_pos_iff.2 h0
    obtain ⟨ga, ca, rfl, a1, a2, -, a3, a4, -⟩ := own_cat ha hp
    obtain ⟨gb, cb, rfl, b1, b2, -, b3, b4, -⟩ := own_cat hb hp
    exact eqBoughS_at ga gb ca cb l w hm ⟨a1, a2⟩ ⟨b1, b2⟩ a4 b4 a3 b3

theorem markBo_own {w : World} {B : Nat} {v : Value} {l : List Bg} (h : BoOwn w B v l) (hm : l.length ≤ 10000000) :
    Calls Tryd.prog 97 #[v, .int .i64 1] w fun e w' => e = .returned (.int .i64 (1 + l.length * 5 : Nat)) ∧ w.grownBy w' v.ownBlock ∧ BoMk w' v l.length := by
  unfold BoOwn at h
  by_cases h0 : l = []
  · subst h0
    obtain ⟨a, ca, rfl, -, -⟩ := own_shp h
    refine (markBoughS_zero a ca w).mono ?_
    rintro e w' ⟨rfl, rfl⟩
    exact ⟨rfl, grown_self _ _, .inl ⟨rfl, a, ca, rfl⟩⟩
  · obtain ⟨ga, ca, rfl, a1, a2, -, a3, a4, a5⟩ := own_cat h (List.length_pos_iff.2 h0)
    refine (markBoughS_at ga ca l.length w hm ⟨a1, a2⟩ a3 (by rw [← encBo_len]; exact a5)).mono ?_
    rintro e w' ⟨rfl, hg, hi⟩
    exact ⟨rfl, hg, .inr ⟨ga, ca, rfl, a1, a2, Nat.lt_of_lt_of_le a3 hg.size, hi⟩⟩

theorem heldBo_own {w : World} {v : Value} {n : Nat} (h : BoMk w v n) (hm : n ≤ 10000000) :
    Calls Tryd.prog 98 #[v, .int .i64 1] w fun e w' => e = .returned (.int .i64 (1 + n * 5 : Nat)) ∧ Below w.heap.size w w' := by
  rcases h with ⟨rfl, a, ca, rfl⟩ | ⟨g, cap, rfl, h1, h2, h3, h4⟩
  · refine (heldBoughS_zero a ca w).mono ?_
    rintro e w' ⟨rfl, rfl⟩
    exact ⟨rfl, Below.refl _ _⟩
  · exact heldBoughS_at g cap n w hm ⟨h1, h2⟩ h3 h4
end Go.Proofs.YtpeconmdmddkfaaDoor
