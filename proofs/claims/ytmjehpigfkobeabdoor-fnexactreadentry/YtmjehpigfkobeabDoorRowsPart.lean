/- The contracts of the laws' own helpers over rows of Part: held against one another, marked, measured, copied. -/
import Derived.Test.YtmjehpigfkobeabDoorOpsM
import Derived.Test.YtmjehpigfkobeabDoorCells
import Derived.Test.YtmjehpigfkobeabDoorOwnG
import Derived.Test.YtmjehpigfkobeabDoorNodes2
import Derived.Deep.QuietTactic
import Derived.BigQuiet
import Derived.Deep.RegionWith
namespace Go.Proofs.YtmjehpigfkobeabDoor
open Go.RowKit
open Doc1

def ptV (x : Pt) : Value := .agg #[.int .i64 x.keep, .string x.put, .string x.drop]
def ptC (x : Pt) : List Value := [.int .i64 x.keep, .string x.put, .string x.drop]
def encP (l : List Pt) : List Value := l.flatMap ptC
theorem encP_len (l : List Pt) : (encP l).length = l.length * 3 := by
  induction l with
  | nil => rfl
  | cons x l ih => rw [encP, List.flatMap_cons, List.length_append]; change _ + (encP l).length = _; rw [ih]; simp [ptC]; omega
theorem encP_app (a b : List Pt) : encP (a ++ b) = encP a ++ encP b := by simp [encP]
theorem encP_at (l : List Pt) : ∀ i (h : i < l.length), (encP l)[i * 3]? = some (.int .i64 l[i].keep) ∧ (encP l)[i * 3 + 1]? = some (.string l[i].put) ∧ (encP l)[i * 3 + 2]? = some (.string l[i].drop) := by
  induction l with
  | nil => intro i h; simp at h
  | cons x l ih =>
    intro i h
    have e : encP (x :: l) = ptC x ++ encP l := by simp [encP]
    cases i with
    | zero => rw [e]; simp [ptC]
    | succ i =>
      have := ih i (by simpa using h)
      rw [e, show (i + 1) * 3 = 3 + i * 3 by omega, show 3 + i * 3 + 1 = 3 + (i * 3 + 1) by omega, show 3 + i * 3 + 2 = 3 + (i * 3 + 2) by omega]
      rw [List.getElem?_append_right (by simp [ptC]), List.getElem?_append_right (by simp [ptC]), List.getElem?_append_right (by simp [ptC])]
      simpa [ptC] using this
def ksP (j : Nat) : Bool := j % 3 == 1 || j % 3 == 2
theorem CLs.ptat {w : World} {g : Nat} {l : List Pt} (h : CLs w g (encP l)) (i : Nat) (hi : i < l.length) : w.cell? ⟨g, i * 3, none⟩ = some (.int .i64 l[i].keep) ∧ w.cell? ⟨g, i * 3 + 1, none⟩ = some (.string l[i].put) ∧ w.cell? ⟨g, i * 3 + 2, none⟩ = some (.string l[i].drop) := by
  have := encP_at l i hi
  exact ⟨h _ _ this.1, h _ _ this.2.1, h _ _ this.2.2⟩

set_option maxHeartbeats 1000000 in
theorem eqPart_same (x : Pt) (w : World) :
    Calls Tryd.prog 61 #[ptV x, ptV x] w fun e w' => e = .returned (.bool true) ∧ Below w.heap.size w w' := by
  unfold ptV
  go_enter Tryd.func61, Tryd.ntmps61
  go_wp2
  go_ret
  exact ⟨rfl, (((Below.refl _ _).alloc (Nat.le_refl _) _).alloc (by simp) _)⟩

set_option maxHeartbeats 1000000 in
theorem eqPartS_at (ga gb ca cb : Nat) (l : List Pt) (w : World) (hm : l.length ≤ 10000000) (_h1 : l.length ≤ ca ∧ ca ≤ maxLen) (_h2 : l.length ≤ cb ∧ cb ≤ maxLen) (ha : CLs w ga (encP l)) (hb : CLs w gb (encP l)) (hga : ga < w.heap.size) (hgb : gb < w.heap.size) :
    Calls Tryd.prog 30 #[.slice (some ⟨ga, 0, none⟩) l.length ca, .slice (some ⟨gb, 0, none⟩) l.length cb] w fun e w' => e = .returned (.bool true) ∧ Below w.heap.size w w' := by
  have E : Hid (∀ x w, Calls Tryd.prog 61 #[ptV x, ptV x] w fun e w' => e = .returned (.bool true) ∧ Below w.heap.size w w') := hide (fun x w => eqPart_same x w)
  go_enter Tryd.func30, Tryd.ntmps30
  go_wp2
  go_loopw [5] (fun i wr => ∃ k : Nat, k ≤ l.length ∧ i = .int .i64 k ∧ Below w.heap.size w wr) (fun i _ => l.length - (intOf i).toNat)
  case atStart => exact ⟨0, by omega, rfl, Below.refl _ _⟩
  case round =>
    obtain ⟨k, hk, rfl, hbel⟩ := hrel
    by_cases hlt : k < l.length
    · obtain ⟨a0, a1, a2⟩ := (ha.later hbel hga).ptat k hlt
      obtain ⟨b0, b1, b2⟩ := (hb.later hbel hgb).ptat k hlt
      go_wp2_with fail
      go_region_with (go_at_call 61; refine (E.out l[k] _).mono ?_; rintro e w' ⟨rfl, hb'⟩)
      all_goals
        go_wp2
        go_roundw
        case rel => exact ⟨k + 1, by omega, by go_num, hbel.trans ((Below.refl _ _).drew.trans (hb'.mono (show w.heap.size ≤ wr.drew.heap.size from hbel.size)))⟩
        case measure => simp [intOf]; omega
    · go_wp2
      go_ret
      exact ⟨rfl, hbel⟩

set_option maxHeartbeats 2000000 in
theorem markPartS_at (g c n : Nat) (w : World) (hm : n ≤ 10000000) (_h1 : n ≤ c ∧ c ≤ maxLen) (hg : g < w.heap.size) (hb : Blk w g (n * 3)) :
    Calls Tryd.prog 31 #[.slice (some ⟨g, 0, none⟩) n c, .int .i64 1] w fun e w' => e = .returned (.int .i64 (1 + n * 3 : Nat)) ∧ w.grownBy w' (some g) ∧ CLs w' g (mkAll ksP (n * 3)) := by
  have T : Hid (∀ (K : Nat) w, 0 < K → K ≤ 1000000000 → Calls Tryd.prog 62 #[.int .i64 (K : Int)] w fun e w' => e = .returned (.string (mkT K)) ∧ Below w.heap.size w w') := hide (fun K w h1 h2 => markText_any K w h1 h2)
  go_enter Tryd.func31, Tryd.ntmps31
  go_wp2
  go_loopw [1, 5] (fun k1 i wr => ∃ k : Nat, k ≤ n ∧ i = .int .i64 k ∧ k1 = .int .i64 (1 + k * 3 : Nat) ∧ Hid (MC ksP w g (n * 3) (k * 3) wr)) (fun _ i _ => n - (intOf i).toNat)
  case atStart => exact ⟨0, by omega, rfl, rfl, by rw [Nat.zero_mul]; exact hide (mc_start hb hg)⟩
  case round =>
    obtain ⟨k, hk, rfl, rfl, R0⟩ := hrel
    by_cases hlt : k < n
    · clear hb
      have r0 := R0.out
      obtain ⟨x0, hx0⟩ := r0.blk.ex (k * 3) (by omega)
      have f0 := r0.blk.fz (k * 3)
      have R1 := hide (r0.put (by omega) (.int .i64 (1 + (k : Int) * 3)) (by rw [show (1 + (k : Int) * 3) = ((1 + (k * 3) : Nat) : Int) by omega]; exact mkI (by simp [ksP]; try omega)))
      clear r0
      obtain ⟨W0, hW0⟩ : ∃ W, W = wr.setCell ⟨g, k * 3, none⟩ (.int .i64 (1 + (k : Int) * 3)) := ⟨_, rfl⟩
      rw [← hW0] at R1
      go_wp2_with fail
      rw [← hW0]
      clear hW0 hx0 f0
      go_wp2_with fail
      refine (T.out (1 + k * 3 + 1) W0 (by omega) (by omega)).mono ?_
      rintro e u1 ⟨rfl, hb1⟩
      have r1 := R1.out.below hb1
      obtain ⟨x1, hx1⟩ := r1.blk.ex (k * 3 + 1) (by omega)
      have f1 := r1.blk.fz (k * 3 + 1)
      have R2 := hide (r1.put (by omega) (.string (mkT (1 + k * 3 + 1))) (by rw [show 1 + k * 3 + 1 = 1 + (k * 3 + 1) by omega]; exact mkS (by simp [ksP]; try omega)))
      clear r1 hb1
      obtain ⟨W1, hW1⟩ : ∃ W, W = u1.setCell ⟨g, k * 3 + 1, none⟩ (.string (mkT (1 + k * 3 + 1))) := ⟨_, rfl⟩
      rw [← hW1] at R2
      go_wp2_with fail
      rw [← hW1]
      clear hW1 hx1 f1
      go_wp2_with fail
      refine (T.out (1 + k * 3 + 2) W1 (by omega) (by omega)).mono ?_
      rintro e u2 ⟨rfl, hb2⟩
      have r2 := R2.out.below hb2
      obtain ⟨x2, hx2⟩ := r2.blk.ex (k * 3 + 2) (by omega)
      have f2 := r2.blk.fz (k * 3 + 2)
      have R3 := hide (r2.put (by omega) (.string (mkT (1 + k * 3 + 2))) (by rw [show 1 + k * 3 + 2 = 1 + (k * 3 + 2) by omega]; exact mkS (by simp [ksP]; try omega)))
      clear r2 hb2
      obtain ⟨W2, hW2⟩ : ∃ W, W = u2.setCell ⟨g, k * 3 + 2, none⟩ (.string (mkT (1 + k * 3 + 2))) := ⟨_, rfl⟩
      rw [← hW2] at R3
      go_wp2
      rw [← hW2]
      refine ⟨⟨k + 1, by omega, by go_num, by rw [show (1 : Int) + ↑k * 3 + 1 + 1 + 1 = ((1 + (k + 1) * 3 : Nat) : Int) by omega], ?_⟩, by simp [intOf]; omega⟩
      rw [show (k + 1) * 3 = k * 3 + 2 + 1 by omega]
      exact R3
    · obtain rfl : k = n := by omega
      go_wp2
      go_ret
      exact ⟨rfl, R0.out.grown, R0.out.all⟩

set_option maxHeartbeats 4000000 in
theorem heldPartS_at (g c n : Nat) (w : World) (hm : n ≤ 10000000) (_h1 : n ≤ c ∧ c ≤ maxLen) (hg : g < w.heap.size) (hb : CLs w g (mkAll ksP (n * 3))) :
    Calls Tryd.prog 32 #[.slice (some ⟨g, 0, none⟩) n c, .int .i64 1] w fun e w' => e = .returned (.int .i64 (1 + n * 3 : Nat)) ∧ Below w.heap.size w w' := by
  have T : Hid (∀ (K : Nat) w, 0 < K → K ≤ 1000000000 → Calls Tryd.prog 62 #[.int .i64 (K : Int)] w fun e w' => e = .returned (.string (mkT K)) ∧ Below w.heap.size w w') := hide (fun K w h1 h2 => markText_any K w h1 h2)
  go_enter Tryd.func32, Tryd.ntmps32
  go_wp2
  go_loopw [1, 5] (fun k1 i wr => ∃ k : Nat, k ≤ n ∧ i = .int .i64 k ∧ k1 = .int .i64 (1 + k * 3 : Nat) ∧ Below w.heap.size w wr) (fun _ i _ => n - (intOf i).toNat)
  case atStart => exact ⟨0, by omega, rfl, by rw [Nat.zero_mul]; rfl, Below.refl _ _⟩
  case round =>
    obtain ⟨k, hk, rfl, rfl, hbel⟩ := hrel
    by_cases hlt : k < n
    · have C : Hid (∀ wx, Below w.heap.size w wx → wx.cell? ⟨g, k * 3, none⟩ = some (.int .i64 (1 + (k : Int) * 3)) ∧ wx.cell? ⟨g, k * 3 + 1, none⟩ = some (.string (mkT (1 + k * 3 + 1))) ∧ wx.cell? ⟨g, k * 3 + 2, none⟩ = some (.string (mkT (1 + k * 3 + 2)))) := hide (fun wx hx => by
        have h := hb.later hx hg
        refine ⟨?_, ?_, ?_⟩
        · rw [show (1 + (k : Int) * 3) = ((1 + (k * 3) : Nat) : Int) by omega]
          exact h _ _ ((mkAll_at ksP (by omega)).trans (by rw [← mkI (by simp [ksP]; try omega)]))
        · rw [show 1 + k * 3 + 1 = 1 + (k * 3 + 1) by omega]
          exact h _ _ ((mkAll_at ksP (by omega)).trans (by rw [← mkS (by simp [ksP]; try omega)]))
        · rw [show 1 + k * 3 + 2 = 1 + (k * 3 + 2) by omega]
          exact h _ _ ((mkAll_at ksP (by omega)).trans (by rw [← mkS (by simp [ksP]; try omega)])))
      clear hb
      obtain ⟨c0, c1, c2⟩ := C.out wr hbel
      have T1 := hide (fun w => T.out (1 + k * 3 + 1) w (by omega) (by omega))
      go_wp2_with fail
      go_region_with (go_at_call 62; refine (T1.out _).mono ?_; rintro e w1 ⟨rfl, hb1⟩; have hB1 := hbel.trans ((Below.refl _ _).drew.trans (hb1.mono (show w.heap.size ≤ wr.drew.heap.size from hbel.size))); obtain ⟨d1_0, d1_1, d1_2⟩ := C.out w1 hB1)
      all_goals
        (try clear c0)
        (try clear c1)
        (try clear c2)
        clear hb1 hbel T1
        have T2 := hide (fun w => T.out (1 + k * 3 + 2) w (by omega) (by omega))
        go_wp2_with fail
        go_region_with (go_at_call 62; refine (T2.out _).mono ?_; rintro e w2 ⟨rfl, hb2⟩; have hB2 := hB1.trans ((Below.refl _ _).drew.trans (hb2.mono (show w.heap.size ≤ w1.drew.heap.size from hB1.size))); obtain ⟨d2_0, d2_1, d2_2⟩ := C.out w2 hB2)
        all_goals
          (try clear d1_0)
          (try clear d1_1)
          (try clear d1_2)
          clear hb2 hB1 T2
          go_wp2
          refine ⟨⟨k + 1, by omega, by go_num, by rw [show (1 : Int) + ↑k * 3 + 1 + 1 + 1 = ((1 + (k + 1) * 3 : Nat) : Int) by omega], hB2⟩, by simp [intOf]; omega⟩
    · obtain rfl : k = n := by omega
      go_wp2
      go_ret
      exact ⟨rfl, hbel⟩

/-- A slice of Part as it came in. -/
inductive ArgP (W : World) : Value → List Pt → Prop
  | nil (a : Option Addr) (cap : Nat) : ArgP W (.slice a 0 cap) []
  | row (b off cap : Nat) (l : List Pt) (hb : b < W.heap.size) (hn : 0 < l.length) (hle : l.length ≤ cap) (hm : cap ≤ maxLen) (hc : ∀ i (h : i < l.length), W.cell? ⟨b, off + i * 3, none⟩ = some (.int .i64 l[i].keep) ∧ W.cell? ⟨b, off + i * 3 + 1, none⟩ = some (.string l[i].put) ∧ W.cell? ⟨b, off + i * 3 + 2, none⟩ = some (.string l[i].drop)) :
      ArgP W (.slice (some ⟨b, off, none⟩) l.length cap) l
theorem ArgP.later {W W1 : World} {v : Value} {l : List Pt} (h : ArgP W v l) (hb : Below W.heap.size W W1) : ArgP W1 v l := by
  cases h with
  | nil a cap => exact .nil a cap
  | row b off cap p h1 h2 h3 h4 h5 => exact .row b off cap _ (Nat.lt_of_lt_of_le h1 hb.size) h2 h3 h4 (fun i hi => by
      have := h5 i hi
      exact ⟨(World.cell?_of_block (hb.block b h1)).trans this.1, (World.cell?_of_block (hb.block b h1)).trans this.2.1, (World.cell?_of_block (hb.block b h1)).trans this.2.2⟩)
theorem argP_len {w : World} {v : Value} {l : List Pt} (h : ArgP w v l) : l.length ≤ 9223372036854775807 := by
  cases h with
  | nil a cap => simp
  | row b off cap p h1 h2 h3 h4 h5 => unfold maxLen at h4; omega
/-- What the first have of letters. -/
def szPU (l : List Pt) : Nat → Nat
  | 0 => 0
  | i + 1 => szPU l i + (match l[i]? with | some x => x.put.size + x.drop.size | none => 0)
theorem szPU_succ (l : List Pt) (i : Nat) (h : i < l.length) : szPU l (i + 1) = szPU l i + (l[i].put.size + l[i].drop.size) := by
  show szPU l i + _ = _
  rw [List.getElem?_eq_getElem h]
theorem szPU_mono (l : List Pt) : ∀ i j, i ≤ j → szPU l i ≤ szPU l j
  | i, 0, h => by obtain rfl : i = 0 := by omega
                  exact Nat.le_refl _
  | i, j + 1, h => by
    by_cases e : i = j + 1
    · subst e; exact Nat.le_refl _
    · have := szPU_mono l i j (by omega)
      show _ ≤ szPU l j + _
      omega
def szPn (l : List Pt) : Nat := l.length + szPU l l.length

set_option maxHeartbeats 1000000 in
theorem szPart_any (x : Pt) (left : Nat) (w : World) (hl : left ≤ 1048576) (h : x.put.size ≤ 9223372036854775807 ∧ x.drop.size ≤ 9223372036854775807) :
    Calls Tryd.prog 107 #[ptV x, .int .i64 (left : Int)] w fun e w' => e = .returned (.int .i64 (if x.put.size + x.drop.size ≤ left then ((left - (x.put.size + x.drop.size) : Nat) : Int) else -1)) ∧ Below w.heap.size w w' := by
  unfold ptV
  obtain ⟨R, hR⟩ : ∃ R : Int, R = if x.put.size + x.drop.size ≤ left then ((left - (x.put.size + x.drop.size) : Nat) : Int) else -1 := ⟨_, rfl⟩
  rw [← hR]
  have HR := hide hR
  clear hR
  go_enter Tryd.func107, Tryd.ntmps107
  go_wp2
  all_goals
    go_ret
    refine ⟨ret_i2 ?_, (Below.refl _ _).alloc (Nat.le_refl _) _⟩
    rw [HR.out]
    split <;> omega

set_option maxHeartbeats 2000000 in
/-- Too many letters are told by -1. -/
theorem szP_from {w : World} {v : Value} {l : List Pt} (h : ArgP w v l) (hs : ∀ i (hi : i < l.length), l[i].put.size ≤ 9223372036854775807 ∧ l[i].drop.size ≤ 9223372036854775807) (hm : l.length ≤ 9223372036854775807) (left : Nat) (hlf : left ≤ 1048576) :
    Calls Tryd.prog 87 #[v, .int .i64 (left : Int)] w fun e w' => e = .returned (.int .i64 (if szPn l ≤ left then ((left - szPn l : Nat) : Int) else -1)) ∧ Below w.heap.size w w' := by
  cases h with
  | nil a cap =>
    have e0 : (if szPn ([] : List Pt) ≤ left then ((left - szPn ([] : List Pt) : Nat) : Int) else -1) = left := by simp [szPn, szPU]
    rw [e0]
    go_enter Tryd.func87, Tryd.ntmps87
    go_wp2
    go_loop [1, 5] (fun k i => k = .int .i64 (left : Int) ∧ i = .int .i64 0) (fun _ _ => 0)
    case atStart => exact ⟨rfl, rfl⟩
    case round =>
      obtain ⟨rfl, rfl⟩ := hrel
      go_wp2
      go_ret
      exact ⟨rfl, Below.refl _ _⟩
  | row b off cap l hb hn hle hmx hc =>
    have Hc := hide hc
    have Hs := hide hs
    clear hc hs
    obtain ⟨R, hR⟩ : ∃ R : Int, R = if szPn l ≤ left then ((left - szPn l : Nat) : Int) else -1 := ⟨_, rfl⟩
    rw [← hR]
    unfold szPn at hR
    have HR := hide hR
    clear hR
    by_cases hbig : l.length ≤ left
    · go_enter Tryd.func87, Tryd.ntmps87
      go_wp2
      go_loopw [1, 5] (fun k i wr => ∃ m : Nat, i = .int .i64 m ∧ m ≤ l.length ∧ l.length + szPU l m ≤ left ∧ k = .int .i64 ((left - (l.length + szPU l m) : Nat) : Int) ∧ Below w.heap.size w wr) (fun _ i _ => l.length - (intOf i).toNat)
      case atStart => exact ⟨0, rfl, Nat.zero_le _, by show l.length + 0 ≤ _; omega, by rw [show ((left - (l.length + szPU l 0) : Nat) : Int) = (left : Int) - (l.length : Int) by show ((left - (l.length + 0) : Nat) : Int) = _; omega], Below.refl _ _⟩
      case round =>
        obtain ⟨m, rfl, hm1, hm2, rfl, hbel⟩ := hrel
        by_cases hlt : m < l.length
        · obtain ⟨c0, c1, c2⟩ := Hc.out m hlt
          have d0 := (World.cell?_of_block (a := ⟨b, off + m * 3, none⟩) (hbel.block b hb)).trans c0
          have d1 := (World.cell?_of_block (a := ⟨b, off + m * 3 + 1, none⟩) (hbel.block b hb)).trans c1
          have d2 := (World.cell?_of_block (a := ⟨b, off + m * 3 + 2, none⟩) (hbel.block b hb)).trans c2
          have S := hide (szPart_any l[m] (left - (l.length + szPU l m)) wr (by omega) (Hs.out m hlt))
          have hsu := szPU_succ l m hlt
          have hmo := szPU_mono l (m + 1) l.length (by omega)
          clear c0 c1 c2
          by_cases hfit : l[m].put.size + l[m].drop.size ≤ left - (l.length + szPU l m)
          · rw [if_pos hfit] at S
            have e1 : left - (l.length + szPU l m) - (l[m].put.size + l[m].drop.size) = left - (l.length + szPU l (m + 1)) := by omega
            rw [e1] at S
            have hm3 : l.length + szPU l (m + 1) ≤ left := by omega
            obtain ⟨x, hx⟩ : ∃ x, x = left - (l.length + szPU l (m + 1)) := ⟨_, rfl⟩
            rw [← hx] at S
            have Hx := hide hx
            clear hx hsu e1
            go_wp2_with fail
            refine S.out.mono ?_
            rintro e w2 ⟨rfl, hb2⟩
            go_wp2
            refine ⟨⟨m + 1, by go_num, by omega, hm3, by rw [Hx.out], hbel.trans (hb2.mono hbel.size)⟩, by simp [intOf]; omega⟩
          · rw [if_neg hfit] at S
            have hno : ¬ l.length + szPU l l.length ≤ left := by omega
            have Hno := hide hno
            clear hsu hmo hno
            go_wp2_with fail
            refine S.out.mono ?_
            rintro e w2 ⟨rfl, hb2⟩
            go_wp2
            go_ret
            refine ⟨ret_i2 ?_, hbel.trans (hb2.mono hbel.size)⟩
            rw [HR.out, if_neg Hno.out]
        · obtain rfl : m = l.length := by omega
          go_wp2
          go_ret
          refine ⟨ret_i2 ?_, hbel⟩
          rw [HR.out, if_pos hm2]
    · go_enter Tryd.func87, Tryd.ntmps87
      go_wp2
      go_ret
      refine ⟨ret_i2 ?_, Below.refl _ _⟩
      rw [HR.out, if_neg (by omega)]

set_option maxHeartbeats 1000000 in
theorem toPart_any (x : Pt) (w : World) :
    Calls Tryd.prog 108 #[ptV x] w fun e w' => e = .returned (ptV x) ∧ Below w.heap.size w w' := by
  unfold ptV
  go_enter Tryd.func108, Tryd.ntmps108
  go_wp2
  refine bodyPost_ret (v := .agg #[.int .i64 x.keep, .string x.put, .string x.drop]) (by simp [results, Tryd.results108, go_sem]) rfl ⟨rfl, ?_⟩
  exact (((Below.refl _ _).alloc (Nat.le_refl _) _).alloc (by simp) _).alloc (by simp; omega) _

theorem makeP (n : Nat) (hn : n ≤ 2000000) : ∃ C : Array Value, C.size = n * 3 ∧ ∀ w : World, (Instr.makeSlice 22 (.int .i64 (n : Int)) (.int .i64 (n : Int))).run Tryd.prog w = .ok (.slice (some ⟨w.heap.size, 0, none⟩) n n) (w.alloc (.cells C 83)) := by
  have hinfo : (Tryd.prog.info? 83).map (fun i => (i.zero, i.size, i.bytes)) = some (some (.agg #[.int .i64 0, .string ⟨#[]⟩, .string ⟨#[]⟩]), 3, 40) := by kernel_rfl
  obtain ⟨i0, hi0, hz0, hz1, hz2⟩ := info_parts hinfo
  refine ⟨madeCells (Value.agg #[.int .i64 0, .string ⟨#[]⟩, .string ⟨#[]⟩]).cells (n * i0.size), by rw [size_madeCells, hz1], fun w => ?_⟩
  have := run_make (P := Tryd.prog) w 22 83 i0 (.agg #[.int .i64 0, .string ⟨#[]⟩, .string ⟨#[]⟩]) Tryd.underlying22 hi0 hz0 .i64 .i64 n n (by omega) (Int.le_refl _) (by rw [hz2]; omega) (by omega)
  simpa only [Int.toNat_natCast] using this

/-- A copy of what came in. -/
structure PCp (w : World) (g : Nat) (l : List Pt) : Prop where
  at' : CLs w g (encP l)
  blk : Blk w g (l.length * 3)
  lt : g < w.heap.size
theorem PCp.later {w w1 : World} {g : Nat} {l : List Pt} (h : PCp w g l) (hb : Below w.heap.size w w1) : PCp w1 g l := ⟨h.at'.later hb h.lt, h.blk.later hb h.lt, Nat.lt_of_lt_of_le h.lt hb.size⟩

set_option maxHeartbeats 2000000 in
theorem toP_cp {w : World} {v : Value} {l : List Pt} (h : ArgP w v l) (hm : l.length ≤ 2000000) :
    Calls Tryd.prog 89 #[v] w fun e w' => e = .returned (.slice (some ⟨w.heap.size, 0, none⟩) l.length l.length) ∧ PCp w' w.heap.size l ∧ Below w.heap.size w w' := by
  cases h with
  | nil a cap =>
    obtain ⟨C, hC, hmk⟩ := makeP 0 (by omega)
    have S0 := hide (wc_start (cs := encP []) (w := w) (C := C) (t := 83) (by rw [encP_len]; simpa using hC))
    have hmk0 : ∀ w : World, (Instr.makeSlice 22 (.int .i64 0) (.int .i64 0)).run Tryd.prog w = .ok (.slice (some ⟨w.heap.size, 0, none⟩) 0 0) (w.alloc (.cells C 83)) := hmk
    clear hmk hC
    go_enter Tryd.func89, Tryd.ntmps89
    go_wp2
    go_loop [4] (fun i => i = .int .i64 0) (fun _ => 0)
    case atStart => rfl
    case round =>
      subst hrel
      go_wp2
      go_ret
      exact ⟨rfl, ⟨fun j u hu => by simp [encP] at hu, by simpa [encP] using S0.out.blk, S0.out.lt⟩, S0.out.below⟩
  | row b off cap l hb hn hle hmx hc =>
    obtain ⟨C, hC, hmk⟩ := makeP l.length hm
    have S0 := hide (wc_start (cs := encP l) (w := w) (C := C) (t := 83) (by rw [encP_len]; exact hC))
    have Hc := hide hc
    clear hC hc
    go_enter Tryd.func89, Tryd.ntmps89
    go_wp2
    clear hmk
    go_loopw [4] (fun i wr => ∃ k : Nat, k ≤ l.length ∧ i = .int .i64 k ∧ WC (encP l) w (k * 3) wr) (fun i _ => l.length - (intOf i).toNat)
    case atStart => exact ⟨0, by omega, rfl, by rw [Nat.zero_mul]; exact S0.out⟩
    case round =>
      obtain ⟨k, hk, rfl, hat⟩ := hrel
      by_cases hlt : k < l.length
      · obtain ⟨c0, c1, c2⟩ := Hc.out k hlt
        have d0 := (World.cell?_of_block (a := ⟨b, off + k * 3, none⟩) (hat.below.block b hb)).trans c0
        have d1 := (World.cell?_of_block (a := ⟨b, off + k * 3 + 1, none⟩) (hat.below.block b hb)).trans c1
        have d2 := (World.cell?_of_block (a := ⟨b, off + k * 3 + 2, none⟩) (hat.below.block b hb)).trans c2
        have Hat := hide hat
        have T := hide (toPart_any l[k] wr)
        clear hat c0 c1 c2
        go_wp2_with fail
        refine T.out.mono ?_
        rintro e w2 ⟨rfl, hb2⟩
        have h2 := Hat.out.later hb2
        have hel := encP_len l
        obtain ⟨x0, y0⟩ := h2.blk.ex (k * 3) (by omega)
        have f0 := h2.blk.fz (k * 3)
        obtain ⟨x1, y1⟩ := h2.blk.ex (k * 3 + 1) (by omega)
        have f1 := h2.blk.fz (k * 3 + 1)
        obtain ⟨x2, y2⟩ := h2.blk.ex (k * 3 + 2) (by omega)
        have f2 := h2.blk.fz (k * 3 + 2)
        have ea := encP_at l k hlt
        have A := hide (((h2.put _ ea.1).put _ ea.2.1).put _ ea.2.2)
        unfold ptV
        clear h2 d0 d1 d2 hel ea
        go_wp2
        refine ⟨⟨k + 1, by omega, by go_num, by rw [show (k + 1) * 3 = k * 3 + 2 + 1 by omega]; exact A.out⟩, by simp [intOf]; omega⟩
      · obtain rfl : k = l.length := by omega
        go_wp2
        go_ret
        rw [← encP_len] at hat
        exact ⟨rfl, ⟨hat.all, by rw [← encP_len]; exact hat.blk, hat.lt⟩, hat.below⟩

theorem eqP_cp {w : World} {ga gb : Nat} {l : List Pt} (ha : PCp w ga l) (hb : PCp w gb l) (hm : l.length ≤ 2000000) :
    Calls Tryd.prog 30 #[.slice (some ⟨ga, 0, none⟩) l.length l.length, .slice (some ⟨gb, 0, none⟩) l.length l.length] w fun e w' => e = .returned (.bool true) ∧ Below w.heap.size w w' :=
  eqPartS_at ga gb l.length l.length l w (by omega) ⟨Nat.le_refl _, by unfold maxLen; omega⟩ ⟨Nat.le_refl _, by unfold maxLen; omega⟩ ha.at' hb.at' ha.lt hb.lt

theorem markP_cp {w : World} {g : Nat} {l : List Pt} (h : PCp w g l) (hm : l.length ≤ 2000000) :
    Calls Tryd.prog 31 #[.slice (some ⟨g, 0, none⟩) l.length l.length, .int .i64 1] w fun e w' => e = .returned (.int .i64 (1 + l.length * 3 : Nat)) ∧ w.grownBy w' (some g) := by
  refine (markPartS_at g l.length l.length w (by omega) ⟨Nat.le_refl _, by unfold maxLen; omega⟩ h.lt h.blk).mono ?_
  rintro e w' ⟨rfl, hg, -⟩
  exact ⟨rfl, hg⟩

def POwn (w : World) (B : Nat) (v : Value) (l : List Pt) : Prop := w.ownsRow B 83 3 v l.length (encP l)
theorem POwn.mono {w : World} {B B' : Nat} {v : Value} {l : List Pt} (h : POwn w B v l) (hB : B' ≤ B) : POwn w B' v l := own_mono h hB
def PMk (w : World) (v : Value) (n : Nat) : Prop := (n = 0 ∧ ∃ a cap, v = .slice a 0 cap) ∨ ∃ g cap, v = .slice (some ⟨g, 0, none⟩) n cap ∧ n ≤ cap ∧ cap ≤ maxLen ∧ g < w.heap.size ∧ CLs w g (mkAll ksP (n * 3))
theorem PMk.later {w w1 : World} {v : Value} {n : Nat} (h : PMk w v n) (hb : Below w.heap.size w w1) : PMk w1 v n :=
  h.imp id (fun ⟨g, cap, e, h1, h2, h3, h4⟩ => ⟨g, cap, e, h1, h2, Nat.lt_of_lt_of_le h3 hb.size, h4.later hb h3⟩)

set_option maxHeartbeats 400000 in
theorem eqPartS_zero (a b : Option Addr) (ca cb : Nat) (w : World) :
    Calls Tryd.prog 30 #[.slice a 0 ca, .slice b 0 cb] w fun e w' => e = .returned (.bool true) ∧ w' = w := by
  go_enter Tryd.func30, Tryd.ntmps30
  go_wp2
  go_loop [5] (fun i => i = .int .i64 0) (fun _ => 0)
  case atStart => rfl
  case round =>
    subst hrel
    go_wp2
    go_ret
    exact ⟨rfl, rfl⟩

set_option maxHeartbeats 400000 in
theorem markPartS_zero (a : Option Addr) (ca : Nat) (w : World) :
    Calls Tryd.prog 31 #[.slice a 0 ca, .int .i64 1] w fun e w' => e = .returned (.int .i64 1) ∧ w' = w := by
  go_enter Tryd.func31, Tryd.ntmps31
  go_wp2
  go_loop [1, 5] (fun k i => k = .int .i64 1 ∧ i = .int .i64 0) (fun _ _ => 0)
  case atStart => exact ⟨rfl, rfl⟩
  case round =>
    obtain ⟨rfl, rfl⟩ := hrel
    go_wp2
    go_ret
    exact ⟨rfl, rfl⟩

set_option maxHeartbeats 400000 in
theorem heldPartS_zero (a : Option Addr) (ca : Nat) (w : World) :
    Calls Tryd.prog 32 #[.slice a 0 ca, .int .i64 1] w fun e w' => e = .returned (.int .i64 1) ∧ w' = w := by
  go_enter Tryd.func32, Tryd.ntmps32
  go_wp2
  go_loop [1, 5] (fun k i => k = .int .i64 1 ∧ i = .int .i64 0) (fun _ _ => 0)
  case atStart => exact ⟨rfl, rfl⟩
  case round =>
    obtain ⟨rfl, rfl⟩ := hrel
    go_wp2
    go_ret
    exact ⟨rfl, rfl⟩

theorem eqP_own {w : World} {Ba Bb : Nat} {va vb : Value} {l : List Pt} (ha : POwn w Ba va l) (hb : POwn w Bb vb l) (hm : l.length ≤ 10000000) :
    Calls Tryd.prog 30 #[va, vb] w fun e w' => e = .returned (.bool true) ∧ Below w.heap.size w w' := by
  unfold POwn at ha hb
  by_cases h0 : l = []
  · subst h0
    obtain ⟨a, ca, rfl, -, -⟩ := own_shp ha
    obtain ⟨b, cb, rfl, -, -⟩ := own_shp hb
    refine (eqPartS_zero a b ca cb w).mono ?_
    rintro e w' ⟨rfl, rfl⟩
    exact ⟨rfl, Below.refl _ _⟩
  · have hp := List.length_pos_iff.2 h0
    obtain ⟨ga, ca, rfl, a1, a2, -, a3, a4, -⟩ := own_cat ha hp
    obtain ⟨gb, cb, rfl, b1, b2, -, b3, b4, -⟩ := own_cat hb hp
    exact eqPartS_at ga gb ca cb l w hm ⟨a1, a2⟩ ⟨b1, b2⟩ a4 b4 a3 b3

theorem markP_own {w : World} {B : Nat} {v : Value} {l : List Pt} (h : POwn w B v l) (hm : l.length ≤ 10000000) :
    Calls Tryd.prog 31 #[v, .int .i64 1] w fun e w' => e = .returned (.int .i64 (1 + l.length * 3 : Nat)) ∧ w.grownBy w' v.ownBlock ∧ PMk w' v l.length := by
  unfold POwn at h
  by_cases h0 : l = []
  · subst h0
    obtain ⟨a, ca, rfl, -, -⟩ := own_shp h
    refine (markPartS_zero a ca w).mono ?_
    rintro e w' ⟨rfl, rfl⟩
    exact ⟨rfl, grown_self _ _, .inl ⟨rfl, a, ca, rfl⟩⟩
  · obtain ⟨ga, ca, rfl, a1, a2, -, a3, a4, a5⟩ := own_cat h (List.length_pos_iff.2 h0)
    refine (markPartS_at ga ca l.length w hm ⟨a1, a2⟩ a3 (by rw [← encP_len]; exact a5)).mono ?_
    rintro e w' ⟨rfl, hg, hi⟩
    exact ⟨rfl, hg, .inr ⟨ga, ca, rfl, a1, a2, Nat.lt_of_lt_of_le a3 hg.size, hi⟩⟩

theorem heldP_own {w : World} {v : Value} {n : Nat} (h : PMk w v n) (hm : n ≤ 10000000) :
    Calls Tryd.prog 32 #[v, .int .i64 1] w fun e w' => e = .returned (.int .i64 (1 + n * 3 : Nat)) ∧ Below w.heap.size w w' := by
  rcases h with ⟨rfl, a, ca, rfl⟩ | ⟨g, cap, rfl, h1, h2, h3, h4⟩
  · refine (heldPartS_zero a ca w).mono ?_
    rintro e w' ⟨rfl, rfl⟩
    exact ⟨rfl, Below.refl _ _⟩
  · exact heldPartS_at g cap n w hm ⟨h1, h2⟩ h3 h4
end Go.Proofs.YtmjehpigfkobeabDoor
