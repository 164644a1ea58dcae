/- The laws' own helpers over rows of states: sizes, copies, comparisons. -/
import Derived.Test.YtafhpnkedjbcdayStt1
import Derived.Test.YtafhpnkedjbcdayInts2
import Derived.Test.YtafhpnkedjbcdayRowsG
import Derived.Test.YtafhpnkedjbcdayCells
import Derived.Deep.RegionWith
namespace Go.Proofs.Ytafhpnkedjbcday
open Go.RowKit
open Doc1

theorem ret_i2 {x y : Int} (h : x = y) : Ending.returned (.int .i64 x) = .returned (.int .i64 y) := by rw [h]
theorem blk_ne {a b i j : Nat} (h : a ≠ b) : (⟨a, i, none⟩ : Addr) ≠ ⟨b, j, none⟩ := by intro e; injection e; omega
/-- A block of three cells. -/
def Bx3 (W : World) (B : Nat) (a b c : Value) : Prop := ∃ t, W.heap[B]? = some (.cells #[a, b, c] t (0, 0))
theorem Bx3.cells {W : World} {B : Nat} {a b c : Value} (h : Bx3 W B a b c) : W.cell? ⟨B, 0, none⟩ = some a ∧ W.cell? ⟨B, 1, none⟩ = some b ∧ W.cell? ⟨B, 2, none⟩ = some c := by
  obtain ⟨t, h⟩ := h
  simp [World.cell?, h]
theorem Bx3.fz {W : World} {B : Nat} {a b c : Value} (h : Bx3 W B a b c) (j : Nat) : W.frozen? ⟨B, j, none⟩ = false := by
  obtain ⟨t, h⟩ := h
  simp [World.frozen?, h]
theorem Bx3.block {W W' : World} {B : Nat} {a b c : Value} (h : Bx3 W B a b c) (hb : W'.heap[B]? = W.heap[B]?) : Bx3 W' B a b c := by
  obtain ⟨t, h⟩ := h
  exact ⟨t, hb.trans h⟩
theorem Bx3.lt {W : World} {B : Nat} {a b c : Value} (h : Bx3 W B a b c) : B < W.heap.size := by
  obtain ⟨t, h⟩ := h
  exact (Array.getElem?_eq_some_iff.1 h).1
theorem Bx3.set {W : World} {B : Nat} {a b c a' b' c' : Value} (h : Bx3 W B a b c) (j : Nat) (v : Value) (e : (#[a, b, c] : Array Value).setIfInBounds j v = #[a', b', c']) : Bx3 (W.setCell ⟨B, j, none⟩ v) B a' b' c' := by
  obtain ⟨t, h⟩ := h
  obtain ⟨hlt, hk⟩ := Array.getElem?_eq_some_iff.1 h
  refine ⟨t, ?_⟩
  show (W.heap.modify B _)[B]? = _
  rw [Array.getElem?_eq_getElem (by rw [Array.size_modify]; exact hlt), Array.getElem_modify_self, hk]
  simp only
  rw [← e]
  rfl
theorem bx3_new (W : World) (a b c : Value) (t : TypeId) : Bx3 (W.alloc (.cells #[a, b, c] t)) W.heap.size a b c := ⟨t, heap_alloc_new W _⟩
theorem argI_shape {w : World} {v : Value} {p : List Int} (h : ArgI w v p) : ∃ a cap, v = .slice a p.length cap ∧ p.length ≤ 9223372036854775807 := by
  cases h with
  | nil a cap => exact ⟨a, cap, rfl, by simp⟩
  | row b off cap p h1 h2 h3 h4 h5 => exact ⟨_, cap, rfl, by unfold maxLen at h4; omega⟩
/-- A slice of states as it came in. -/
inductive ArgSt (W : World) : Value → List Stt → Prop
  | nil (a : Option Addr) (cap : Nat) : ArgSt W (.slice a 0 cap) []
  | row (b off cap : Nat) (l : List Stt) (vs : Nat → Value) (hb : b < W.heap.size) (hn : 0 < l.length) (hle : l.length ≤ cap) (hm : cap ≤ maxLen)
      (hc : ∀ i (h : i < l.length), W.cell? ⟨b, off + i * 3, none⟩ = some (.string l[i].expr) ∧ W.cell? ⟨b, off + i * 3 + 1, none⟩ = some (.bool l[i].fin) ∧ W.cell? ⟨b, off + i * 3 + 2, none⟩ = some (vs i) ∧ ArgI W (vs i) l[i].next) :
      ArgSt W (.slice (some ⟨b, off, none⟩) l.length cap) l
theorem ArgSt.later {W W1 : World} {v : Value} {l : List Stt} (h : ArgSt W v l) (hb : Below W.heap.size W W1) : ArgSt W1 v l := by
  cases h with
  | nil a cap => exact .nil a cap
  | row b off cap l vs h1 h2 h3 h4 h5 => exact .row b off cap _ vs (Nat.lt_of_lt_of_le h1 hb.size) h2 h3 h4 (fun i hi => by
      have := h5 i hi
      exact ⟨(World.cell?_of_block (hb.block b h1)).trans this.1, (World.cell?_of_block (hb.block b h1)).trans this.2.1, (World.cell?_of_block (hb.block b h1)).trans this.2.2.1, this.2.2.2.later hb⟩)
theorem argSt_len {w : World} {v : Value} {l : List Stt} (h : ArgSt w v l) : l.length ≤ 9223372036854775807 := by
  cases h with
  | nil a cap => simp
  | row b off cap p vs h1 h2 h3 h4 h5 => unfold maxLen at h4; omega
def stV (x : Stt) (v : Value) : Value := .agg #[.string x.expr, .bool x.fin, v]
def szSU (l : List Stt) : Nat → Nat
  | 0 => 0
  | i + 1 => szSU l i + (match l[i]? with | some x => x.expr.size + x.next.length | none => 0)
theorem szSU_succ (l : List Stt) (i : Nat) (h : i < l.length) : szSU l (i + 1) = szSU l i + (l[i].expr.size + l[i].next.length) := by
  show szSU l i + _ = _
  rw [List.getElem?_eq_getElem h]
theorem szSU_mono (l : List Stt) : ∀ i j, i ≤ j → szSU l i ≤ szSU l j
  | i, 0, h => by obtain rfl : i = 0 := by omega
                  exact Nat.le_refl _
  | i, j + 1, h => by
    by_cases e : i = j + 1
    · subst e; exact Nat.le_refl _
    · have := szSU_mono l i j (by omega)
      show _ ≤ szSU l j + _
      omega
def szSn (l : List Stt) : Nat := l.length + szSU l l.length
theorem szS_each {l : List Stt} {B : Nat} (h : szSn l ≤ B) : l.length ≤ B ∧ ∀ i (hi : i < l.length), l[i].expr.size ≤ B ∧ l[i].next.length ≤ B := by
  unfold szSn at h
  refine ⟨by omega, fun i hi => ?_⟩
  have h1 := szSU_succ l i hi
  have h2 := szSU_mono l (i + 1) l.length hi
  omega

set_option maxHeartbeats 1000000 in
theorem szIntS_any (a : Option Addr) (n cap left : Nat) (w : World) (hl : left ≤ 1048576) (h : n ≤ 9223372036854775807) :
    Calls Try.prog 52 #[.slice a n cap, .int .i64 (left : Int)] w fun e w' => e = .returned (.int .i64 (if n ≤ left then ((left - n : Nat) : Int) else -1)) ∧ w' = w := by
  obtain ⟨R, hR⟩ : ∃ R : Int, R = if n ≤ left then ((left - n : Nat) : Int) else -1 := ⟨_, rfl⟩
  rw [← hR]
  have HR := hide hR
  clear hR
  go_enter Try.func52, Try.ntmps52
  go_wp2
  all_goals
    go_ret
    refine ⟨ret_i2 ?_, rfl⟩
    rw [HR.out]
    split <;> omega

set_option maxHeartbeats 1000000 in
theorem szState_any (x : Stt) (v : Value) (left : Nat) (w : World) (hl : left ≤ 1048576) (h : x.expr.size ≤ 9223372036854775807) (hv : ArgI w v x.next) :
    Calls Try.prog 30 #[stV x v, .int .i64 (left : Int)] w fun e w' => e = .returned (.int .i64 (if x.expr.size + x.next.length ≤ left then ((left - (x.expr.size + x.next.length) : Nat) : Int) else -1)) ∧ Below w.heap.size w w' := by
  unfold stV
  obtain ⟨a, cap, rfl, hn⟩ := argI_shape hv
  have S := hide (fun (left : Nat) (hl : left ≤ 1048576) w' => szIntS_any a x.next.length cap left w' hl hn)
  obtain ⟨R, hR⟩ : ∃ R : Int, R = if x.expr.size + x.next.length ≤ left then ((left - (x.expr.size + x.next.length) : Nat) : Int) else -1 := ⟨_, rfl⟩
  rw [← hR]
  have HR := hide hR
  clear hR hv
  by_cases h1 : x.expr.size ≤ left
  · have S1 := S.out (left - x.expr.size) (by omega)
    rw [show ((left - x.expr.size : Nat) : Int) = (left : Int) - (x.expr.size : Int) by omega] at S1
    by_cases h2 : x.next.length ≤ left - x.expr.size
    · simp only [if_pos h2] at S1
      rw [if_pos (by omega)] at HR
      have S2 := hide S1
      clear S1 S
      go_enter Try.func30, Try.ntmps30
      go_wp2_with fail
      refine (S2.out _).mono ?_
      rintro e w' ⟨rfl, hw⟩
      subst hw
      go_wp2
      go_ret
      refine ⟨ret_i2 ?_, (Below.refl _ _).alloc (Nat.le_refl _) _⟩
      rw [HR.out]; omega
    · simp only [if_neg h2] at S1
      rw [if_neg (by omega)] at HR
      have S2 := hide S1
      clear S1 S
      go_enter Try.func30, Try.ntmps30
      go_wp2_with fail
      refine (S2.out _).mono ?_
      rintro e w' ⟨rfl, hw⟩
      subst hw
      go_wp2
      go_ret
      exact ⟨ret_i2 HR.out.symm, (Below.refl _ _).alloc (Nat.le_refl _) _⟩
  · rw [if_neg (by omega)] at HR
    clear S
    go_enter Try.func30, Try.ntmps30
    go_wp2
    go_ret
    exact ⟨ret_i2 HR.out.symm, (Below.refl _ _).alloc (Nat.le_refl _) _⟩

set_option maxHeartbeats 2000000 in
/-- Too many letters and numbers are told by -1. -/
theorem szSt_from {w : World} {v : Value} {l : List Stt} (h : ArgSt w v l) (hs : ∀ i (hi : i < l.length), l[i].expr.size ≤ 9223372036854775807) (hm : l.length ≤ 9223372036854775807) (left : Nat) (hlf : left ≤ 1048576) :
    Calls Try.prog 11 #[v, .int .i64 (left : Int)] w fun e w' => e = .returned (.int .i64 (if szSn l ≤ left then ((left - szSn l : Nat) : Int) else -1)) ∧ Below w.heap.size w w' := by
  cases h with
  | nil a cap =>
    have e0 : (if szSn ([] : List Stt) ≤ left then ((left - szSn ([] : List Stt) : Nat) : Int) else -1) = left := by simp [szSn, szSU]
    rw [e0]
    go_enter Try.func11, Try.ntmps11
    go_wp2
    go_loop [1, 5] (fun k i => k = .int .i64 (left : Int) ∧ i = .int .i64 0) (fun _ _ => 0)
    case atStart => exact ⟨rfl, rfl⟩
    case round =>
      obtain ⟨rfl, rfl⟩ := hrel
      go_wp2
      go_ret
      exact ⟨rfl, Below.refl _ _⟩
  | row b off cap l vs hb hn hle hmx hc =>
    have Hc := hide hc
    have Hs := hide hs
    clear hc hs
    obtain ⟨R, hR⟩ : ∃ R : Int, R = if szSn l ≤ left then ((left - szSn l : Nat) : Int) else -1 := ⟨_, rfl⟩
    rw [← hR]
    unfold szSn at hR
    have HR := hide hR
    clear hR
    by_cases hbig : l.length ≤ left
    · go_enter Try.func11, Try.ntmps11
      go_wp2
      go_loopw [1, 5] (fun k i wr => ∃ m : Nat, i = .int .i64 m ∧ m ≤ l.length ∧ l.length + szSU l m ≤ left ∧ k = .int .i64 ((left - (l.length + szSU l m) : Nat) : Int) ∧ Below w.heap.size w wr) (fun _ i _ => l.length - (intOf i).toNat)
      case atStart => exact ⟨0, rfl, Nat.zero_le _, by show l.length + 0 ≤ _; omega, by rw [show ((left - (l.length + szSU l 0) : Nat) : Int) = (left : Int) - (l.length : Int) by show ((left - (l.length + 0) : Nat) : Int) = _; omega], Below.refl _ _⟩
      case round =>
        obtain ⟨m, rfl, hm1, hm2, rfl, hbel⟩ := hrel
        by_cases hlt : m < l.length
        · obtain ⟨c0, c1, c2, c3⟩ := Hc.out m hlt
          have d0 := (World.cell?_of_block (a := ⟨b, off + m * 3, none⟩) (hbel.block b hb)).trans c0
          have d1 := (World.cell?_of_block (a := ⟨b, off + m * 3 + 1, none⟩) (hbel.block b hb)).trans c1
          have d2 := (World.cell?_of_block (a := ⟨b, off + m * 3 + 2, none⟩) (hbel.block b hb)).trans c2
          have S := hide (szState_any l[m] (vs m) (left - (l.length + szSU l m)) wr (by omega) (Hs.out m hlt) (c3.later hbel))
          have hsu := szSU_succ l m hlt
          have hmo := szSU_mono l (m + 1) l.length (by omega)
          clear c0 c1 c2 c3
          by_cases hfit : l[m].expr.size + l[m].next.length ≤ left - (l.length + szSU l m)
          · rw [if_pos hfit] at S
            have e1 : left - (l.length + szSU l m) - (l[m].expr.size + l[m].next.length) = left - (l.length + szSU l (m + 1)) := by omega
            rw [e1] at S
            have hm3 : l.length + szSU l (m + 1) ≤ left := by omega
            obtain ⟨x, hx⟩ : ∃ x, x = left - (l.length + szSU l (m + 1)) := ⟨_, rfl⟩
            rw [← hx] at S
            have Hx := hide hx
            clear hx hsu e1
            go_wp2_with fail
            refine S.out.mono ?_
            rintro e w2 ⟨rfl, hb2⟩
            go_wp2
            refine ⟨⟨m + 1, by go_num, by omega, hm3, by rw [Hx.out], hbel.trans (hb2.mono hbel.size)⟩, by simp [intOf]; omega⟩
          · rw [if_neg hfit] at S
            have hno : ¬ l.length + szSU l l.length ≤ left := by omega
            have Hno := hide hno
            clear hsu hmo hno
            go_wp2_with fail
            refine S.out.mono ?_
            rintro e w2 ⟨rfl, hb2⟩
            go_wp2
            go_ret
            refine ⟨ret_i2 ?_, hbel.trans (hb2.mono hbel.size)⟩
            rw [HR.out, if_neg Hno.out]
        · obtain rfl : m = l.length := by omega
          go_wp2
          go_ret
          refine ⟨ret_i2 ?_, hbel⟩
          rw [HR.out, if_pos hm2]
    · go_enter Try.func11, Try.ntmps11
      go_wp2
      go_ret
      refine ⟨ret_i2 ?_, Below.refl _ _⟩
      rw [HR.out, if_neg (by omega)]

set_option maxHeartbeats 1000000 in
theorem toState_any (x : Stt) (v : Value) (w : World) (hv : ArgI w v x.next) (hm : x.next.length ≤ 2000000) :
    Calls Try.prog 34 #[stV x v] w fun e w' => ∃ g, e = .returned (stV x (.slice (some ⟨g, 0, none⟩) x.next.length x.next.length)) ∧ w.heap.size ≤ g ∧ g < w'.heap.size ∧ IAt w' g x.next ∧ Below w.heap.size w w' := by
  have T := hide (fun w' (hb : Below w.heap.size w w') => toIntS_any v x.next w' (hv.later hb) hm)
  obtain ⟨a, cap, rfl, hn⟩ := argI_shape hv
  unfold stV
  clear hv
  go_enter Try.func34, Try.ntmps34
  go_wp2_with fail
  obtain ⟨W3, hW3⟩ : ∃ W3 : World, W3 = (((w.alloc (.cells #[.string x.expr, .bool x.fin, .slice a x.next.length cap] 72)).alloc (.cells #[.string ⟨#[]⟩, .bool false, .slice none 0 0] 46)).alloc (.cells #[.string x.expr, .bool x.fin, .slice none 0 0] 46)) := ⟨_, rfl⟩
  have b1 : Bx3 W3 (w.heap.size + 1) (.string ⟨#[]⟩) (.bool false) (.slice none 0 0) := by
    rw [hW3]
    have := bx3_new (w.alloc (.cells #[.string x.expr, .bool x.fin, .slice a x.next.length cap] 72)) (.string ⟨#[]⟩) (.bool false) (.slice none 0 0) 46
    rw [World.size_alloc] at this
    exact this.block (Below.heap_alloc _ _ _ (by simp))
  have b2 : Bx3 W3 (w.heap.size + 2) (.string x.expr) (.bool x.fin) (.slice none 0 0) := by
    rw [hW3]
    have := bx3_new ((w.alloc (.cells #[.string x.expr, .bool x.fin, .slice a x.next.length cap] 72)).alloc (.cells #[.string ⟨#[]⟩, .bool false, .slice none 0 0] 46)) (.string x.expr) (.bool x.fin) (.slice none 0 0) 46
    rw [World.size_alloc, World.size_alloc] at this
    exact this
  have hb3 : Below w.heap.size w W3 := by rw [hW3]; exact (((Below.refl _ _).alloc (Nat.le_refl _) _).alloc (by simp) _).alloc (by simp; omega) _
  have hs3 : W3.heap.size = w.heap.size + 3 := by rw [hW3]; simp
  rw [← hW3]
  clear hW3
  refine (T.out W3 hb3).mono ?_
  rintro e w2 ⟨rfl, hlt, hI, -, hb2⟩
  rw [hs3] at hlt hI
  rw [hs3]
  have hbw := hb3.trans (hb2.mono hb3.size)
  have c1 := b1.block (W' := w2) (hb2.block _ (by omega))
  have c2 := b2.block (W' := w2) (hb2.block _ (by omega))
  clear hb2 b1 b2 T hb3
  obtain ⟨o0, o1, o2⟩ := c2.cells
  have fo := c2.fz 2
  have d2 := c2.set 2 (.slice (some ⟨w.heap.size + 3, 0, none⟩) x.next.length x.next.length) rfl
  have d1 := c1.block (W' := w2.setCell ⟨w.heap.size + 2, 2, none⟩ (.slice (some ⟨w.heap.size + 3, 0, none⟩) x.next.length x.next.length)) (Below.heap_setCell _ _ _ _ (by show w.heap.size + 1 ≠ w.heap.size + 2; omega))
  obtain ⟨p0, p1, p2⟩ := d2.cells
  obtain ⟨r0, r1, r2⟩ := d1.cells
  have g0 := d1.fz 0
  have g1 := d1.fz 1
  have g2 := d1.fz 2
  have e0 := d1.set 0 (.string x.expr) rfl
  have e1 := e0.set 1 (.bool x.fin) rfl
  have e2 := e1.set 2 (.slice (some ⟨w.heap.size + 3, 0, none⟩) x.next.length x.next.length) rfl
  obtain ⟨k0, k1, k2⟩ := e2.cells
  obtain ⟨-, q1, -⟩ := e0.cells
  obtain ⟨-, -, q2⟩ := e1.cells
  have z1 := e0.fz 1
  have z2 := e1.fz 2
  have hI' : IAt ((((w2.setCell ⟨w.heap.size + 2, 2, none⟩ (.slice (some ⟨w.heap.size + 3, 0, none⟩) x.next.length x.next.length)).setCell ⟨w.heap.size + 1, 0, none⟩ (.string x.expr)).setCell ⟨w.heap.size + 1, 1, none⟩ (.bool x.fin)).setCell ⟨w.heap.size + 1, 2, none⟩ (.slice (some ⟨w.heap.size + 3, 0, none⟩) x.next.length x.next.length)) (w.heap.size + 3) x.next := fun i hi => by
    rw [World.cell?_setCell_other _ _ _ _ (blk_ne (by omega)), World.cell?_setCell_other _ _ _ _ (blk_ne (by omega)), World.cell?_setCell_other _ _ _ _ (blk_ne (by omega)), World.cell?_setCell_other _ _ _ _ (blk_ne (by omega))]
    exact hI i hi
  have HI := hide hI'
  have HB := hide ((((hbw.setCell (p := ⟨w.heap.size + 2, 2, none⟩) (by show w.heap.size ≤ w.heap.size + 2; omega) (.slice (some ⟨w.heap.size + 3, 0, none⟩) x.next.length x.next.length)).setCell (p := ⟨w.heap.size + 1, 0, none⟩) (by show w.heap.size ≤ w.heap.size + 1; omega) (.string x.expr)).setCell (p := ⟨w.heap.size + 1, 1, none⟩) (by show w.heap.size ≤ w.heap.size + 1; omega) (.bool x.fin)).setCell (p := ⟨w.heap.size + 1, 2, none⟩) (by show w.heap.size ≤ w.heap.size + 1; omega) (.slice (some ⟨w.heap.size + 3, 0, none⟩) x.next.length x.next.length))
  clear c1 c2 d1 d2 e0 e1 e2 hI hI' hbw
  go_wp2
  refine bodyPost_ret (v := .agg #[.string x.expr, .bool x.fin, .slice (some ⟨w.heap.size + 3, 0, none⟩) x.next.length x.next.length]) (by simp [results, Try.results34, go_sem, k0, k1, k2]) rfl ⟨w.heap.size + 3, rfl, by omega, by simpa [World.setCell] using hlt, HI.out, HB.out⟩

/-- States in a block of the call's own, their numbers each in one of its own. -/
structure SIn (w : World) (g : Nat) (l : List Stt) (gs : Nat → Nat) : Prop where
  lt : g < w.heap.size
  c : ∀ i (h : i < l.length), w.cell? ⟨g, i * 3, none⟩ = some (.string l[i].expr) ∧ w.cell? ⟨g, i * 3 + 1, none⟩ = some (.bool l[i].fin) ∧ w.cell? ⟨g, i * 3 + 2, none⟩ = some (.slice (some ⟨gs i, 0, none⟩) l[i].next.length l[i].next.length)
  n : ∀ i (h : i < l.length), IAt w (gs i) l[i].next ∧ gs i < w.heap.size
theorem SIn.later {w w1 : World} {g : Nat} {l : List Stt} {gs : Nat → Nat} (h : SIn w g l gs) (hb : Below w.heap.size w w1) : SIn w1 g l gs :=
  ⟨Nat.lt_of_lt_of_le h.lt hb.size, fun i hi => by
    obtain ⟨h1, h2, h3⟩ := h.c i hi
    have e := fun j => World.cell?_of_block (a := ⟨g, j, none⟩) (hb.block g h.lt)
    exact ⟨(e _).trans h1, (e _).trans h2, (e _).trans h3⟩, fun i hi => ⟨(h.n i hi).1.later hb (h.n i hi).2, Nat.lt_of_lt_of_le (h.n i hi).2 hb.size⟩⟩
def SCp (w : World) (g : Nat) (l : List Stt) : Prop := ∃ gs, SIn w g l gs
theorem SCp.later {w w1 : World} {g : Nat} {l : List Stt} (h : SCp w g l) (hb : Below w.heap.size w w1) : SCp w1 g l := by obtain ⟨gs, h⟩ := h; exact ⟨gs, h.later hb⟩
theorem SCp.lt {w : World} {g : Nat} {l : List Stt} (h : SCp w g l) : g < w.heap.size := by obtain ⟨gs, h⟩ := h; exact h.lt

/-- While states are copied. -/
structure SW (w : World) (l : List Stt) (k : Nat) (wr : World) : Prop where
  blk : Blk wr w.heap.size (l.length * 3)
  below : Below w.heap.size w wr
  lt : w.heap.size < wr.heap.size
  c : ∃ gs : Nat → Nat, ∀ i (h : i < l.length), i < k → (wr.cell? ⟨w.heap.size, i * 3, none⟩ = some (.string l[i].expr) ∧ wr.cell? ⟨w.heap.size, i * 3 + 1, none⟩ = some (.bool l[i].fin) ∧ wr.cell? ⟨w.heap.size, i * 3 + 2, none⟩ = some (.slice (some ⟨gs i, 0, none⟩) l[i].next.length l[i].next.length)) ∧ IAt wr (gs i) l[i].next ∧ gs i < wr.heap.size ∧ w.heap.size < gs i
theorem sw_start {w : World} {l : List Stt} {C : Array Value} {t : TypeId} (hC : C.size = l.length * 3) : SW w l 0 (w.alloc (.cells C t)) where
  blk := ⟨fun j hj => ⟨C[j]'(by omega), by rw [cell_of_row _ w.heap.size j C t (0, 0) (heap_alloc_new w _)]; simp [hC, hj]⟩, fun j => World.frozen?_alloc_new _ _ _ _⟩
  below := (Below.refl _ _).alloc (Nat.le_refl _) _
  lt := by simp
  c := ⟨fun _ => 0, fun i _ hi => by omega⟩
theorem SW.later {w wr w2 : World} {l : List Stt} {k : Nat} (h : SW w l k wr) (hb : Below wr.heap.size wr w2) : SW w l k w2 where
  blk := h.blk.later hb h.lt
  below := h.below.trans (hb.mono h.below.size)
  lt := Nat.lt_of_lt_of_le h.lt hb.size
  c := by
    obtain ⟨gs, hc⟩ := h.c
    refine ⟨gs, fun i hi hk => ?_⟩
    obtain ⟨⟨h1, h2, h3⟩, h4, h5, h6⟩ := hc i hi hk
    have e := fun j => World.cell?_of_block (a := ⟨w.heap.size, j, none⟩) (hb.block _ h.lt)
    exact ⟨⟨(e _).trans h1, (e _).trans h2, (e _).trans h3⟩, h4.later hb h5, Nat.lt_of_lt_of_le h5 hb.size, h6⟩
theorem SW.step {w wr : World} {l : List Stt} {k g : Nat} (h : SW w l k wr) (hk : k < l.length) (hI : IAt wr g l[k].next) (hg : g < wr.heap.size) (hg2 : w.heap.size < g) :
    SW w l (k + 1) (((wr.setCell ⟨w.heap.size, k * 3, none⟩ (.string l[k].expr)).setCell ⟨w.heap.size, k * 3 + 1, none⟩ (.bool l[k].fin)).setCell ⟨w.heap.size, k * 3 + 2, none⟩ (.slice (some ⟨g, 0, none⟩) l[k].next.length l[k].next.length)) where
  blk := ((h.blk.set _ _).set _ _).set _ _
  below := ((h.below.setCell (Nat.le_refl _) _).setCell (Nat.le_refl _) _).setCell (Nat.le_refl _) _
  lt := by simpa [World.setCell] using h.lt
  c := by
    obtain ⟨gs, hc⟩ := h.c
    refine ⟨fun i => if i = k then g else gs i, fun i hi hik => ?_⟩
    have far : ∀ b j, b ≠ w.heap.size → (((wr.setCell ⟨w.heap.size, k * 3, none⟩ (.string l[k].expr)).setCell ⟨w.heap.size, k * 3 + 1, none⟩ (.bool l[k].fin)).setCell ⟨w.heap.size, k * 3 + 2, none⟩ (.slice (some ⟨g, 0, none⟩) l[k].next.length l[k].next.length)).cell? ⟨b, j, none⟩ = wr.cell? ⟨b, j, none⟩ := fun b j hb => by
      rw [World.cell?_setCell_other _ _ _ _ (blk_ne (Ne.symm hb)), World.cell?_setCell_other _ _ _ _ (blk_ne (Ne.symm hb)), World.cell?_setCell_other _ _ _ _ (blk_ne (Ne.symm hb))]
    have hsz : (((wr.setCell ⟨w.heap.size, k * 3, none⟩ (.string l[k].expr)).setCell ⟨w.heap.size, k * 3 + 1, none⟩ (.bool l[k].fin)).setCell ⟨w.heap.size, k * 3 + 2, none⟩ (.slice (some ⟨g, 0, none⟩) l[k].next.length l[k].next.length)).heap.size = wr.heap.size := by simp [World.setCell]
    by_cases e : i = k
    · subst e
      simp only [if_true]
      obtain ⟨x0, y0⟩ := h.blk.ex (i * 3) (by omega)
      obtain ⟨x1, y1⟩ := h.blk.ex (i * 3 + 1) (by omega)
      obtain ⟨x2, y2⟩ := h.blk.ex (i * 3 + 2) (by omega)
      refine ⟨⟨?_, ?_, ?_⟩, fun j hj => (far g j (by omega)).trans (hI j hj), by rw [hsz]; exact hg, hg2⟩
      · rw [World.cell?_setCell_other _ _ _ _ (off_neP (by omega)), World.cell?_setCell_other _ _ _ _ (off_neP (by omega))]
        exact World.cell?_setCell_same _ _ _ y0
      · rw [World.cell?_setCell_other _ _ _ _ (off_neP (by omega))]
        exact World.cell?_setCell_same _ _ _ ((World.cell?_setCell_other _ _ _ _ (off_neP (by omega))).trans y1)
      · exact World.cell?_setCell_same _ _ _ ((World.cell?_setCell_other _ _ _ _ (off_neP (by omega))).trans ((World.cell?_setCell_other _ _ _ _ (off_neP (by omega))).trans y2))
    · simp only [if_neg e]
      obtain ⟨⟨h1, h2, h3⟩, h4, h5, h6⟩ := hc i hi (by omega)
      have o : ∀ j, j ≠ k * 3 → j ≠ k * 3 + 1 → j ≠ k * 3 + 2 → (((wr.setCell ⟨w.heap.size, k * 3, none⟩ (.string l[k].expr)).setCell ⟨w.heap.size, k * 3 + 1, none⟩ (.bool l[k].fin)).setCell ⟨w.heap.size, k * 3 + 2, none⟩ (.slice (some ⟨g, 0, none⟩) l[k].next.length l[k].next.length)).cell? ⟨w.heap.size, j, none⟩ = wr.cell? ⟨w.heap.size, j, none⟩ := fun j a b c => by
        rw [World.cell?_setCell_other _ _ _ _ (off_neP (Ne.symm c)), World.cell?_setCell_other _ _ _ _ (off_neP (Ne.symm b)), World.cell?_setCell_other _ _ _ _ (off_neP (Ne.symm a))]
      exact ⟨⟨(o _ (by omega) (by omega) (by omega)).trans h1, (o _ (by omega) (by omega) (by omega)).trans h2, (o _ (by omega) (by omega) (by omega)).trans h3⟩, fun j hj => (far _ j (by omega)).trans (h4 j hj), by rw [hsz]; exact h5, h6⟩
theorem SW.all {w wr : World} {l : List Stt} (h : SW w l l.length wr) : SCp wr w.heap.size l := by
  obtain ⟨gs, hc⟩ := h.c
  exact ⟨gs, h.lt, fun i hi => (hc i hi hi).1, fun i hi => ⟨(hc i hi hi).2.1, (hc i hi hi).2.2.1⟩⟩
theorem makeSt (n : Nat) (hn : n ≤ 2000000) : ∃ C : Array Value, C.size = n * 3 ∧ ∀ w : World, (Instr.makeSlice 22 (.int .i64 (n : Int)) (.int .i64 (n : Int))).run Try.prog w = .ok (.slice (some ⟨w.heap.size, 0, none⟩) n n) (w.alloc (.cells C 46)) := by
  have hinfo : (Try.prog.info? 46).map (fun i => (i.zero, i.size, i.bytes)) = some (some (.agg #[.string ⟨#[]⟩, .bool false, .slice none 0 0]), 3, 48) := by kernel_rfl
  obtain ⟨i0, hi0, hz0, hz1, hz2⟩ := info_parts hinfo
  refine ⟨madeCells (Value.agg #[.string ⟨#[]⟩, .bool false, .slice none 0 0]).cells (n * i0.size), by rw [size_madeCells, hz1], fun w => ?_⟩
  have := run_make (P := Try.prog) w 22 46 i0 (.agg #[.string ⟨#[]⟩, .bool false, .slice none 0 0]) Try.underlying22 hi0 hz0 .i64 .i64 n n (by omega) (Int.le_refl _) (by rw [hz2]; omega) (by omega)
  simpa only [Int.toNat_natCast] using this

set_option maxHeartbeats 2000000 in
theorem toSt_cp {w : World} {v : Value} {l : List Stt} (h : ArgSt w v l) (hm : szSn l ≤ 1048576) :
    Calls Try.prog 13 #[v] w fun e w' => e = .returned (.slice (some ⟨w.heap.size, 0, none⟩) l.length l.length) ∧ SCp w' w.heap.size l ∧ Below w.heap.size w w' := by
  obtain ⟨hl, heach⟩ := szS_each hm
  cases h with
  | nil a cap =>
    obtain ⟨C, hC, hmk⟩ := makeSt 0 (by omega)
    have S0 := hide (sw_start (l := []) (w := w) (C := C) (t := 46) (by simpa using hC))
    have hmk0 : ∀ w : World, (Instr.makeSlice 22 (.int .i64 0) (.int .i64 0)).run Try.prog w = .ok (.slice (some ⟨w.heap.size, 0, none⟩) 0 0) (w.alloc (.cells C 46)) := hmk
    clear hmk hC
    go_enter Try.func13, Try.ntmps13
    go_wp2
    go_loop [4] (fun i => i = .int .i64 0) (fun _ => 0)
    case atStart => rfl
    case round =>
      subst hrel
      go_wp2
      go_ret
      exact ⟨rfl, S0.out.all, S0.out.below⟩
  | row b off cap l vs hb hn hle hmx hc =>
    obtain ⟨C, hC, hmk⟩ := makeSt l.length (by omega)
    have S0 := hide (sw_start (l := l) (w := w) (C := C) (t := 46) hC)
    have Hc := hide hc
    have HE := hide heach
    clear hC hc heach
    go_enter Try.func13, Try.ntmps13
    go_wp2
    clear hmk
    go_loopw [4] (fun i wr => ∃ k : Nat, k ≤ l.length ∧ i = .int .i64 k ∧ SW w l k wr) (fun i _ => l.length - (intOf i).toNat)
    case atStart => exact ⟨0, by omega, rfl, S0.out⟩
    case round =>
      obtain ⟨k, hk, rfl, hat⟩ := hrel
      by_cases hlt : k < l.length
      · obtain ⟨c0, c1, c2, c3⟩ := Hc.out k hlt
        have d0 := (World.cell?_of_block (a := ⟨b, off + k * 3, none⟩) (hat.below.block b hb)).trans c0
        have d1 := (World.cell?_of_block (a := ⟨b, off + k * 3 + 1, none⟩) (hat.below.block b hb)).trans c1
        have d2 := (World.cell?_of_block (a := ⟨b, off + k * 3 + 2, none⟩) (hat.below.block b hb)).trans c2
        have Hat := hide hat
        have T := hide (toState_any l[k] (vs k) wr (c3.later hat.below) (by have := (HE.out k hlt).2; omega))
        clear hat c0 c1 c2 c3
        unfold stV at T
        go_wp2_with fail
        refine T.out.mono ?_
        rintro e w2 ⟨g, rfl, hg1, hg2, hI, hb2⟩
        have h2 := Hat.out.later hb2
        obtain ⟨x0, y0⟩ := h2.blk.ex (k * 3) (by omega)
        have f0 := h2.blk.fz (k * 3)
        obtain ⟨x1, y1⟩ := h2.blk.ex (k * 3 + 1) (by omega)
        have f1 := h2.blk.fz (k * 3 + 1)
        obtain ⟨x2, y2⟩ := h2.blk.ex (k * 3 + 2) (by omega)
        have f2 := h2.blk.fz (k * 3 + 2)
        have A := hide (h2.step hlt hI hg2 (Nat.lt_of_lt_of_le Hat.out.lt hg1))
        clear h2 d0 d1 d2 hI hb2
        go_wp2
        refine ⟨⟨k + 1, by omega, by go_num, A.out⟩, by simp [intOf]; omega⟩
      · obtain rfl : k = l.length := by omega
        go_wp2
        go_ret
        exact ⟨rfl, hat.all, hat.below⟩

set_option maxHeartbeats 1000000 in
theorem eqState_same (x : Stt) (ga gb : Nat) (w : World) (ha : IAt w ga x.next) (hb : IAt w gb x.next) (hga : ga < w.heap.size) (hgb : gb < w.heap.size) (hm : x.next.length ≤ 10000000) :
    Calls Try.prog 26 #[stV x (.slice (some ⟨ga, 0, none⟩) x.next.length x.next.length), stV x (.slice (some ⟨gb, 0, none⟩) x.next.length x.next.length)] w fun e w' => e = .returned (.bool true) ∧ Below w.heap.size w w' := by
  have E := hide (fun w' (h : Below w.heap.size w w') => eqIntS_at ga gb x.next.length x.next.length x.next w' hm ⟨Nat.le_refl _, by unfold maxLen; omega⟩ ⟨Nat.le_refl _, by unfold maxLen; omega⟩ (ha.later h hga) (hb.later h hgb) (Nat.lt_of_lt_of_le hga h.size) (Nat.lt_of_lt_of_le hgb h.size))
  have hb0 : Hid (∀ a b : Obj, Below w.heap.size w ((w.alloc a).alloc b)) := hide (fun a b => ((Below.refl _ _).alloc (Nat.le_refl _) _).alloc (by simp) _)
  unfold stV
  clear ha hb
  go_enter Try.func26, Try.ntmps26
  go_wp2_with fail
  refine (E.out _ (hb0.out _ _)).mono ?_
  rintro e w2 ⟨rfl, hb2⟩
  have hbw := (hb0.out _ _).trans (hb2.mono (hb0.out _ _).size)
  clear hb2
  go_wp2
  go_ret
  exact ⟨rfl, hbw⟩

set_option maxHeartbeats 2000000 in
theorem eqSt_cp {w : World} {ga gb : Nat} {l : List Stt} (ha : SCp w ga l) (hb : SCp w gb l) (hm : szSn l ≤ 1048576) :
    Calls Try.prog 8 #[.slice (some ⟨ga, 0, none⟩) l.length l.length, .slice (some ⟨gb, 0, none⟩) l.length l.length] w fun e w' => e = .returned (.bool true) ∧ Below w.heap.size w w' := by
  obtain ⟨gsa, ha⟩ := ha
  obtain ⟨gsb, hb⟩ := hb
  obtain ⟨hl, heach⟩ := szS_each hm
  have HA := hide ha
  have HB := hide hb
  have HE := hide heach
  clear ha hb heach
  go_enter Try.func8, Try.ntmps8
  go_wp2
  go_loopw [5] (fun i wr => ∃ k : Nat, k ≤ l.length ∧ i = .int .i64 k ∧ Below w.heap.size w wr) (fun i _ => l.length - (intOf i).toNat)
  case atStart => exact ⟨0, by omega, rfl, Below.refl _ _⟩
  case round =>
    obtain ⟨k, hk, rfl, hbel⟩ := hrel
    by_cases hlt : k < l.length
    · have hA := HA.out.later hbel
      have hB := HB.out.later hbel
      obtain ⟨a0, a1, a2⟩ := hA.c k hlt
      obtain ⟨b0, b1, b2⟩ := hB.c k hlt
      have E := hide (fun w' (h : Below wr.heap.size wr w') => eqState_same l[k] (gsa k) (gsb k) w' ((hA.n k hlt).1.later h (hA.n k hlt).2) ((hB.n k hlt).1.later h (hB.n k hlt).2) (Nat.lt_of_lt_of_le (hA.n k hlt).2 h.size) (Nat.lt_of_lt_of_le (hB.n k hlt).2 h.size) (by have := (HE.out k hlt).2; omega))
      unfold stV at E
      clear hA hB
      go_wp2_with fail
      go_region_with (go_at_call 26; refine (E.out _ (Below.refl _ _).drew).mono ?_; rintro e w' ⟨rfl, hb'⟩)
      all_goals
        go_wp2
        go_roundw
        case rel => exact ⟨k + 1, by omega, by go_num, hbel.trans ((Below.refl _ _).drew.trans (hb'.mono (show w.heap.size ≤ wr.drew.heap.size from hbel.size)))⟩
        case measure => simp [intOf]; omega
    · go_wp2
      go_ret
      exact ⟨rfl, hbel⟩
end Go.Proofs.Ytafhpnkedjbcday
