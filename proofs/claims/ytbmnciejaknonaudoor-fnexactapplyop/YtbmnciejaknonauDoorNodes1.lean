/- The contracts of the laws' own helpers over rows of nodes: held against one another, marked, and whether marks are held. -/
import Derived.Test.YtbmnciejaknonauDoorWalks4
import Derived.Test.YtbmnciejaknonauDoorTree1
import Derived.Deep.QuietTactic
import Derived.BigQuiet
import Derived.Deep.RegionWith
namespace Go.Proofs.YtbmnciejaknonauDoor
open Go.RowKit
open Doc1

/-- A node as a value, and as cells. -/
def ndV (n : Nd) : Value := .agg #[.string n.name, .string n.text, .int .i64 n.up]
def ndC (n : Nd) : List Value := [.string n.name, .string n.text, .int .i64 n.up]
def encL (l : List Nd) : List Value := l.flatMap ndC

theorem str_ne {a b : ByteArray} (h : (!a.toList == b.toList) = true) : a ≠ b := by
  rintro rfl; simp at h
theorem str_eq {a b : ByteArray} (h : (!a.toList == b.toList) = false) : a = b := by
  simp only [Bool.not_eq_false', beq_iff_eq, ByteArray.toList_eq] at h
  exact ba_eq h
theorem nd_ne1 {a b : Nd} (h : a.name ≠ b.name) : false = decide (a = b) := by
  symm; apply decide_eq_false; rintro rfl; exact h rfl
theorem nd_ne2 {a b : Nd} (h : a.text ≠ b.text) : false = decide (a = b) := by
  symm; apply decide_eq_false; rintro rfl; exact h rfl
theorem nd_ne3 {a b : Nd} (h : (a.up != b.up) = true) : false = decide (a = b) := by
  symm; apply decide_eq_false; rintro rfl; simp at h
theorem nd_eq3 {a b : Nd} (h1 : a.name = b.name) (h2 : a.text = b.text) (h : (a.up != b.up) = false) : true = decide (a = b) := by
  symm; apply decide_eq_true
  simp at h
  cases a; cases b; simp_all

set_option maxHeartbeats 1000000 in
theorem eqNode_any (a b : Nd) (w : World) :
    Calls Tryd.prog 40 #[ndV a, ndV b] w fun e w' => e = .returned (.bool (decide (a = b))) ∧ Below w.heap.size w w' := by
  unfold ndV
  go_enter Tryd.func40, Tryd.ntmps40
  go_wp2
  · go_ret
    exact ⟨ret_bool (nd_ne1 (str_ne ‹_›)), (((Below.refl _ _).alloc (Nat.le_refl _) _).alloc (by simp) _)⟩
  · go_ret
    exact ⟨ret_bool (nd_ne2 (str_ne ‹_›)), (((Below.refl _ _).alloc (Nat.le_refl _) _).alloc (by simp) _)⟩
  · go_ret
    exact ⟨ret_bool (nd_ne3 ‹_›), (((Below.refl _ _).alloc (Nat.le_refl _) _).alloc (by simp) _)⟩
  · go_ret
    rename_i h1 h2 h3
    exact ⟨ret_bool (nd_eq3 (str_eq h1) (str_eq h2) h3), (((Below.refl _ _).alloc (Nat.le_refl _) _).alloc (by simp) _)⟩

/-- A row of nodes lies in a block. -/
structure NAt (w : World) (g : Nat) (l : List Nd) : Prop where
  c0 : ∀ i (h : i < l.length), w.cell? ⟨g, i * 3, none⟩ = some (.string l[i].name)
  c1 : ∀ i (h : i < l.length), w.cell? ⟨g, i * 3 + 1, none⟩ = some (.string l[i].text)
  c2 : ∀ i (h : i < l.length), w.cell? ⟨g, i * 3 + 2, none⟩ = some (.int .i64 l[i].up)
/-- A slice of nodes. -/
def NRow (w : World) (v : Value) (l : List Nd) : Prop :=
  (v = .slice none 0 0 ∧ l = []) ∨ ∃ g cap, v = .slice (some ⟨g, 0, none⟩) l.length cap ∧ l.length ≤ cap ∧ cap ≤ maxLen ∧ NAt w g l

theorem NAt.later {w w1 : World} {B g : Nat} {l : List Nd} (h : NAt w g l) (hb : Below B w w1) (hg : g < B) : NAt w1 g l where
  c0 := fun i hi => (World.cell?_of_block (hb.block g hg)).trans (h.c0 i hi)
  c1 := fun i hi => (World.cell?_of_block (hb.block g hg)).trans (h.c1 i hi)
  c2 := fun i hi => (World.cell?_of_block (hb.block g hg)).trans (h.c2 i hi)
theorem NAt.drewN {w : World} {g n : Nat} {l : List Nd} (h : NAt w g l) : NAt (w.drewN n) g l := ⟨h.c0, h.c1, h.c2⟩

set_option maxHeartbeats 1000000 in
theorem eqNodeS_at (ga gb ca cb : Nat) (l : List Nd) (w : World) (hm : l.length ≤ 10000000) (_h1 : l.length ≤ ca ∧ ca ≤ maxLen) (_h2 : l.length ≤ cb ∧ cb ≤ maxLen) (ha : NAt w ga l) (hb : NAt w gb l) (hga : ga < w.heap.size) (hgb : gb < w.heap.size) :
    Calls Tryd.prog 13 #[.slice (some ⟨ga, 0, none⟩) l.length ca, .slice (some ⟨gb, 0, none⟩) l.length cb] w fun e w' => e = .returned (.bool true) ∧ Below w.heap.size w w' := by
  have E : Hid (∀ n w, Calls Tryd.prog 40 #[ndV n, ndV n] w fun e w' => e = .returned (.bool true) ∧ Below w.heap.size w w') := hide (fun n w => by have := eqNode_any n n w; simpa using this)
  go_enter Tryd.func13, Tryd.ntmps13
  go_wp2
  go_loopw [5] (fun i wr => ∃ k : Nat, k ≤ l.length ∧ i = .int .i64 k ∧ Below w.heap.size w wr) (fun i _ => l.length - (intOf i).toNat)
  case atStart => exact ⟨0, by omega, rfl, Below.refl _ _⟩
  case round =>
    obtain ⟨k, hk, rfl, hbel⟩ := hrel
    by_cases hlt : k < l.length
    · have ra := ha.later hbel hga
      have rb := hb.later hbel hgb
      have a0 := ra.c0 k hlt
      have a1 := ra.c1 k hlt
      have a2 := ra.c2 k hlt
      have b0 := rb.c0 k hlt
      have b1 := rb.c1 k hlt
      have b2 := rb.c2 k hlt
      clear ra rb
      go_wp2_with fail
      go_region_with (go_at_call 40; refine (E.out l[k] _).mono ?_; rintro e w' ⟨rfl, hb'⟩)
      all_goals
        go_wp2
        go_roundw
        case rel => exact ⟨k + 1, by omega, by go_num, hbel.trans ((Below.refl _ _).drew.trans (hb'.mono (show w.heap.size ≤ wr.drew.heap.size from hbel.size)))⟩
        case measure => simp [intOf]; omega
    · go_wp2
      go_ret
      exact ⟨rfl, hbel⟩

/-- The digits of a mark. -/
def dg (n : Nat) : List UInt8 := if _h : n = 0 then [] else dg (n / 10) ++ [48 + UInt8.ofNat (n % 10)]
termination_by n
decreasing_by omega
theorem dg_zero : dg 0 = [] := by unfold dg; simp
theorem dg_pos {n : Nat} (h : 0 < n) : dg n = dg (n / 10) ++ [48 + UInt8.ofNat (n % 10)] := by
  rw [dg]; simp [show n ≠ 0 by omega]
def mkT (n : Nat) : ByteArray := ba (109 :: dg n)
theorem dg_step {n k : Nat} {s t : ByteArray} (hn : 0 < n) (h : dg n ++ s.data.toList = dg k) (ht : t.data.toList = (48 + UInt8.ofNat (n % 10)) :: s.data.toList) : dg (n / 10) ++ t.data.toList = dg k := by
  rw [ht, ← h, dg_pos hn]; simp
theorem conv_byte (W : World) (v : Int) (h0 : 0 ≤ v) (h1 : v ≤ 255) : (convert 55 9 (.slice (some ⟨W.heap.size, 0, none⟩) 1 1)).run Tryd.prog (W.alloc (.cells #[.int .u8 v] 5)) = .ok (.string ⟨#[UInt8.ofNat v.toNat]⟩) (W.alloc (.cells #[.int .u8 v] 5)) := by
  have := run_convert_bytes_back (P := Tryd.prog) (W.alloc (.cells #[.int .u8 v] 5)) 55 9 5 ⟨W.heap.size, 0, none⟩ 1 [UInt8.ofNat v.toNat] Tryd.underlying55 Tryd.underlying5 Tryd.underlying9 (by
    intro j hj
    simp at hj
    subst hj
    show (W.alloc _).cell? ⟨W.heap.size, 0, none⟩ = _
    rw [World.cell?_alloc_at _ _ _ _ rfl]
    simp; omega)
  exact this

set_option maxHeartbeats 1000000 in
theorem markText_any (K : Nat) (w : World) (hK : 0 < K) (hm : K ≤ 1000000000) :
    Calls Tryd.prog 41 #[.int .i64 (K : Int)] w fun e w' => e = .returned (.string (mkT K)) ∧ Below w.heap.size w w' := by
  go_enter Tryd.func41, Tryd.ntmps41
  go_wp2
  go_loopw [0, 3] (fun n s wr => ∃ (m : Nat) (t : ByteArray), n = .int .i64 m ∧ s = .string t ∧ t.size + m ≤ K ∧ Hid (dg m ++ t.data.toList = dg K) ∧ Below w.heap.size w wr) (fun n _ _ => (intOf n).toNat)
  case atStart => exact ⟨K, ⟨#[]⟩, rfl, rfl, by show 0 + K ≤ K; omega, hide (by show dg K ++ [] = dg K; simp), Below.refl _ _⟩
  case round =>
    obtain ⟨m, t, rfl, rfl, hsz, hd, hbel⟩ := hrel
    by_cases h0 : 0 < m
    · have kc := fun W => conv_byte W (48 + (m : Int) % 10) (by omega) (by omega)
      go_wp2
      refine ⟨⟨m / 10, _, by simp, rfl, ?_, hide (dg_step h0 hd.out (by simp)), hbel.alloc hbel.size _⟩, ?_⟩
      · rw [ByteArray.size_append, show (ByteArray.mk #[48 + UInt8.ofNat (m % 10)]).size = 1 from rfl]; omega
      · simp [intOf]; omega
    · obtain rfl : m = 0 := by omega
      go_wp2
      go_ret
      have hd2 := hd.out
      rw [dg_zero] at hd2
      have : ByteArray.mk #[109] ++ t = mkT K := ba_eq (by rw [mkT, ba_list, ← hd2]; simp)
      exact ⟨by rw [this]; rfl, hbel⟩

theorem off_ne {g i j : Nat} (h : i ≠ j) : (⟨g, i, none⟩ : Addr) ≠ ⟨g, j, none⟩ := by intro e; injection e; omega
/-- Cells that can be written. -/
structure Blk (w : World) (g n : Nat) : Prop where
  ex : ∀ j, j < n → ∃ v, w.cell? ⟨g, j, none⟩ = some v
  fz : ∀ j, w.frozen? ⟨g, j, none⟩ = false
theorem Blk.later {w w1 : World} {B g n : Nat} (h : Blk w g n) (hb : Below B w w1) (hg : g < B) : Blk w1 g n where
  ex := fun j hj => by rw [World.cell?_of_block (hb.block g hg)]; exact h.ex j hj
  fz := fun j => by rw [World.frozen?_of_block (hb.block g hg)]; exact h.fz j
theorem Blk.set {w : World} {g n : Nat} (h : Blk w g n) (j : Nat) (v : Value) : Blk (w.setCell ⟨g, j, none⟩ v) g n where
  ex := fun i hi => by
    obtain ⟨x, hx⟩ := h.ex i hi
    by_cases e : i = j
    · subst e; exact ⟨v, World.cell?_setCell_same _ _ _ hx⟩
    · exact ⟨x, by rw [World.cell?_setCell_other _ _ _ _ (off_ne (Ne.symm e))]; exact hx⟩
  fz := fun i => by rw [World.frozen?_setCell]; exact h.fz i
/-- The marks of so many nodes. -/
def mks (K n : Nat) : List Nd := (List.range n).map fun i => ⟨mkT (K + 3 * i), mkT (K + 3 * i + 1), ((K + 3 * i + 2 : Nat) : Int)⟩
theorem mks_len (K n : Nat) : (mks K n).length = n := by simp [mks]
theorem mks_at (K n i : Nat) (h : i < (mks K n).length) : (mks K n)[i] = ⟨mkT (K + 3 * i), mkT (K + 3 * i + 1), ((K + 3 * i + 2 : Nat) : Int)⟩ := by simp [mks]
/-- What is known in the rounds of markNodeS. -/
structure MAt (w : World) (g K n k : Nat) (wr : World) : Prop where
  blk : Blk wr g (3 * n)
  grown : w.grownBy wr (some g)
  lt : g < w.heap.size
  c0 : ∀ i, i < k → wr.cell? ⟨g, i * 3, none⟩ = some (.string (mkT (K + 3 * i)))
  c1 : ∀ i, i < k → wr.cell? ⟨g, i * 3 + 1, none⟩ = some (.string (mkT (K + 3 * i + 1)))
  c2 : ∀ i, i < k → wr.cell? ⟨g, i * 3 + 2, none⟩ = some (.int .i64 ((K + 3 * i + 2 : Nat) : Int))
theorem grown_set {w w1 : World} {g : Nat} (h : w.grownBy w1 (some g)) (j : Nat) (v : Value) : w.grownBy (w1.setCell ⟨g, j, none⟩ v) (some g) :=
  h.trans ⟨rfl, rfl, rfl, by simp [World.setCell], fun k _ hne => Below.heap_setCell _ _ _ _ (by intro e; subst e; exact hne rfl)⟩
theorem grown_below {w w1 w2 : World} {g : Nat} (h : w.grownBy w1 (some g)) (hb : Below w1.heap.size w1 w2) : w.grownBy w2 (some g) :=
  h.trans ⟨hb.os, hb.tape, hb.output, hb.size, fun k hk _ => hb.block k hk⟩
theorem MAt.below {w wr w1 : World} {g K n k : Nat} (h : MAt w g K n k wr) (hb : Below wr.heap.size wr w1) : MAt w g K n k w1 := by
  have hg : g < wr.heap.size := Nat.lt_of_lt_of_le h.lt h.grown.size
  exact ⟨h.blk.later hb hg, grown_below h.grown hb, h.lt, fun i hi => by rw [World.cell?_of_block (hb.block g hg)]; exact h.c0 i hi, fun i hi => by rw [World.cell?_of_block (hb.block g hg)]; exact h.c1 i hi, fun i hi => by rw [World.cell?_of_block (hb.block g hg)]; exact h.c2 i hi⟩
theorem MAt.set {w wr : World} {g K n k : Nat} (h : MAt w g K n k wr) (j : Nat) (v : Value) (hj : k * 3 ≤ j) : MAt w g K n k (wr.setCell ⟨g, j, none⟩ v) :=
  ⟨h.blk.set j v, grown_set h.grown j v, h.lt, fun i hi => by rw [World.cell?_setCell_other _ _ _ _ (off_ne (by omega))]; exact h.c0 i hi, fun i hi => by rw [World.cell?_setCell_other _ _ _ _ (off_ne (by omega))]; exact h.c1 i hi, fun i hi => by rw [World.cell?_setCell_other _ _ _ _ (off_ne (by omega))]; exact h.c2 i hi⟩
theorem MAt.step {w wr : World} {g K n k : Nat} (h : MAt w g K n k wr) (h0 : wr.cell? ⟨g, k * 3, none⟩ = some (.string (mkT (K + 3 * k)))) (h1 : wr.cell? ⟨g, k * 3 + 1, none⟩ = some (.string (mkT (K + 3 * k + 1))))
    (h2 : wr.cell? ⟨g, k * 3 + 2, none⟩ = some (.int .i64 ((K + 3 * k + 2 : Nat) : Int))) : MAt w g K n (k + 1) wr where
  blk := h.blk
  grown := h.grown
  lt := h.lt
  c0 := fun i hi => by by_cases e : i = k; subst e; exact h0; exact h.c0 i (by omega)
  c1 := fun i hi => by by_cases e : i = k; subst e; exact h1; exact h.c1 i (by omega)
  c2 := fun i hi => by by_cases e : i = k; subst e; exact h2; exact h.c2 i (by omega)
theorem MAt.all {w wr : World} {g K n : Nat} (h : MAt w g K n n wr) : NAt wr g (mks K n) where
  c0 := fun i hi => by rw [mks_at]; exact h.c0 i (by rw [mks_len] at hi; exact hi)
  c1 := fun i hi => by rw [mks_at]; exact h.c1 i (by rw [mks_len] at hi; exact hi)
  c2 := fun i hi => by rw [mks_at]; exact h.c2 i (by rw [mks_len] at hi; exact hi)

set_option maxHeartbeats 1000000 in
theorem markNodeS_at (g c n : Nat) (w : World) (hm : n ≤ 10000000) (_h1 : n ≤ c ∧ c ≤ maxLen) (hg : g < w.heap.size) (hb : Blk w g (3 * n)) :
    Calls Tryd.prog 14 #[.slice (some ⟨g, 0, none⟩) n c, .int .i64 1] w fun e w' => e = .returned (.int .i64 (1 + 3 * n : Nat)) ∧ w.grownBy w' (some g) ∧ NAt w' g (mks 1 n) ∧ Blk w' g (3 * n) := by
  have T : Hid (∀ (K : Nat) w, 0 < K → K ≤ 1000000000 → Calls Tryd.prog 41 #[.int .i64 (K : Int)] w fun e w' => e = .returned (.string (mkT K)) ∧ Below w.heap.size w w') := hide (fun K w h1 h2 => markText_any K w h1 h2)
  go_enter Tryd.func14, Tryd.ntmps14
  go_wp2
  go_loopw [1, 5] (fun k1 i wr => ∃ k : Nat, k ≤ n ∧ i = .int .i64 k ∧ k1 = .int .i64 (1 + 3 * k : Nat) ∧ MAt w g 1 n k wr) (fun _ i _ => n - (intOf i).toNat)
  case atStart => exact ⟨0, by omega, rfl, rfl, ⟨hb, ⟨rfl, rfl, rfl, Nat.le_refl _, fun _ _ _ => rfl⟩, hg, fun i hi => by omega, fun i hi => by omega, fun i hi => by omega⟩⟩
  case round =>
    obtain ⟨k, hk, rfl, rfl, ra⟩ := hrel
    by_cases hlt : k < n
    · clear hb
      go_wp2_with fail
      refine (T.out (1 + 3 * k) _ (by omega) (by omega)).mono ?_
      rintro e w1 ⟨rfl, hb1⟩
      have r1 := ra.below hb1
      obtain ⟨x0, hx0⟩ := r1.blk.ex (k * 3) (by omega)
      have f0 := r1.blk.fz (k * 3)
      go_wp2_with fail
      have s1 := r1.set (k * 3) (.string (mkT (1 + 3 * k))) (Nat.le_refl _)
      have t0 : (w1.setCell ⟨g, k * 3, none⟩ (.string (mkT (1 + 3 * k)))).cell? ⟨g, k * 3, none⟩ = some (.string (mkT (1 + 3 * k))) := World.cell?_setCell_same _ _ _ hx0
      have hl1 : g < (w1.setCell ⟨g, k * 3, none⟩ (.string (mkT (1 + 3 * k)))).heap.size := Nat.lt_of_lt_of_le hg s1.grown.size
      clear hb1 ra hx0 f0 r1
      generalize (w1.setCell ⟨g, k * 3, none⟩ (.string (mkT (1 + 3 * k)))) = w2 at *
      refine (T.out (1 + 3 * k + 1) _ (by omega) (by omega)).mono ?_
      rintro e w3 ⟨rfl, hb3⟩
      have r3 := s1.below hb3
      have t0' := (World.cell?_of_block (a := ⟨g, k * 3, none⟩) (hb3.block g hl1)).trans t0
      obtain ⟨x1, hx1⟩ := r3.blk.ex (k * 3 + 1) (by omega)
      have f1 := r3.blk.fz (k * 3 + 1)
      obtain ⟨x2, hx2⟩ := r3.blk.ex (k * 3 + 2) (by omega)
      have f2 := r3.blk.fz (k * 3 + 2)
      have s3 := (r3.set (k * 3 + 1) (.string (mkT (1 + 3 * k + 1))) (by omega)).set (k * 3 + 2) (.int .i64 ((1 + 3 * k + 2 : Nat) : Int)) (by omega)
      have u1 : (w3.setCell ⟨g, k * 3 + 1, none⟩ (.string (mkT (1 + 3 * k + 1)))).cell? ⟨g, k * 3 + 2, none⟩ = some x2 := by rw [World.cell?_setCell_other _ _ _ _ (off_ne (by omega))]; exact hx2
      have u2 : (w3.setCell ⟨g, k * 3 + 1, none⟩ (.string (mkT (1 + 3 * k + 1)))).cell? ⟨g, k * 3 + 1, none⟩ = some (.string (mkT (1 + 3 * k + 1))) := World.cell?_setCell_same _ _ _ hx1
      have A := s3.step (by rw [World.cell?_setCell_other _ _ _ _ (off_ne (by omega)), World.cell?_setCell_other _ _ _ _ (off_ne (by omega))]; exact t0') (by rw [World.cell?_setCell_other _ _ _ _ (off_ne (by omega))]; exact u2) (World.cell?_setCell_same _ _ _ u1)
      have HA := hide A
      clear t0 t0' s1 s3 A r3 hb3 u2
      go_wp2_with fail
      refine ⟨⟨k + 1, by omega, by go_num, by rw [show (1 : Int) + 3 * ↑k + 1 + 1 + 1 = ((1 + 3 * (k + 1) : Nat) : Int) by omega], ?_⟩, by simp [intOf]; omega⟩
      have := HA.out
      rwa [show ((1 + 3 * k + 2 : Nat) : Int) = 1 + 3 * (k : Int) + 1 + 1 by omega] at this
    · obtain rfl : k = n := by omega
      go_wp2
      go_ret
      exact ⟨rfl, ra.grown, ra.all, ra.blk⟩

theorem mk_ne (x : ByteArray) : (!x.toList == x.toList) = false := by simp
set_option maxHeartbeats 2000000 in
theorem heldNodeS_at (g c n : Nat) (w : World) (hm : n ≤ 10000000) (_h1 : n ≤ c ∧ c ≤ maxLen) (hg : g < w.heap.size) (hb : NAt w g (mks 1 n)) :
    Calls Tryd.prog 15 #[.slice (some ⟨g, 0, none⟩) n c, .int .i64 1] w fun e w' => e = .returned (.int .i64 (1 + 3 * n : Nat)) ∧ Below w.heap.size w w' := by
  have T : Hid (∀ (K : Nat) w, 0 < K → K ≤ 1000000000 → Calls Tryd.prog 41 #[.int .i64 (K : Int)] w fun e w' => e = .returned (.string (mkT K)) ∧ Below w.heap.size w w') := hide (fun K w h1 h2 => markText_any K w h1 h2)
  go_enter Tryd.func15, Tryd.ntmps15
  go_wp2
  go_loopw [1, 5] (fun k1 i wr => ∃ k : Nat, k ≤ n ∧ i = .int .i64 k ∧ k1 = .int .i64 (1 + 3 * k : Nat) ∧ Below w.heap.size w wr) (fun _ i _ => n - (intOf i).toNat)
  case atStart => exact ⟨0, by omega, rfl, rfl, Below.refl _ _⟩
  case round =>
    obtain ⟨k, hk, rfl, rfl, hbel⟩ := hrel
    by_cases hlt : k < n
    · have C : Hid (∀ wx, Below w.heap.size w wx → wx.cell? ⟨g, k * 3, none⟩ = some (.string (mkT (1 + 3 * k))) ∧ wx.cell? ⟨g, k * 3 + 1, none⟩ = some (.string (mkT (1 + 3 * k + 1))) ∧ wx.cell? ⟨g, k * 3 + 2, none⟩ = some (.int .i64 ((1 + 3 * k + 2 : Nat) : Int))) := hide (fun wx hx => by
        have h := hb.later hx hg
        have hk' : k < (mks 1 n).length := by rw [mks_len]; exact hlt
        have h0 := h.c0 k hk'
        have h1 := h.c1 k hk'
        have h2 := h.c2 k hk'
        rw [mks_at] at h0 h1 h2
        exact ⟨h0, h1, h2⟩)
      clear hb
      obtain ⟨c0, -, -⟩ := C.out wr hbel
      have T1 := hide (fun w => T.out (1 + 3 * k) w (by omega) (by omega))
      have T2 := hide (fun w => T.out (1 + 3 * k + 1) w (by omega) (by omega))
      clear T
      go_wp2_with fail
      go_region_with (go_at_call 41; refine (T1.out _).mono ?_; rintro e w1 ⟨rfl, hb1⟩; have hb2 := hbel.trans ((Below.refl _ _).drew.trans (hb1.mono (show w.heap.size ≤ wr.drew.heap.size from hbel.size))); obtain ⟨d0, -, -⟩ := C.out w1 hb2)
      all_goals
        clear d0 c0 hb1 hbel T1
        obtain ⟨-, c1, -⟩ := C.out w1 hb2
        go_wp2_with fail
        go_region_with (go_at_call 41; refine (T2.out _).mono ?_; rintro e w2 ⟨rfl, hb3⟩; have hb4 := hb2.trans ((Below.refl _ _).drew.trans (hb3.mono (show w.heap.size ≤ w1.drew.heap.size from hb2.size))); obtain ⟨-, d1, d2⟩ := C.out w2 hb4)
        all_goals
          clear c1 d1 hb3 hb2 T2 C
          go_wp2
          refine ⟨⟨k + 1, by omega, by go_num, by rw [show (1 : Int) + 3 * ↑k + 1 + 1 + 1 = ((1 + 3 * (k + 1) : Nat) : Int) by omega], hb4⟩, by simp [intOf]; omega⟩
    · obtain rfl : k = n := by omega
      go_wp2
      go_ret
      exact ⟨rfl, hbel⟩
end Go.Proofs.YtbmnciejaknonauDoor
