/- The contracts of the laws' own helpers over rows of nodes: held against one another, marked, and whether marks are held. -/
import Derived.Test.YtmjehpigfkobeabDoorWalksQ
import Derived.Test.YtmjehpigfkobeabDoorTreeM
import Derived.Deep.QuietTactic
import Derived.BigQuiet
import Derived.Deep.RegionWith
namespace Go.Proofs.YtmjehpigfkobeabDoor
open Go.RowKit
open Doc1

/-- A node as a value, and as cells. -/
def ndV (n : Nd) : Value := .agg #[.string n.name, .string n.text, .int .i64 n.up]
def ndC (n : Nd) : List Value := [.string n.name, .string n.text, .int .i64 n.up]
def encL (l : List Nd) : List Value := l.flatMap ndC

theorem str_ne {a b : ByteArray} (h : (!a.toList == b.toList) = true) : a ≠ b := by
  rintro rfl; simp at h
theorem str_eq {a b : ByteArray} (h : (!a.toList == b.toList) = false) : a = b := by
  simp only [Bool.not_eq_false', beq_iff_eq, ByteArray.toList_eq] at h
  exact ba_eq h
theorem nd_ne1 {a b : Nd} (h : a.name ≠ b.name) : false = decide (a = b) := by
  symm; apply decide_eq_false; rintro rfl; exact h rfl
theorem nd_ne2 {a b : Nd} (h : a.text ≠ b.text) : false = decide (a = b) := by
  symm; apply decide_eq_false; rintro rfl; exact h rfl
theorem nd_ne3 {a b : Nd} (h : (a.up != b.up) = true) : false = decide (a = b) := by
  symm; apply decide_eq_false; rintro rfl; simp at h
theorem nd_eq3 {a b : Nd} (h1 : a.name = b.name) (h2 : a.text = b.text) (h : (a.up != b.up) = false) : true = decide (a = b) := by
  symm; apply decide_eq_true
  simp at h
  cases a; cases b; simp_all

/-- A row of nodes lies in a block. -/
structure NAt (w : World) (g : Nat) (l : List Nd) : Prop where
  c0 : ∀ i (h : i < l.length), w.cell? ⟨g, i * 3, none⟩ = some (.string l[i].name)
  c1 : ∀ i (h : i < l.length), w.cell? ⟨g, i * 3 + 1, none⟩ = some (.string l[i].text)
  c2 : ∀ i (h : i < l.length), w.cell? ⟨g, i * 3 + 2, none⟩ = some (.int .i64 l[i].up)
/-- A slice of nodes. -/
def NRow (w : World) (v : Value) (l : List Nd) : Prop :=
  (v = .slice none 0 0 ∧ l = []) ∨ ∃ g cap, v = .slice (some ⟨g, 0, none⟩) l.length cap ∧ l.length ≤ cap ∧ cap ≤ maxLen ∧ NAt w g l

theorem NAt.later {w w1 : World} {B g : Nat} {l : List Nd} (h : NAt w g l) (hb : Below B w w1) (hg : g < B) : NAt w1 g l where
  c0 := fun i hi => (World.cell?_of_block (hb.block g hg)).trans (h.c0 i hi)
  c1 := fun i hi => (World.cell?_of_block (hb.block g hg)).trans (h.c1 i hi)
  c2 := fun i hi => (World.cell?_of_block (hb.block g hg)).trans (h.c2 i hi)
theorem NAt.drewN {w : World} {g n : Nat} {l : List Nd} (h : NAt w g l) : NAt (w.drewN n) g l := ⟨h.c0, h.c1, h.c2⟩

/-- The digits of a mark. -/
def dg (n : Nat) : List UInt8 := if _h : n = 0 then [] else dg (n / 10) ++ [48 + UInt8.ofNat (n % 10)]
termination_by n
decreasing_by omega
theorem dg_zero : dg 0 = [] := by unfold dg; simp
theorem dg_pos {n : Nat} (h : 0 < n) : dg n = dg (n / 10) ++ [48 + UInt8.ofNat (n % 10)] := by
  rw [dg]; simp [show n ≠ 0 by omega]
def mkT (n : Nat) : ByteArray := ba (109 :: dg n)
theorem dg_step {n k : Nat} {s t : ByteArray} (hn : 0 < n) (h : dg n ++ s.data.toList = dg k) (ht : t.data.toList = (48 + UInt8.ofNat (n % 10)) :: s.data.toList) : dg (n / 10) ++ t.data.toList = dg k := by
  rw [ht, ← h, dg_pos hn]; simp
theorem conv_byte (W : World) (v : Int) (h0 : 0 ≤ v) (h1 : v ≤ 255) : (convert 62 9 (.slice (some ⟨W.heap.size, 0, none⟩) 1 1)).run Tryd.prog (W.alloc (.cells #[.int .u8 v] 5)) = .ok (.string ⟨#[UInt8.ofNat v.toNat]⟩) (W.alloc (.cells #[.int .u8 v] 5)) := by
  have := run_convert_bytes_back (P := Tryd.prog) (W.alloc (.cells #[.int .u8 v] 5)) 62 9 5 ⟨W.heap.size, 0, none⟩ 1 [UInt8.ofNat v.toNat] Tryd.underlying62 Tryd.underlying5 Tryd.underlying9 (by
    intro j hj
    simp at hj
    subst hj
    show (W.alloc _).cell? ⟨W.heap.size, 0, none⟩ = _
    rw [World.cell?_alloc_at _ _ _ _ rfl]
    simp; omega)
  exact this

set_option maxHeartbeats 1000000 in
theorem markText_any (K : Nat) (w : World) (hK : 0 < K) (hm : K ≤ 1000000000) :
    Calls Tryd.prog 62 #[.int .i64 (K : Int)] w fun e w' => e = .returned (.string (mkT K)) ∧ Below w.heap.size w w' := by
  go_enter Tryd.func62, Tryd.ntmps62
  go_wp2
  go_loopw [0, 3] (fun n s wr => ∃ (m : Nat) (t : ByteArray), n = .int .i64 m ∧ s = .string t ∧ t.size + m ≤ K ∧ Hid (dg m ++ t.data.toList = dg K) ∧ Below w.heap.size w wr) (fun n _ _ => (intOf n).toNat)
  case atStart => exact ⟨K, ⟨#[]⟩, rfl, rfl, by show 0 + K ≤ K; omega, hide (by show dg K ++ [] = dg K; simp), Below.refl _ _⟩
  case round =>
    obtain ⟨m, t, rfl, rfl, hsz, hd, hbel⟩ := hrel
    by_cases h0 : 0 < m
    · have kc := fun W => conv_byte W (48 + (m : Int) % 10) (by omega) (by omega)
      go_wp2
      refine ⟨⟨m / 10, _, by simp, rfl, ?_, hide (dg_step h0 hd.out (by simp)), hbel.alloc hbel.size _⟩, ?_⟩
      · rw [ByteArray.size_append, show (ByteArray.mk #[48 + UInt8.ofNat (m % 10)]).size = 1 from rfl]; omega
      · simp [intOf]; omega
    · obtain rfl : m = 0 := by omega
      go_wp2
      go_ret
      have hd2 := hd.out
      rw [dg_zero] at hd2
      have : ByteArray.mk #[109] ++ t = mkT K := ba_eq (by rw [mkT, ba_list, ← hd2]; simp)
      exact ⟨by rw [this]; rfl, hbel⟩

theorem off_ne {g i j : Nat} (h : i ≠ j) : (⟨g, i, none⟩ : Addr) ≠ ⟨g, j, none⟩ := by intro e; injection e; omega
/-- Cells that can be written. -/
structure Blk (w : World) (g n : Nat) : Prop where
  ex : ∀ j, j < n → ∃ v, w.cell? ⟨g, j, none⟩ = some v
  fz : ∀ j, w.frozen? ⟨g, j, none⟩ = false
theorem Blk.later {w w1 : World} {B g n : Nat} (h : Blk w g n) (hb : Below B w w1) (hg : g < B) : Blk w1 g n where
  ex := fun j hj => by rw [World.cell?_of_block (hb.block g hg)]; exact h.ex j hj
  fz := fun j => by rw [World.frozen?_of_block (hb.block g hg)]; exact h.fz j
theorem Blk.set {w : World} {g n : Nat} (h : Blk w g n) (j : Nat) (v : Value) : Blk (w.setCell ⟨g, j, none⟩ v) g n where
  ex := fun i hi => by
    obtain ⟨x, hx⟩ := h.ex i hi
    by_cases e : i = j
    · subst e; exact ⟨v, World.cell?_setCell_same _ _ _ hx⟩
    · exact ⟨x, by rw [World.cell?_setCell_other _ _ _ _ (off_ne (Ne.symm e))]; exact hx⟩
  fz := fun i => by rw [World.frozen?_setCell]; exact h.fz i
/-- The marks of so many nodes. -/
def mks (K n : Nat) : List Nd := (List.range n).map fun i => ⟨mkT (K + 3 * i), mkT (K + 3 * i + 1), ((K + 3 * i + 2 : Nat) : Int)⟩
theorem mks_len (K n : Nat) : (mks K n).length = n := by simp [mks]
theorem mks_at (K n i : Nat) (h : i < (mks K n).length) : (mks K n)[i] = ⟨mkT (K + 3 * i), mkT (K + 3 * i + 1), ((K + 3 * i + 2 : Nat) : Int)⟩ := by simp [mks]
/-- What is known in the rounds of markNodeS. -/
structure MAt (w : World) (g K n k : Nat) (wr : World) : Prop where
  blk : Blk wr g (3 * n)
  grown : w.grownBy wr (some g)
  lt : g < w.heap.size
  c0 : ∀ i, i < k → wr.cell? ⟨g, i * 3, none⟩ = some (.string (mkT (K + 3 * i)))
  c1 : ∀ i, i < k → wr.cell? ⟨g, i * 3 + 1, none⟩ = some (.string (mkT (K + 3 * i + 1)))
  c2 : ∀ i, i < k → wr.cell? ⟨g, i * 3 + 2, none⟩ = some (.int .i64 ((K + 3 * i + 2 : Nat) : Int))
theorem grown_set {w w1 : World} {g : Nat} (h : w.grownBy w1 (some g)) (j : Nat) (v : Value) : w.grownBy (w1.setCell ⟨g, j, none⟩ v) (some g) :=
  h.trans ⟨rfl, rfl, rfl, by simp [World.setCell], fun k _ hne => Below.heap_setCell _ _ _ _ (by intro e; subst e; exact hne rfl)⟩
theorem grown_below {w w1 w2 : World} {g : Nat} (h : w.grownBy w1 (some g)) (hb : Below w1.heap.size w1 w2) : w.grownBy w2 (some g) :=
  h.trans ⟨hb.os, hb.tape, hb.output, hb.size, fun k hk _ => hb.block k hk⟩
theorem MAt.below {w wr w1 : World} {g K n k : Nat} (h : MAt w g K n k wr) (hb : Below wr.heap.size wr w1) : MAt w g K n k w1 := by
  have hg : g < wr.heap.size := Nat.lt_of_lt_of_le h.lt h.grown.size
  exact ⟨h.blk.later hb hg, grown_below h.grown hb, h.lt, fun i hi => by rw [World.cell?_of_block (hb.block g hg)]; exact h.c0 i hi, fun i hi => by rw [World.cell?_of_block (hb.block g hg)]; exact h.c1 i hi, fun i hi => by rw [World.cell?_of_block (hb.block g hg)]; exact h.c2 i hi⟩
theorem MAt.set {w wr : World} {g K n k : Nat} (h : MAt w g K n k wr) (j : Nat) (v : Value) (hj : k * 3 ≤ j) : MAt w g K n k (wr.setCell ⟨g, j, none⟩ v) :=
  ⟨h.blk.set j v, grown_set h.grown j v, h.lt, fun i hi => by rw [World.cell?_setCell_other _ _ _ _ (off_ne (by omega))]; exact h.c0 i hi, fun i hi => by rw [World.cell?_setCell_other _ _ _ _ (off_ne (by omega))]; exact h.c1 i hi, fun i hi => by rw [World.cell?_setCell_other _ _ _ _ (off_ne (by omega))]; exact h.c2 i hi⟩
theorem MAt.step {w wr : World} {g K n k : Nat} (h : MAt w g K n k wr) (h0 : wr.cell? ⟨g, k * 3, none⟩ = some (.string (mkT (K + 3 * k)))) (h1 : wr.cell? ⟨g, k * 3 + 1, none⟩ = some (.string (mkT (K + 3 * k + 1))))
    (h2 : wr.cell? ⟨g, k * 3 + 2, none⟩ = some (.int .i64 ((K + 3 * k + 2 : Nat) : Int))) : MAt w g K n (k + 1) wr where
  blk := h.blk
  grown := h.grown
  lt := h.lt
  c0 := fun i hi => by by_cases e : i = k; subst e; exact h0; exact h.c0 i (by omega)
  c1 := fun i hi => by by_cases e : i = k; subst e; exact h1; exact h.c1 i (by omega)
  c2 := fun i hi => by by_cases e : i = k; subst e; exact h2; exact h.c2 i (by omega)
theorem MAt.all {w wr : World} {g K n : Nat} (h : MAt w g K n n wr) : NAt wr g (mks K n) where
  c0 := fun i hi => by rw [mks_at]; exact h.c0 i (by rw [mks_len] at hi; exact hi)
  c1 := fun i hi => by rw [mks_at]; exact h.c1 i (by rw [mks_len] at hi; exact hi)
  c2 := fun i hi => by rw [mks_at]; exact h.c2 i (by rw [mks_len] at hi; exact hi)

end Go.Proofs.YtmjehpigfkobeabDoor
