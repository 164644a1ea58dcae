/- Endings: boxes that hold one, held against one another, what a line costs. -/
import Derived.Test.YtgacajnljplmiaaDoorLbs1
import Derived.Test.YtgacajnljplmiaaDoorLinc
set_option linter.unusedVariables false
namespace Go.Proofs.YtgacajnljplmiaaDoor
open Go.RowKit
open Doc1

def enC (e : En) : Array Value := #[.int .i64 (e.cost : Int), .int .i64 (e.lines : Int), .int .i64 (e.cut : Int)]
def enV (e : En) : Value := .agg (enC e)
/-- A block that holds an ending. -/
def Bq (t : TypeId) (W : World) (B : Nat) (e : En) : Prop := W.heap[B]? = some (.cells (enC e) t (0, 0))
theorem Bq.cells {t : TypeId} {W : World} {B : Nat} {e : En} (h : Bq t W B e) : W.cell? ⟨B, 0, none⟩ = some (.int .i64 (e.cost : Int)) ∧ W.cell? ⟨B, 1, none⟩ = some (.int .i64 (e.lines : Int)) ∧ W.cell? ⟨B, 2, none⟩ = some (.int .i64 (e.cut : Int)) := by
  unfold Bq at h
  simp [World.cell?, h, enC]
theorem Bq.fz {t : TypeId} {W : World} {B : Nat} {e : En} (h : Bq t W B e) (j : Nat) : W.frozen? ⟨B, j, none⟩ = false := by
  unfold Bq at h
  simp [World.frozen?, h]
theorem Bq.block {t : TypeId} {W W' : World} {B : Nat} {e : En} (h : Bq t W B e) (hb : W'.heap[B]? = W.heap[B]?) : Bq t W' B e := hb.trans h
theorem Bq.lt {t : TypeId} {W : World} {B : Nat} {e : En} (h : Bq t W B e) : B < W.heap.size := (Array.getElem?_eq_some_iff.1 h).1
theorem Bq.later {t : TypeId} {W W' : World} {B : Nat} {e : En} (h : Bq t W B e) (hb : Below W.heap.size W W') : Bq t W' B e := h.block (hb.block B h.lt)
theorem Bq.setAt {t : TypeId} {W : World} {B : Nat} {C C' : Array Value} (h : W.heap[B]? = some (.cells C t (0, 0))) (j : Nat) (v : Value) (e : C.setIfInBounds j v = C') : (W.setCell ⟨B, j, none⟩ v).heap[B]? = some (.cells C' t (0, 0)) := by
  obtain ⟨hlt, hk⟩ := Array.getElem?_eq_some_iff.1 h
  show (W.heap.modify B _)[B]? = _
  rw [Array.getElem?_eq_getElem (by rw [Array.size_modify]; exact hlt), Array.getElem_modify_self, hk]
  simp only
  rw [← e]
  rfl
theorem Bq.set3 {t : TypeId} {W : World} {B : Nat} {e : En} (h : Bq t W B e) (f : En) : Bq t (((W.setCell ⟨B, 0, none⟩ (.int .i64 (f.cost : Int))).setCell ⟨B, 1, none⟩ (.int .i64 (f.lines : Int))).setCell ⟨B, 2, none⟩ (.int .i64 (f.cut : Int))) B f :=
  Bq.setAt (Bq.setAt (Bq.setAt h 0 _ rfl) 1 _ rfl) 2 _ rfl
theorem Bq.set0 {t : TypeId} {W : World} {B : Nat} {e : En} (h : Bq t W B e) (c : Nat) : Bq t (W.setCell ⟨B, 0, none⟩ (.int .i64 (c : Int))) B ⟨c, e.lines, e.cut⟩ := Bq.setAt h 0 _ rfl
theorem bq_new (t : TypeId) (W : World) (e : En) : Bq t (W.alloc (.cells (enC e) t)) W.heap.size e := heap_alloc_new W _
theorem set_other {W : World} {B g j : Nat} (v : Value) (h : g ≠ B) : (W.setCell ⟨g, j, none⟩ v).heap[B]? = W.heap[B]? := Below.heap_setCell _ _ _ _ (Ne.symm h)

set_option maxHeartbeats 1000000 in
theorem costOfLine_any (z : Nat) (n : Int) (w : World) (h1 : (z : Int) ≤ n) (h2 : n ≤ 80) :
    Calls Tryd.prog 50 #[.int .i64 (z : Int), .int .i64 n] w fun e w' => e = .returned (.int .i64 ((sq n z : Nat) : Int)) ∧ w' = w := by
  obtain ⟨q, hq⟩ : ∃ q : Nat, n - (z : Int) = (q : Int) := ⟨(n - z).toNat, by omega⟩
  have hq8 : q ≤ 80 := by omega
  have hs : ((sq n z : Nat) : Int) = (q : Int) * (q : Int) := by
    unfold sq
    rw [show n.toNat - z = q by omega]
    exact Int.natCast_mul q q
  rw [hs]
  have hqq : q * q ≤ 6400 := Nat.mul_le_mul hq8 hq8
  have hqi : (q : Int) * (q : Int) = ((q * q : Nat) : Int) := (Int.natCast_mul q q).symm
  have hw1 : IntKind.i64.wrap (n - (z : Int)) = (q : Int) := by rw [IntKind.wrap_i64]; omega
  have hw2 : IntKind.i64.wrap ((q : Int) * (q : Int)) = (q : Int) * (q : Int) := by rw [hqi, IntKind.wrap_i64]; omega
  clear hqi hs hqq
  go_enter Tryd.func50, Tryd.ntmps50
  go_wp2
  go_ret
  refine ⟨?_, rfl⟩
  first
    | rfl
    | (rw [hq])
    | (simp only [hq, hw2])

set_option maxRecDepth 100000 in
set_option maxHeartbeats 1000000 in
theorem isBelow_any (x y : En) (w : World) :
    Calls Tryd.prog 72 #[enV x, enV y] w fun e w' => e = .returned (.bool (blw x y)) ∧ Below w.heap.size w w' := by
  unfold enV enC
  obtain ⟨Z, hZ⟩ : ∃ Z, Z = blw x y := ⟨_, rfl⟩
  rw [← hZ]
  unfold blw at hZ
  have hB : Below w.heap.size w ((w.alloc (.cells #[.int .i64 (x.cost : Int), .int .i64 (x.lines : Int), .int .i64 (x.cut : Int)] 83)).alloc (.cells #[.int .i64 (y.cost : Int), .int .i64 (y.lines : Int), .int .i64 (y.cut : Int)] 83)) := ((Below.refl _ _).alloc (Nat.le_refl _) _).alloc (by simp) _
  have HB := hide hB
  by_cases h : x.cost = y.cost
  · rw [if_pos h] at hZ
    have hn : ((x.cost : Int) != (y.cost : Int)) = false := by simp [h]
    have HZ : Hid (decide ((x.lines : Int) < (y.lines : Int)) = Z) := hide (by rw [hZ, decide_eq_decide]; omega)
    clear h hZ hB
    go_enter Tryd.func72, Tryd.ntmps72
    go_wp2
    go_ret
    exact ⟨ret_bool (by first | exact HZ.out | (rw [← HZ.out]; simp)), HB.out⟩
  · rw [if_neg h] at hZ
    have hn : ((x.cost : Int) != (y.cost : Int)) = true := by simp; omega
    have HZ : Hid (decide ((x.cost : Int) < (y.cost : Int)) = Z) := hide (by rw [hZ, decide_eq_decide]; omega)
    clear h hZ hB
    go_enter Tryd.func72, Tryd.ntmps72
    go_wp2
    go_ret
    exact ⟨ret_bool (by first | exact HZ.out | (rw [← HZ.out]; simp)), HB.out⟩
end Go.Proofs.YtgacajnljplmiaaDoor
