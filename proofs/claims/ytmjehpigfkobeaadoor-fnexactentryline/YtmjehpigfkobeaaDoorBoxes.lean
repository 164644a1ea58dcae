/- Boxes of one and of two cells, and a round's own step in a box. -/
import Derived.Test.YtmjehpigfkobeaaDoorOpW5
namespace Go.Proofs.YtmjehpigfkobeaaDoor
open Go.RowKit Go.Shelf
open Doc1

theorem pre_len {α : Type} {a b : List α} (h : a <+: b) : a.length ≤ b.length := h.length_le
theorem no_held {σ : Type} : Held (fun (_ : σ) (_ : Nat → Prop) (_ : World) => False) := ⟨fun h => h.elim, fun h => h.elim⟩
/-- A box of two cells. -/
def Box2 (W : World) (B : Nat) (a b : Value) : Prop := ∃ t, W.heap[B]? = some (.cells #[a, b] t (0, 0))
theorem Box2.cells {W : World} {B : Nat} {a b : Value} (h : Box2 W B a b) : W.cell? ⟨B, 0, none⟩ = some a ∧ W.cell? ⟨B, 1, none⟩ = some b := by
  obtain ⟨t, h⟩ := h
  constructor <;> simp [World.cell?, h]
theorem Box2.fz {W : World} {B : Nat} {a b : Value} (h : Box2 W B a b) (j : Nat) : W.frozen? ⟨B, j, none⟩ = false := by
  obtain ⟨t, h⟩ := h
  simp [World.frozen?, h]
theorem Box2.lt {W : World} {B : Nat} {a b : Value} (h : Box2 W B a b) : B < W.heap.size := by
  obtain ⟨t, h⟩ := h
  exact (Array.getElem?_eq_some_iff.1 h).1
theorem Box2.block {W W' : World} {B : Nat} {a b : Value} (h : Box2 W B a b) (hb : W'.heap[B]? = W.heap[B]?) : Box2 W' B a b := by
  obtain ⟨t, h⟩ := h
  exact ⟨t, hb.trans h⟩
theorem box2_new (W : World) (a b : Value) (t : TypeId) : Box2 (W.alloc (.cells #[a, b] t)) W.heap.size a b := ⟨t, heap_alloc_new W _⟩
/-- A box. -/
def Bxd (W : World) (B : Nat) (v : Value) : Prop := ∃ t, W.heap[B]? = some (.cells #[v] t (0, 0))
theorem Bxd.cell {W : World} {B : Nat} {v : Value} (h : Bxd W B v) : W.cell? ⟨B, 0, none⟩ = some v := by obtain ⟨t, h⟩ := h; simp [World.cell?, h]
theorem Bxd.fz {W : World} {B : Nat} {v : Value} (h : Bxd W B v) : W.frozen? ⟨B, 0, none⟩ = false := by obtain ⟨t, h⟩ := h; simp [World.frozen?, h]
theorem Bxd.lt {W : World} {B : Nat} {v : Value} (h : Bxd W B v) : B < W.heap.size := by obtain ⟨t, h⟩ := h; exact (Array.getElem?_eq_some_iff.1 h).1
theorem Bxd.block {W W' : World} {B : Nat} {v : Value} (h : Bxd W B v) (hb : W'.heap[B]? = W.heap[B]?) : Bxd W' B v := by obtain ⟨t, h⟩ := h; exact ⟨t, hb.trans h⟩
theorem Bxd.up {W W' : World} {B : Nat} {v : Value} (h : Bxd W B v) (hb : Below W.heap.size W W') : Bxd W' B v := h.block (hb.block B h.lt)
theorem Bxd.set {W : World} {B : Nat} {v : Value} (h : Bxd W B v) (u : Value) : Bxd (W.setCell ⟨B, 0, none⟩ u) B u := by
  obtain ⟨t, h⟩ := h
  exact ⟨t, (show Boxed W B t v from h).set u⟩
theorem Bxd.other {W : World} {B B' : Nat} {v : Value} (h : Bxd W B v) (hne : B ≠ B') (u : Value) : Bxd (W.setCell ⟨B', 0, none⟩ u) B v := h.block (Below.heap_setCell _ _ _ _ hne)
theorem bxd_new (W : World) (v : Value) (t : TypeId) : Bxd (W.alloc (.cells #[v] t)) W.heap.size v := ⟨t, heap_alloc_new W _⟩
/-- Within a round: besides, the box of the step. -/
def XAx (J : List St → (Nat → Prop) → World → Prop) (act : St → Nat → Act) (pre : List St) (x : St) (a' : Act) (B : Nat → Prop) (W : World) : Prop :=
  ∃ O Bx, J pre O W ∧ (∀ k, B k ↔ O k ∨ k = Bx) ∧ ¬ O Bx ∧ Box2 W Bx (.int .i64 (x.k : Int)) (.int .u8 (x.c.toNat : Int)) ∧ a' = act x Bx
theorem xAx_held {J : List St → (Nat → Prop) → World → Prop} (hJ : Held J) (act : St → Nat → Act) (pre : List St) (x : St) (a' : Act) : Held (fun (_ : Unit) => XAx J act pre x a') :=
  ⟨fun ⟨O, Bx, h, hB, _, hx, _⟩ k hk => by
      rcases (hB k).1 hk with c | rfl
      · exact hJ.lt h k c
      · exact hx.lt,
    fun ⟨O, Bx, h, hB, hn, hx, ha⟩ hs hk => ⟨O, Bx, hJ.kept h hs (fun k c => hk k ((hB k).2 (.inl c))), hB, hn, hx.block (hk Bx ((hB Bx).2 (.inr rfl))), ha⟩⟩
/-- Three boxes laid, whatever their types. -/
theorem three_boxes {Φ : World → Prop} {W : World} {a b c : Value} {t u v : TypeId}
    (h : ∀ W2 : World, Below W.heap.size W W2 → W2.heap.size = W.heap.size + 3 → Bxd W2 W.heap.size a → Bxd W2 (W.heap.size + 1) b → Bxd W2 (W.heap.size + 2) c → Φ W2) :
    Φ (((W.alloc (.cells #[a] t)).alloc (.cells #[b] u)).alloc (.cells #[c] v)) := by
  have e1 : (W.alloc (.cells #[a] t)).heap.size = W.heap.size + 1 := by simp
  have e2 : ((W.alloc (.cells #[a] t)).alloc (.cells #[b] u)).heap.size = W.heap.size + 2 := by simp
  have b1 := bxd_new W a t
  have b2 := bxd_new (W.alloc (.cells #[a] t)) b u
  have b3 := bxd_new ((W.alloc (.cells #[a] t)).alloc (.cells #[b] u)) c v
  rw [e1] at b2
  rw [e2] at b3
  refine h _ ((((Below.refl _ _).alloc (Nat.le_refl _) _).alloc (by simp) _).alloc (by simp; omega) _) (by simp) ?_ ?_ b3
  · exact (b1.up ((Below.refl _ _).alloc (Nat.le_refl _) _)).up ((Below.refl _ _).alloc (Nat.le_refl _) _)
  · exact b2.up ((Below.refl _ _).alloc (Nat.le_refl _) _)
end Go.Proofs.YtmjehpigfkobeaaDoor
