/- The iterator stepsOf, by footprints. -/
import Derived.Test.YtmjehpigfkobeaaDoorOpW4
import Derived.Test.YtmjehpigfkobeaaDoorOpsM
import Derived.RangeFuncLeaves
namespace Go.Proofs.YtmjehpigfkobeaaDoor
open Go.RowKit Go.Shelf
open Doc1

attribute [local go_sem] Oper.semAt_some

/-- What the iterator hands on: the step. -/
def stV (x : St) : Value := .agg #[.int .i64 (x.k : Int), .int .u8 (x.c.toNat : Int)]
def stE (x : St) : Array Value := #[stV x]
theorem roundIn_in {m m' : Nat} {P : Program} {l l0 : Nat} {fn : FuncId} {tmps : Array Value} {assign body : Code} {W : World} {R : Ending → World → Prop}
    (h : RoundIn Fence.wide m P l fn tmps assign body W R) : RoundIn (Fence.wide.inRound l0) m' P l fn tmps assign body W R :=
  ⟨trivial, fun c cs _ => h.2 c cs (room_wide _)⟩
theorem stp_pk {p : Pt} (h : pk p ≠ 0) : stp p = List.replicate p.keep.toNat ⟨pk p, 0⟩ ++ (p.put ++ p.drop).data.toList.map (fun c => (⟨pk p, c⟩ : St)) := by
  have e : (p.put ++ p.drop).data.toList = p.put.data.toList ++ p.drop.data.toList := by simp
  rw [e]
  unfold stp
  unfold pk at h ⊢
  split
  · rename_i hh; rw [hh.1, hh.2.1]; simp
  · rename_i h1
    rw [if_neg h1] at h
    split
    · rename_i hh; rw [hh.1, hh.2.1]; simp
    · rename_i h2
      rw [if_neg h2] at h
      split
      · rename_i hh; rw [hh.1, hh.2.1]; simp
      · rename_i h3; rw [if_neg h3] at h; exact absurd rfl h
theorem stL_snoc (l : List Pt) (p : Pt) : stL (l ++ [p]) = stL l ++ stp p := by simp [stL]
theorem stL_prefix {a b : List Pt} (h : a <+: b) : stL a <+: stL b := by
  obtain ⟨c, rfl⟩ := h
  exact ⟨stL c, by simp [stL]⟩
theorem rep_pre {A : List St} {x : St} {n j : Nat} {B C : List St} (h : A ++ (List.replicate n x ++ B) <+: C) (hj : j < n) : A ++ List.replicate j x ++ [x] <+: C := by
  refine List.IsPrefix.trans ?_ h
  rw [List.append_assoc, ← List.replicate_succ']
  refine (List.prefix_append_right_inj A).2 ⟨List.replicate (n - (j + 1)) x ++ B, ?_⟩
  rw [← List.append_assoc, List.replicate_append_replicate, show j + 1 + (n - (j + 1)) = n by omega]
theorem map_pre {A : List St} {f : UInt8 → St} {b : List UInt8} {j : Nat} {C : List St} (h : A ++ b.map f <+: C) (hj : j < b.length) : A ++ (b.take j).map f ++ [f b[j]] <+: C := by
  refine List.IsPrefix.trans ?_ h
  rw [List.append_assoc, ← List.map_singleton (f := f), ← List.map_append, ← List.take_succ_eq_append_getElem hj]
  exact (List.prefix_append_right_inj A).2 (List.IsPrefix.map f (List.take_prefix _ _))

/-- What holds between two rounds of the inner loop: the outer caller's word, and the box of yield. -/
def JIn (J : List St → (Nat → Prop) → World → Prop) (By li : Nat) (pre : List Pt) (B : Nat → Prop) (W : World) : Prop :=
  ∃ O, J (stL pre) O W ∧ (∀ k, B k ↔ O k ∨ k = By) ∧ ¬ O By ∧ W.cell? ⟨By, 0, none⟩ = some (.func (.yield li) #[] #[])
theorem jIn_held {J : List St → (Nat → Prop) → World → Prop} (hJ : Held J) (By li : Nat) : Held (JIn J By li) :=
  ⟨fun ⟨O, j, hB, _, hc⟩ k hk => by
      rcases (hB k).1 hk with c | rfl
      · exact hJ.lt j k c
      · exact World.block_lt_of_cell? _ _ hc,
    fun ⟨O, j, hB, hn, hc⟩ hs hk => ⟨O, hJ.kept j hs (fun k c => hk k ((hB k).2 (.inl c))), hB, hn, (World.cell?_of_block (hk By ((hB By).2 (.inr rfl)))).trans hc⟩⟩
def JOut (Jx : List St → (Nat → Prop) → World → Prop) (xs : List St) (c : Code) (_ : List Pt) (B : Nat → Prop) (W : World) : Prop := c = .ret ∧ ∃ pre, pre <+: xs ∧ Jx pre B W
theorem jOut_held {Jx : List St → (Nat → Prop) → World → Prop} (hJ : Held Jx) (xs : List St) (c : Code) : Held (JOut Jx xs c) :=
  ⟨fun ⟨_, _, _, j⟩ => hJ.lt j, fun ⟨h, p, hp, j⟩ hs hk => ⟨h, p, hp, hJ.kept j hs hk⟩⟩
/-- What holds within a round: besides, the box of the part. -/
def JAx (J : List St → (Nat → Prop) → World → Prop) (By li : Nat) (act : Pt → Nat → Act) (pre : List Pt) (x : Pt) (a' : Act) (B : Nat → Prop) (W : World) : Prop :=
  ∃ O Bx, J (stL pre) O W ∧ (∀ k, B k ↔ O k ∨ k = By ∨ k = Bx) ∧ (¬ O By ∧ ¬ O Bx) ∧ W.cell? ⟨By, 0, none⟩ = some (.func (.yield li) #[] #[]) ∧
    (W.cell? ⟨Bx, 0, none⟩ = some (.int .i64 x.keep) ∧ W.cell? ⟨Bx, 1, none⟩ = some (.string x.put) ∧ W.cell? ⟨Bx, 2, none⟩ = some (.string x.drop)) ∧ a' = act x Bx
theorem jAx_held {J : List St → (Nat → Prop) → World → Prop} (hJ : Held J) (By li : Nat) (act : Pt → Nat → Act) (pre : List Pt) (x : Pt) (a' : Act) : Held (fun (_ : Unit) => JAx J By li act pre x a') :=
  ⟨fun ⟨O, Bx, j, hB, _, hc, hx, _⟩ k hk => by
      rcases (hB k).1 hk with c | rfl | rfl
      · exact hJ.lt j k c
      · exact World.block_lt_of_cell? _ _ hc
      · exact World.block_lt_of_cell? _ _ hx.1,
    fun ⟨O, Bx, j, hB, hn, hc, hx, ha⟩ hs hk =>
      have e := hk Bx ((hB Bx).2 (.inr (.inr rfl)))
      ⟨O, Bx, hJ.kept j hs (fun k c => hk k ((hB k).2 (.inl c))), hB, hn, (World.cell?_of_block (hk By ((hB By).2 (.inr (.inl rfl))))).trans hc,
        ⟨(World.cell?_of_block e).trans hx.1, (World.cell?_of_block e).trans hx.2.1, (World.cell?_of_block e).trans hx.2.2⟩, ha⟩⟩

theorem cells3_new' (w : World) (a b c : Value) : (∀ t, (w.alloc (.cells #[a, b, c] t)).cell? ⟨w.heap.size, 0, none⟩ = some a) ∧ (∀ t, (w.alloc (.cells #[a, b, c] t)).cell? ⟨w.heap.size, 1, none⟩ = some b) ∧ (∀ t, (w.alloc (.cells #[a, b, c] t)).cell? ⟨w.heap.size, 2, none⟩ = some c) := by
  refine ⟨fun t => ?_, fun t => ?_, fun t => ?_⟩
  all_goals
    unfold World.cell?
    rw [heap_alloc_new]; rfl
/-- Two boxes laid, whatever their types. -/
theorem two_boxes {Φ : World → Prop} {W : World} {a b : Value} {t u : TypeId}
    (h : ∀ W2 : World, Below W.heap.size W W2 → W2.heap.size = W.heap.size + 2 → W2.cell? ⟨W.heap.size, 0, none⟩ = some a → W2.cell? ⟨W.heap.size + 1, 0, none⟩ = some b → Φ W2) : Φ ((W.alloc (.cells #[a] t)).alloc (.cells #[b] u)) := by
  refine h _ (((Below.refl _ _).alloc (Nat.le_refl _) _).alloc (by simp) _) (by simp) ?_ ?_
  · refine (World.cell?_of_block (Below.heap_alloc _ _ _ (by simp))).trans ?_
    unfold World.cell?
    rw [heap_alloc_new]; rfl
  · rw [show W.heap.size + 1 = (W.alloc (.cells #[a] t)).heap.size by simp]
    unfold World.cell?
    rw [heap_alloc_new]; rfl
/-- Behind the loop: only what the caller owned has changed. -/
theorem fin_moves {O Oi Oo : Nat → Prop} {W W2 Wd : World} {By D : Nat} (hb : Below W.heap.size W W2) (mv : Moves (fun k => O k ∨ k = By) W2 Oi Wd) (hBy : W.heap.size ≤ By) (hD : W.heap.size ≤ D) (hO : ∀ k, k < W.heap.size → Oo k → Oi k) (o : Obj) : Moves O W Oo (Wd.putObj D o) := by
  have sz := hb.size
  refine ⟨mv.os.trans hb.os, mv.tape.trans hb.tape, mv.output.trans hb.output, by have := mv.size; simp; omega, fun k hk no => ?_, fun k hk c => ?_⟩
  · exact (World.putObj_heap_other (by omega)).trans ((mv.same k (by omega) (by rintro (c | c) <;> first | exact no c | omega)).trans (hb.block k hk))
  · rcases mv.own k (by omega) (hO k hk c) with c | c
    · exact c
    · omega

theorem pk_sizes {p : Pt} (h : pk p ≠ 0) : (0 ≤ p.keep ∧ p.keep ≤ 300) ∧ p.put.size ≤ 300 ∧ p.drop.size ≤ 300 ∧ pk p ≤ 3 := by
  have hb := pk_bd h
  unfold tk1 mk1 at hb
  have h3 : pk p ≤ 3 := by
    unfold pk
    split
    · omega
    · split
      · omega
      · split <;> omega
  have hk : 0 ≤ p.keep := by
    unfold pk at h
    split at h
    · rename_i hh; omega
    · split at h
      · rename_i hh; omega
      · split at h
        · rename_i hh; omega
        · exact absurd rfl h
  omega

end Go.Proofs.YtmjehpigfkobeaaDoor
