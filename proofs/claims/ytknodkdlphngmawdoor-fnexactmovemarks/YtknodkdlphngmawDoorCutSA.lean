/- The model's CutMarks. The model's l5Add: a mark put to marks. -/
import Derived.Test.YtknodkdlphngmawDoorCutW1
import Derived.Test.YtknodkdlphngmawDoorAddW1
namespace Go.Proofs.YtknodkdlphngmawDoor
open Go.RowKit
open Doc1

theorem addrC (g j : Nat) : (⟨g, 0, none⟩ : Addr).add j = ⟨g, j, none⟩ := by unfold Addr.add; split <;> simp_all
theorem cellC_new (w : World) (a b c : Value) (t : TypeId) : ∀ j u, [a, b, c][j]? = some u → (w.alloc (.cells #[a, b, c] t)).cell? ((⟨w.heap.size, 0, none⟩ : Addr).add j) = some u := by
  intro j u hu
  rw [addrC]
  unfold World.cell?
  rw [heap_alloc_new]
  match j, hu with
  | 0, hu => simpa using hu
  | 1, hu => simpa using hu
  | 2, hu => simpa using hu
theorem cellC_new2 (w : World) (o : Obj) (a b c : Value) (t : TypeId) : ∀ j u, [a, b, c][j]? = some u → ((w.alloc o).alloc (.cells #[a, b, c] t)).cell? ((⟨w.heap.size + 1, 0, none⟩ : Addr).add j) = some u := by
  have := cellC_new (w.alloc o) a b c t
  rw [World.size_alloc] at this
  exact this
theorem cutL_snoc (l : List Mk) (fr to : Int) (st : ByteArray) {k : Nat} (hk : k < l.length) : cutL (l.take (k + 1)) fr to st = cutL (l.take k) fr to st ++ cut1 fr to st l[k] := by
  unfold cutL
  rw [List.take_succ_eq_append_getElem hk, List.flatMap_append, List.flatMap_singleton]
theorem cutL_len (fr to : Int) (st : ByteArray) : ∀ l : List Mk, (cutL l fr to st).length ≤ 2 * l.length
  | [] => by simp [cutL]
  | m :: l => by
    have := cutL_len fr to st l
    have e : (cut1 fr to st m).length ≤ 2 := by unfold cut1; split <;> (try simp) <;> split <;> split <;> simp
    unfold cutL at *
    rw [List.flatMap_cons, List.length_append, List.length_cons]; omega

end Go.Proofs.YtknodkdlphngmawDoor

namespace Go.Proofs.YtknodkdlphngmawDoor
open Go.RowKit
open Doc1

/-- A mark in its box. -/
def Bx3 (W : World) (B : Nat) (M : Mk) : Prop := ∃ t, W.heap[B]? = some (.cells #[.int .i64 M.frm, .int .i64 M.to, .string M.style] t (0, 0))
theorem Bx3.cells {W : World} {B : Nat} {M : Mk} (h : Bx3 W B M) : W.cell? ⟨B, 0, none⟩ = some (.int .i64 M.frm) ∧ W.cell? ⟨B, 1, none⟩ = some (.int .i64 M.to) ∧ W.cell? ⟨B, 2, none⟩ = some (.string M.style) := by
  obtain ⟨t, h⟩ := h
  refine ⟨?_, ?_, ?_⟩ <;> simp [World.cell?, h]
theorem Bx3.fz {W : World} {B : Nat} {M : Mk} (h : Bx3 W B M) (j : Nat) : W.frozen? ⟨B, j, none⟩ = false := by
  obtain ⟨t, h⟩ := h
  simp [World.frozen?, h]
theorem Bx3.lt {W : World} {B : Nat} {M : Mk} (h : Bx3 W B M) : B < W.heap.size := by
  obtain ⟨t, h⟩ := h
  exact (Array.getElem?_eq_some_iff.1 h).1
theorem Bx3.block {W W' : World} {B : Nat} {M : Mk} (h : Bx3 W B M) (hb : W'.heap[B]? = W.heap[B]?) : Bx3 W' B M := by
  obtain ⟨t, h⟩ := h
  exact ⟨t, hb.trans h⟩
theorem Bx3.up {W W' : World} {B : Nat} {M : Mk} (h : Bx3 W B M) (hb : Below W.heap.size W W') : Bx3 W' B M := h.block (hb.block B h.lt)
theorem bx3_new (W : World) (M : Mk) (t : TypeId) : Bx3 (W.alloc (.cells #[.int .i64 M.frm, .int .i64 M.to, .string M.style] t)) W.heap.size M := ⟨t, heap_alloc_new W _⟩
theorem Bx3.set0 {W : World} {B : Nat} {M : Mk} (h : Bx3 W B M) (u : Int) : Bx3 (W.setCell ⟨B, 0, none⟩ (.int .i64 u)) B ⟨u, M.to, M.style⟩ := by
  obtain ⟨t, h⟩ := h
  refine ⟨t, ?_⟩
  unfold World.setCell
  show (W.heap.modify B _)[B]? = _
  rw [Array.getElem?_modify, if_pos rfl, h]
  rfl
theorem Bx3.set1 {W : World} {B : Nat} {M : Mk} (h : Bx3 W B M) (u : Int) : Bx3 (W.setCell ⟨B, 1, none⟩ (.int .i64 u)) B ⟨M.frm, u, M.style⟩ := by
  obtain ⟨t, h⟩ := h
  refine ⟨t, ?_⟩
  unfold World.setCell
  show (W.heap.modify B _)[B]? = _
  rw [Array.getElem?_modify, if_pos rfl, h]
  rfl
theorem lt_styles {a b : Mk} (h : Op.bytesLess a.style.toList b.style.toList = true) : mkLt a b = true ∧ (a.style.toList == b.style.toList) = false ∧ Op.bytesLess b.style.toList a.style.toList = false := by
  have hne : a.style.toList ≠ b.style.toList := fun e => by rw [e, bl_ir] at h; cases h
  have hb : (a.style.toList == b.style.toList) = false := by simpa using hne
  refine ⟨by unfold mkLt; rw [if_neg (by rw [hb]; simp)]; exact h, hb, ?_⟩
  cases c : Op.bytesLess b.style.toList a.style.toList with
  | false => rfl
  | true => have := bl_tr _ _ _ h c; rw [bl_ir] at this; cases this
theorem eq_styles {a b : Mk} (h : (a.style.toList == b.style.toList) = true) : a.style = b.style ∧ Op.bytesLess a.style.toList b.style.toList = false ∧ Op.bytesLess b.style.toList a.style.toList = false ∧ mkLt a b = decide (a.to < b.frm) ∧ mkLt b a = decide (b.to < a.frm) := by
  have e : a.style.toList = b.style.toList := by simpa using h
  refine ⟨toL_inj e, by rw [e, bl_ir], by rw [e, bl_ir], by unfold mkLt; rw [if_pos h], by unfold mkLt; rw [if_pos (by rw [e]; exact beq_self_eq_true _)]⟩
theorem mk_cases (x M : Mk) : (Op.bytesLess x.style.toList M.style.toList = true) ∨ ((x.style.toList == M.style.toList) = true) ∨ (Op.bytesLess M.style.toList x.style.toList = true) := by
  by_cases e : x.style.toList = M.style.toList
  · exact .inr (.inl (by simpa using e))
  · rcases bl_tt _ _ e with c | c
    · exact .inl c
    · exact .inr (.inr c)
theorem lt_after {x M : Mk} (hx : x.frm < x.to) (hM : M.frm < M.to) (h : mkLt M x = true) : (Op.bytesLess M.style.toList x.style.toList = true) ∨ ((x.style.toList == M.style.toList) = true ∧ M.to < x.frm ∧ ¬ x.to < M.frm) := by
  rcases mk_cases x M with c | c | c
  · have := lt_styles c
    unfold mkLt at h
    rw [if_neg (by intro d; rw [show (M.style.toList == x.style.toList) = false from by rw [← Bool.not_eq_true]; intro e; have := (eq_styles e).1; rw [this] at c; rw [bl_ir] at c; cases c] at d; cases d)] at h
    rw [this.2.2] at h; cases h
  · rw [(eq_styles c).2.2.2.2] at h
    have := of_decide_eq_true h
    exact .inr ⟨c, this, by omega⟩
  · exact .inl c
theorem own_held {w w2 : World} {B n sz : Nat} {e : TypeId} {v : Value} {xs : List Value} (h : w.ownsRow B e sz v n xs) (hk : ∀ x, v.ownBlock = some x → w2.heap[x]? = w.heap[x]?) : w2.ownsRow B e sz v n xs := by
  refine ⟨h.1, ?_⟩
  rcases h.2 with c | ⟨g, cap, cur, hv, h1, h2, h3⟩
  · exact .inl c
  · exact .inr ⟨g, cap, cur, hv, h1, (hk g (by rw [hv]; rfl)).trans h2, h3⟩
/-- The round's state: what is told, and what is left. -/
structure AI (B : Nat) (w : World) (l : List Mk) (m0 : Mk) (k : Nat) (put : Bool) (v : Value) (M : Mk) (out : List Mk) (wr : World) : Prop where
  bx : Bx3 wr B M
  own : wr.ownsRow (B + 1) 73 3 v out.length (encMr out)
  bel : Below B w wr
  eq : addL l m0 = out ++ (if put = true then l.drop k else addL (l.drop k) M)
  aft : put = true → ∀ y ∈ l.drop k, mkLt M y = true
  ml : M.frm < M.to
  st : M.style.size ≤ 1048576
  ol : out.length ≤ 2 * k
theorem AI.before {B : Nat} {w : World} {l : List Mk} {m0 : Mk} {k : Nat} {v : Value} {M : Mk} {out : List Mk} {wr : World} (h : AI B w l m0 k false v M out wr) (hk : k < l.length) {x : Mk} (hxx : x = l[k]) (hx : mkLt x M = true) {v' : Value} {wr' : World} (b : Bx3 wr' B M) (o : wr'.ownsRow (B + 1) 73 3 v' (out.length + 1) (encMr out ++ encMr [x])) (e : Below B w wr') : AI B w l m0 (k + 1) false v' M (out ++ [x]) wr' := by
  subst hxx
  exact ⟨b, by rw [encMr_app, List.length_append]; exact o, e, by rw [h.eq, List.drop_eq_getElem_cons hk, if_neg (by simp), if_neg (by simp), addL, if_pos hx, List.append_assoc]; rfl, fun c => (by cases c), h.ml, h.st, by rw [List.length_append]; have := h.ol; simp; omega⟩
theorem AI.after0 {B : Nat} {w : World} {l : List Mk} {m0 : Mk} {k : Nat} {v : Value} {M : Mk} {out : List Mk} {wr : World} (h : AI B w l m0 k false v M out wr) (hk : k < l.length) {x : Mk} (hxx : x = l[k]) (hn : mkLt x M = false) (hx : mkLt M x = true) (hp : l.Pairwise (fun a b => mkLt a b = true)) (hl : x.frm < x.to) {v' : Value} {wr' : World} (b : Bx3 wr' B M) (o : wr'.ownsRow (B + 1) 73 3 v' (out.length + 1 + 1) (encMr (out ++ [M]) ++ encMr [x])) (e : Below B w wr') : AI B w l m0 (k + 1) true v' M (out ++ [M] ++ [x]) wr' := by
  subst hxx
  refine ⟨b, by rw [encMr_app, List.length_append, List.length_append]; exact o, e, ?_, fun _ y hy => ?_, h.ml, h.st, by rw [List.length_append, List.length_append]; have := h.ol; simp; omega⟩
  · rw [h.eq, List.drop_eq_getElem_cons hk, if_neg (by simp), if_pos rfl, addL, if_neg (by rw [hn]; simp), if_pos hx, List.append_assoc, List.append_assoc]; rfl
  · rw [← List.take_append_drop k l, List.pairwise_append] at hp
    have h2 := hp.2.1
    rw [List.drop_eq_getElem_cons hk, List.pairwise_cons] at h2
    exact mkLt_tr hl hx (h2.1 y hy)
theorem AI.after1 {B : Nat} {w : World} {l : List Mk} {m0 : Mk} {k : Nat} {v : Value} {M : Mk} {out : List Mk} {wr : World} (h : AI B w l m0 k true v M out wr) (hk : k < l.length) {x : Mk} (hxx : x = l[k]) {v' : Value} {wr' : World} (b : Bx3 wr' B M) (o : wr'.ownsRow (B + 1) 73 3 v' (out.length + 1) (encMr out ++ encMr [x])) (e : Below B w wr') : AI B w l m0 (k + 1) true v' M (out ++ [x]) wr' := by
  subst hxx
  refine ⟨b, by rw [encMr_app, List.length_append]; exact o, e, by rw [h.eq, List.drop_eq_getElem_cons hk, if_pos rfl, if_pos rfl, List.append_assoc]; rfl, fun c y hy => h.aft c y ?_, h.ml, h.st, by rw [List.length_append]; have := h.ol; simp; omega⟩
  rw [List.drop_eq_getElem_cons hk]; exact List.mem_cons_of_mem _ hy
theorem AI.touch {B : Nat} {w : World} {l : List Mk} {m0 : Mk} {k : Nat} {v : Value} {M : Mk} {out : List Mk} {wr : World} (h : AI B w l m0 k false v M out wr) (hk : k < l.length) {x : Mk} (hxx : x = l[k]) (hn : mkLt x M = false) (hx : mkLt M x = false) (hl : x.frm < x.to) {M' : Mk} (hM : M' = mgM M x) {wr' : World} (b : Bx3 wr' B M') (o : wr'.ownsRow (B + 1) 73 3 v out.length (encMr out)) (e : Below B w wr') : AI B w l m0 (k + 1) false v M' out wr' := by
  subst hM hxx
  refine ⟨b, o, e, ?_, fun c => (by cases c), ?_, h.st, by have := h.ol; omega⟩
  · rw [h.eq, List.drop_eq_getElem_cons hk, if_neg (by simp), if_neg (by simp), addL, if_neg (by rw [hn]; simp), if_neg (by rw [hx]; simp)]
  · have := h.ml; show min M.frm _ < max M.to _; omega
end Go.Proofs.YtknodkdlphngmawDoor
