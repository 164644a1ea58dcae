/- The contract of impl.pairsOf: what it holds between its rounds. -/
import Derived.Test.YtojlnnlcbpjdlabDoorCollM
import Derived.Test.YtojlnnlcbpjdlabDoorComp4
namespace Go.Proofs.YtojlnnlcbpjdlabDoor
open Go.RowKit Go.Shelf
open Doc1

attribute [local go_sem] Oper.semAt_some

/-- Pairs as cells. -/
def prV (p : St × St) : List Value := [.int .i64 (p.1.k : Int), .int .u8 (p.1.c.toNat : Int), .int .i64 (p.2.k : Int), .int .u8 (p.2.c.toNat : Int)]
def prC (L : List (St × St)) : List Value := L.flatMap prV
theorem prC_snoc (L : List (St × St)) (p : St × St) : prC (L ++ [p]) = prC L ++ prV p := by simp [prC]
theorem Tryd.infoPair : (Tryd.prog.info? 53).map (fun i => (i.zero, i.size, i.bytes)) = some (some (.agg #[.int .i64 0, .int .u8 0, .int .i64 0, .int .u8 0]), 4, 32) := by kernel_rfl

def PO (Bo Bt Ba : Nat) (vo vS : Value) (k : Nat) : Prop := k ∈ [Bo, Bt, Ba] ∨ vo.ownBlock = some k ∨ vS.ownBlock = some k
structure PKo (Bo Bt Ba : Nat) (vS : Value) (ys : List St) (out : List (St × St)) (at_ : Nat) (vo : Value) (W : World) : Prop where
  bo : Bxd W Bo vo
  bt : Bxd W Bt vS
  ba : Bxd W Ba (.int .i64 (at_ : Int))
  ow : W.ownsRow Bo 53 4 vo out.length (prC out)
  os : W.ownsRow 0 51 2 vS ys.length (stC ys)
  no : ∀ x, vo.ownBlock = some x → x ∉ [Bo, Bt, Ba]
  ns : ∀ x, vS.ownBlock = some x → x ∉ [Bo, Bt, Ba] ∧ vo.ownBlock ≠ some x
def PK (Bo Bt Ba : Nat) (vS : Value) (ys : List St) (out : List (St × St)) (at_ : Nat) (O : Nat → Prop) (W : World) : Prop := ∃ vo, PKo Bo Bt Ba vS ys out at_ vo W ∧ O = PO Bo Bt Ba vo vS
theorem PKo.lt {Bo Bt Ba : Nat} {vS : Value} {ys : List St} {out : List (St × St)} {at_ : Nat} {vo : Value} {W : World} (h : PKo Bo Bt Ba vS ys out at_ vo W) : ∀ k, PO Bo Bt Ba vo vS k → k < W.heap.size := by
  rintro k (hk | hk | hk)
  · simp only [List.mem_cons, List.not_mem_nil, or_false] at hk
    rcases hk with rfl | rfl | rfl
    · exact h.bo.lt
    · exact h.bt.lt
    · exact h.ba.lt
  · exact (h.ow.lt k hk).2
  · exact (h.os.lt k hk).2
theorem PKo.kept {Bo Bt Ba : Nat} {vS : Value} {ys : List St} {out : List (St × St)} {at_ : Nat} {vo : Value} {W W' : World} (h : PKo Bo Bt Ba vS ys out at_ vo W) (hk : ∀ k, PO Bo Bt Ba vo vS k → W'.heap[k]? = W.heap[k]?) : PKo Bo Bt Ba vS ys out at_ vo W' :=
  ⟨h.bo.block (hk _ (.inl (by simp))), h.bt.block (hk _ (.inl (by simp))), h.ba.block (hk _ (.inl (by simp))), own_stays h.ow (fun x hx => hk x (.inr (.inl hx))), own_stays h.os (fun x hx => hk x (.inr (.inr hx))), h.no, h.ns⟩
theorem pK_held (Bo Bt Ba : Nat) (vS : Value) (ys : List St) : Held (fun (s : List (St × St) × Nat) => PK Bo Bt Ba vS ys s.1 s.2) :=
  ⟨fun ⟨_, h, e⟩ k hk => by subst e; exact h.lt k hk, fun ⟨vo, h, e⟩ _ hk => by subst e; exact ⟨vo, h.kept hk, rfl⟩⟩
theorem pJ_held (Bo Bt Ba : Nat) (vS : Value) (ys : List St) : Held (fun (pre : List St) => PK Bo Bt Ba vS ys (prS ys pre).1 (prS ys pre).2) :=
  ⟨fun h => (pK_held Bo Bt Ba vS ys).lt (s := (prS ys _)) h, fun h hs hk => (pK_held Bo Bt Ba vS ys).kept (s := (prS ys _)) h hs hk⟩
/-- One pair more. -/
theorem PKo.out {Bo Bt Ba : Nat} {vS : Value} {ys : List St} {out : List (St × St)} {at_ : Nat} {vo : Value} {W w3 : World} {p : St × St} {gg cap : Nat} (h : PKo Bo Bt Ba vS ys out at_ vo W) (hd : Bo < Bt ∧ Bt < Ba)
    (ho : w3.ownsRow Bo 53 4 (.slice (some ⟨gg, 0, none⟩) (out.length + 1) cap) (out.length + 1) (prC out ++ prV p)) (hg : W.grownBy w3 vo.ownBlock) (hat : vo.ownBlock = some gg ∨ W.heap.size ≤ gg) :
    PKo Bo Bt Ba vS ys (out ++ [p]) at_ (.slice (some ⟨gg, 0, none⟩) (out.length + 1) cap) (w3.setCell ⟨Bo, 0, none⟩ (.slice (some ⟨gg, 0, none⟩) (out.length + 1) cap)) ∧
      Moves (PO Bo Bt Ba vo vS) W (PO Bo Bt Ba (.slice (some ⟨gg, 0, none⟩) (out.length + 1) cap) vS) (w3.setCell ⟨Bo, 0, none⟩ (.slice (some ⟨gg, 0, none⟩) (out.length + 1) cap)) := by
  have l1 := h.bo.lt
  have l2 := h.bt.lt
  have l3 := h.ba.lt
  have hv : ∀ x, (Value.slice (some ⟨gg, 0, none⟩) (out.length + 1) cap).ownBlock = some x → x = gg := fun x hx => by
    have : some gg = some x := hx
    injection this with this; exact this.symm
  have hgn : gg ∉ [Bo, Bt, Ba] := by
    rcases hat with e | e
    · exact h.no gg e
    · simp; omega
  have hgo : gg ≠ Bo := fun e => hgn (by simp [e])
  have same : ∀ k, k ∈ [Bo, Bt, Ba] → k < W.heap.size → w3.heap[k]? = W.heap[k]? := fun k hk hl => hg.block k hl (fun e => h.no k e.symm hk)
  have sS : ∀ x, vS.ownBlock = some x → (w3.setCell ⟨Bo, 0, none⟩ (.slice (some ⟨gg, 0, none⟩) (out.length + 1) cap)).heap[x]? = W.heap[x]? := fun x hx => by
    have := h.ns x hx
    exact (Below.heap_setCell _ _ _ _ (fun e => this.1 (by simp [e]))).trans (hg.block x (h.os.lt x hx).2 (fun e => this.2 e.symm))
  have hgS : ∀ x, vS.ownBlock = some x → x ≠ gg := fun x hx e => by
    subst e
    rcases hat with c | c
    · exact (h.ns x hx).2 c
    · have := (h.os.lt x hx).2; omega
  refine ⟨⟨(h.bo.block (same Bo (by simp) l1)).set _, (h.bt.block (same Bt (by simp) l2)).other (by omega) _, (h.ba.block (same Ba (by simp) l3)).other (by omega) _, ?_, own_stays h.os sS, fun x hx => by rw [hv x hx]; exact hgn, fun x hx => ⟨(h.ns x hx).1, fun c => hgS x hx (hv x c)⟩⟩, ?_⟩
  · rw [prC_snoc, List.length_append]
    exact own_stays ho (fun x hx => by rw [hv x hx]; exact Below.heap_setCell _ _ _ _ hgo)
  · refine ⟨hg.os, hg.tape, hg.output, by simpa using hg.size, fun k hk no => ?_, fun k hk c => ?_⟩
    · exact (Below.heap_setCell _ _ _ _ (fun e => no (.inl (by simp [e])))).trans (hg.block k hk (fun e => no (.inr (.inl e.symm))))
    · rcases c with c | c | c
      · exact .inl c
      · have := hv k c
        rcases hat with e | e
        · exact .inr (.inl (this ▸ e))
        · omega
      · exact .inr (.inr c)
/-- The other change's place goes on. -/
theorem PKo.on {Bo Bt Ba : Nat} {vS : Value} {ys : List St} {out : List (St × St)} {at_ : Nat} {vo : Value} {W : World} (h : PKo Bo Bt Ba vS ys out at_ vo W) (hd : Bo < Bt ∧ Bt < Ba) :
    PKo Bo Bt Ba vS ys out (at_ + 1) vo (W.setCell ⟨Ba, 0, none⟩ (.int .i64 ((at_ : Int) + 1))) ∧ Moves (PO Bo Bt Ba vo vS) W (PO Bo Bt Ba vo vS) (W.setCell ⟨Ba, 0, none⟩ (.int .i64 ((at_ : Int) + 1))) := by
  refine ⟨⟨h.bo.other (by omega) _, h.bt.other (by omega) _, ?_, own_stays h.ow (fun x hx => Below.heap_setCell _ _ _ _ (fun e => h.no x hx (by simp [e]))), own_stays h.os (fun x hx => Below.heap_setCell _ _ _ _ (fun e => (h.ns x hx).1 (by simp [e]))), h.no, h.ns⟩, (Moves.refl _ _).setCell (fun _ => .inl (by simp)) _⟩
  have := h.ba.set (.int .i64 ((at_ : Int) + 1))
  rw [show ((at_ + 1 : Nat) : Int) = (at_ : Int) + 1 by omega]
  exact this
theorem operIn_wid {n : Nat} {P : Program} {o : Oper} {a : Act} {w : World} {K : Act → World → Prop} {Q : Exit → Act → World → Prop} (hd : ∀ c, o.op ≠ .defer c) (h : o.wp P a w K Q) : o.wpIn Fence.wide n P a w K Q := by
  refine ⟨fun _ _ => trivial, ?_⟩
  rw [Oper.semAt_eq _ _ _ hd]
  unfold Oper.wp at h
  revert h
  generalize (execOp a.eval o).run P w = r
  intro h
  match r, h with
  | .ok (.value _) _, h => exact h
  | .ok .skip _, h => exact h
  | .ok (.defer _) _, h => exact h
  | .ok (.enter _ _) _, h => exact ⟨fun c => (by cases c), callsIn_wide.2 h⟩
  | .ok (.row _ _) _, h => exact ⟨fun c => (by cases c), fun c cs _ => let ⟨v, w', r, s⟩ := h c cs; ⟨v, w', r, stepsIn_wide.2 s⟩⟩
  | .halt (.panic _) _, h => exact h
/-- A row grows by an append behind the loop. -/
theorem listWide_app {n' : Nat} {P : Program} (w : World) {ops : Array Oper} {rest : List Oper} {o : Oper} {a : Act} {Q : Exit → Act → World → Prop} (hgd : o.guard = none) (s x : Operand) (t : TypeId)
    (ho : o.op = .call { callee := .builtin .append, args := #[s, x], argTypes := #[t, t] }) (B : Nat) (e : TypeId) (i : TypeInfo) (z : Value) (size bytes : Nat) (ht : P.underlying t = some (.slice e)) (hi : P.info? e = some i) (hz : i.zero = some z)
    (hsize : i.size = size) (hby : i.bytes = bytes) (hzs : z.cells.size = size) (hsz : 0 < size) (v : Value) (n : Nat) (xs : List Value) (hs : a.eval s = v) (hown : w.ownsRow B e size v n xs)
    (ad : Addr) (m c : Nat) (news : List Value) (hx : a.eval x = .slice (some ad) m c) (hl : news.length = m * size) (hnews : ∀ j u, news[j]? = some u → w.cell? (ad.add j) = some u) (h1 : ∀ u ∈ news, u.oneCell' = true)
    (hm : 0 < m) (h63 : n + m ≤ maxLen) (hbytes : (n + m) * bytes ≤ 140737488355328) (hB : B ≤ w.heap.size) (H : Nat) (hH : w.heap.size = H)
    (h : ∀ g cap w', w'.ownsRow B e size (.slice (some ⟨g, 0, none⟩) (n + m) cap) (n + m) (xs ++ news) → w.grownBy w' v.ownBlock → (v.ownBlock = some g ∨ g = H) → wpListIn Fence.wide n' P ops Q rest (a.put o.dst (.slice (some ⟨g, 0, none⟩) (n + m) cap)) w') :
    wpListIn Fence.wide n' P ops Q (o :: rest) a w :=
  wpListIn_plain hgd fun K hK => operIn_wid (by rw [ho]; intro c hc; cases hc)
    (wp_append_lies w s x t ho B e i z size bytes ht hi hz hsize hby hzs hsz v n xs hs hown ad m c news hx hl hnews h1 hm h63 hbytes hB H hH (fun g cap w' h1 h2 h3 _ => hK _ _ (h g cap w' h1 h2 h3)))
end Go.Proofs.YtojlnnlcbpjdlabDoor
