/- Where a normal change touches its text: two rows that grow, of bytes dropped or not, and of places of puts. -/
import Derived.Test.YtojlnnlcbpjdlabDoorCollM
import Derived.Test.YtojlnnlcbpjdlabDoorPairsW1
import Derived.Test.YtojlnnlcbpjdlabDoorOpW78
set_option linter.unusedVariables false
namespace Go.Proofs.YtojlnnlcbpjdlabDoor
open Go.RowKit Go.Shelf
open Doc1

/-- Which bytes a part drops. -/
def fdP (p : Pt) : List Bool := List.replicate (p.keep.toNat + p.drop.size) (decide (pk p = 3))
def ftS (s : List Bool × List Nat) (p : Pt) : List Bool × List Nat := (s.1 ++ fdP p, if pk p = 2 then s.2 ++ [s.1.length] else s.2)
def ftL (l : List Pt) : List Bool × List Nat := l.foldl ftS ([], [])
theorem ftL_snoc (l : List Pt) (p : Pt) : ftL (l ++ [p]) = ftS (ftL l) p := by simp [ftL]
def blS (d : List Bool) : List Value := d.map Value.bool
def nmS (p : List Nat) : List Value := p.map (fun (n : Nat) => Value.int .i64 (n : Int))
theorem blS_snoc (d : List Bool) (b : Bool) : blS (d ++ [b]) = blS d ++ [.bool b] := by simp [blS]
theorem nmS_snoc (d : List Nat) (b : Nat) : nmS (d ++ [b]) = nmS d ++ [.int .i64 (b : Int)] := by simp [nmS]

structure FKo (Bf : Nat) (d : List Bool) (ps : List Nat) (vd vp : Value) (W : World) : Prop where
  c0 : W.cell? ⟨Bf, 0, none⟩ = some vd
  c1 : W.cell? ⟨Bf, 1, none⟩ = some vp
  f0 : W.frozen? ⟨Bf, 0, none⟩ = false
  f1 : W.frozen? ⟨Bf, 1, none⟩ = false
  od : W.ownsRow Bf 4 1 vd d.length (blS d)
  op : W.ownsRow Bf 3 1 vp ps.length (nmS ps)
  nd : vd.ownBlock ≠ some Bf
  np : vp.ownBlock ≠ some Bf
  ne : ∀ x, vd.ownBlock = some x → vp.ownBlock ≠ some x
def FO (Bf : Nat) (vd vp : Value) (k : Nat) : Prop := k = Bf ∨ vd.ownBlock = some k ∨ vp.ownBlock = some k
def FK (Bf : Nat) (s : List Bool × List Nat) (O : Nat → Prop) (W : World) : Prop := ∃ vd vp, FKo Bf s.1 s.2 vd vp W ∧ O = FO Bf vd vp
theorem FKo.lt {Bf : Nat} {d : List Bool} {ps : List Nat} {vd vp : Value} {W : World} (h : FKo Bf d ps vd vp W) : ∀ k, FO Bf vd vp k → k < W.heap.size := by
  rintro k (rfl | hk | hk)
  · exact World.block_lt_of_cell? _ _ h.c0
  · exact (h.od.lt k hk).2
  · exact (h.op.lt k hk).2
theorem fz_block {W W' : World} {B i : Nat} (e : W'.heap[B]? = W.heap[B]?) (h : W.frozen? ⟨B, i, none⟩ = false) : W'.frozen? ⟨B, i, none⟩ = false := by
  unfold World.frozen? at h ⊢
  rw [e]; exact h
theorem FKo.kept {Bf : Nat} {d : List Bool} {ps : List Nat} {vd vp : Value} {W W' : World} (h : FKo Bf d ps vd vp W) (hk : ∀ k, FO Bf vd vp k → W'.heap[k]? = W.heap[k]?) : FKo Bf d ps vd vp W' :=
  ⟨(World.cell?_of_block (hk Bf (.inl rfl))).trans h.c0, (World.cell?_of_block (hk Bf (.inl rfl))).trans h.c1, fz_block (hk Bf (.inl rfl)) h.f0, fz_block (hk Bf (.inl rfl)) h.f1, own_stays h.od (fun x hx => hk x (.inr (.inl hx))), own_stays h.op (fun x hx => hk x (.inr (.inr hx))), h.nd, h.np, h.ne⟩
theorem fK_held (Bf : Nat) : Held (FK Bf) :=
  ⟨fun ⟨_, _, h, e⟩ k hk => by subst e; exact h.lt k hk, fun ⟨vd, vp, h, e⟩ _ hk => by subst e; exact ⟨vd, vp, h.kept hk, rfl⟩⟩
theorem fJ_held (Bf : Nat) : Held (fun (pre : List Pt) => FK Bf (ftL pre)) :=
  ⟨fun h => (fK_held Bf).lt (s := ftL _) h, fun h hs hk => (fK_held Bf).kept (s := ftL _) h hs hk⟩
theorem sl_own {gg n cap x : Nat} (hx : (Value.slice (some ⟨gg, 0, none⟩) n cap).ownBlock = some x) : x = gg := by
  have : some gg = some x := hx
  injection this with this; exact this.symm

/-- One byte more. -/
theorem FKo.drop {Bf : Nat} {d : List Bool} {ps : List Nat} {vd vp : Value} {W w3 : World} {b : Bool} {gg cap : Nat} (h : FKo Bf d ps vd vp W)
    (ho : w3.ownsRow Bf 4 1 (.slice (some ⟨gg, 0, none⟩) (d.length + 1) cap) (d.length + 1) (blS d ++ [.bool b])) (hg : W.grownBy w3 vd.ownBlock) (hat : vd.ownBlock = some gg ∨ W.heap.size ≤ gg) :
    FKo Bf (d ++ [b]) ps (.slice (some ⟨gg, 0, none⟩) (d.length + 1) cap) vp (w3.setCell ⟨Bf, 0, none⟩ (.slice (some ⟨gg, 0, none⟩) (d.length + 1) cap)) ∧
      Moves (FO Bf vd vp) W (FO Bf (.slice (some ⟨gg, 0, none⟩) (d.length + 1) cap) vp) (w3.setCell ⟨Bf, 0, none⟩ (.slice (some ⟨gg, 0, none⟩) (d.length + 1) cap)) := by
  have l0 := h.lt Bf (.inl rfl)
  have hgo : gg ≠ Bf := by
    rcases hat with e | e
    · exact fun c => h.nd (by rw [e, c])
    · omega
  have same : w3.heap[Bf]? = W.heap[Bf]? := hg.block Bf l0 (fun e => h.nd e.symm)
  have e0 := (World.cell?_of_block (a := ⟨Bf, 0, none⟩) same).trans h.c0
  have e1 := (World.cell?_of_block (a := ⟨Bf, 1, none⟩) same).trans h.c1
  have hpg : ∀ x, vp.ownBlock = some x → x ≠ gg := fun x hx e => by
    subst e
    rcases hat with c | c
    · exact h.ne x c hx
    · have := (h.op.lt x hx).2; omega
  have sP : ∀ x, vp.ownBlock = some x → (w3.setCell ⟨Bf, 0, none⟩ (.slice (some ⟨gg, 0, none⟩) (d.length + 1) cap)).heap[x]? = W.heap[x]? := fun x hx =>
    (Below.heap_setCell _ _ _ _ (fun e => h.np (by rw [hx, e]))).trans (hg.block x (h.op.lt x hx).2 (fun e => h.ne x e.symm hx))
  refine ⟨⟨World.cell?_setCell_same _ _ _ e0, ?_, by rw [World.frozen?_setCell]; exact fz_block same h.f0, by rw [World.frozen?_setCell]; exact fz_block same h.f1, ?_, own_stays h.op sP, fun c => hgo (sl_own c).symm, h.np, fun x hx => fun c => hpg x c (sl_own hx)⟩, ?_⟩
  · rw [World.cell?_setCell_other _ _ _ _ (by simp)]; exact e1
  · rw [blS_snoc, List.length_append]
    exact own_stays ho (fun x hx => by rw [sl_own hx]; exact Below.heap_setCell _ _ _ _ hgo)
  · refine ⟨hg.os, hg.tape, hg.output, by simpa using hg.size, fun k hk no => ?_, fun k hk c => ?_⟩
    · exact (Below.heap_setCell _ _ _ _ (fun e => no (.inl e))).trans (hg.block k hk (fun e => no (.inr (.inl e.symm))))
    · rcases c with c | c | c
      · exact .inl c
      · have := sl_own c
        rcases hat with e | e
        · exact .inr (.inl (this ▸ e))
        · omega
      · exact .inr (.inr c)
/-- One place more. -/
theorem FKo.put {Bf : Nat} {d : List Bool} {ps : List Nat} {vd vp : Value} {W w3 : World} {b : Nat} {gg cap : Nat} (h : FKo Bf d ps vd vp W)
    (ho : w3.ownsRow Bf 3 1 (.slice (some ⟨gg, 0, none⟩) (ps.length + 1) cap) (ps.length + 1) (nmS ps ++ [.int .i64 (b : Int)])) (hg : W.grownBy w3 vp.ownBlock) (hat : vp.ownBlock = some gg ∨ W.heap.size ≤ gg) :
    FKo Bf d (ps ++ [b]) vd (.slice (some ⟨gg, 0, none⟩) (ps.length + 1) cap) (w3.setCell ⟨Bf, 1, none⟩ (.slice (some ⟨gg, 0, none⟩) (ps.length + 1) cap)) ∧
      Moves (FO Bf vd vp) W (FO Bf vd (.slice (some ⟨gg, 0, none⟩) (ps.length + 1) cap)) (w3.setCell ⟨Bf, 1, none⟩ (.slice (some ⟨gg, 0, none⟩) (ps.length + 1) cap)) := by
  have l0 := h.lt Bf (.inl rfl)
  have hgo : gg ≠ Bf := by
    rcases hat with e | e
    · exact fun c => h.np (by rw [e, c])
    · omega
  have same : w3.heap[Bf]? = W.heap[Bf]? := hg.block Bf l0 (fun e => h.np e.symm)
  have e0 := (World.cell?_of_block (a := ⟨Bf, 0, none⟩) same).trans h.c0
  have e1 := (World.cell?_of_block (a := ⟨Bf, 1, none⟩) same).trans h.c1
  have hpg : ∀ x, vd.ownBlock = some x → x ≠ gg := fun x hx e => by
    subst e
    rcases hat with c | c
    · exact h.ne x hx c
    · have := (h.od.lt x hx).2; omega
  have sP : ∀ x, vd.ownBlock = some x → (w3.setCell ⟨Bf, 1, none⟩ (.slice (some ⟨gg, 0, none⟩) (ps.length + 1) cap)).heap[x]? = W.heap[x]? := fun x hx =>
    (Below.heap_setCell _ _ _ _ (fun e => h.nd (by rw [hx, e]))).trans (hg.block x (h.od.lt x hx).2 (fun e => h.ne x hx e.symm))
  refine ⟨⟨?_, World.cell?_setCell_same _ _ _ e1, by rw [World.frozen?_setCell]; exact fz_block same h.f0, by rw [World.frozen?_setCell]; exact fz_block same h.f1, own_stays h.od sP, ?_, h.nd, fun c => hgo (sl_own c).symm, fun x hx => fun c => hpg x hx (sl_own c)⟩, ?_⟩
  · rw [World.cell?_setCell_other _ _ _ _ (by simp)]; exact e0
  · rw [nmS_snoc, List.length_append]
    exact own_stays ho (fun x hx => by rw [sl_own hx]; exact Below.heap_setCell _ _ _ _ hgo)
  · refine ⟨hg.os, hg.tape, hg.output, by simpa using hg.size, fun k hk no => ?_, fun k hk c => ?_⟩
    · exact (Below.heap_setCell _ _ _ _ (fun e => no (.inl e))).trans (hg.block k hk (fun e => no (.inr (.inr e.symm))))
    · rcases c with c | c | c
      · exact .inl c
      · exact .inr (.inl c)
      · have := sl_own c
        rcases hat with e | e
        · exact .inr (.inr (this ▸ e))
        · omega
/-- A part in a box of its own. -/
structure Box3 (W : World) (B : Nat) (x : Pt) : Prop where
  c0 : W.cell? ⟨B, 0, none⟩ = some (.int .i64 x.keep)
  c1 : W.cell? ⟨B, 1, none⟩ = some (.string x.put)
  c2 : W.cell? ⟨B, 2, none⟩ = some (.string x.drop)
theorem Box3.lt {W : World} {B : Nat} {x : Pt} (h : Box3 W B x) : B < W.heap.size := World.block_lt_of_cell? _ _ h.c0
theorem Box3.block {W W' : World} {B : Nat} {x : Pt} (h : Box3 W B x) (e : W'.heap[B]? = W.heap[B]?) : Box3 W' B x :=
  ⟨(World.cell?_of_block e).trans h.c0, (World.cell?_of_block e).trans h.c1, (World.cell?_of_block e).trans h.c2⟩
def PAx (J : List Pt → (Nat → Prop) → World → Prop) (act : Pt → Nat → Act) (pre : List Pt) (x : Pt) (a' : Act) (B : Nat → Prop) (W : World) : Prop :=
  ∃ O Bx, J pre O W ∧ (∀ k, B k ↔ O k ∨ k = Bx) ∧ ¬ O Bx ∧ Box3 W Bx x ∧ a' = act x Bx
theorem pAx_held {J : List Pt → (Nat → Prop) → World → Prop} (hJ : Held J) (act : Pt → Nat → Act) (pre : List Pt) (x : Pt) (a' : Act) : Held (fun (_ : Unit) => PAx J act pre x a') :=
  ⟨fun ⟨O, Bx, h, hB, _, hx, _⟩ k hk => by
      rcases (hB k).1 hk with c | rfl
      · exact hJ.lt h k c
      · exact hx.lt,
    fun ⟨O, Bx, h, hB, hn, hx, ha⟩ hs hk => ⟨O, Bx, hJ.kept h hs (fun k c => hk k ((hB k).2 (.inl c))), hB, hn, hx.block (hk Bx ((hB Bx).2 (.inr rfl))), ha⟩⟩
end Go.Proofs.YtojlnnlcbpjdlabDoor
