/- Where a normal change touches its text: two rows that grow, of bytes dropped or not, and of places of puts. The contract of impl.footprintOf. The contracts of dropsAround and putsWithin. Clashes: what the program counts is what the model counts (mathematics). The contract of impl.ClashesOf. So many noughts put behind a row of ints. The contracts of the model's l4Runs and l4Within. The contract of the model's l4Within. The contract of the model's ClashesOf. As many clashes either way: what the program counts is what the model counts. -/
import Derived.Test.YtbooongkbninhaaDoorCollM
import Derived.Test.YtbooongkbninhaaDoorPairsM
import Derived.Test.YtbooongkbninhaaDoorOpW78
import Derived.Test.YtbooongkbninhaaDoorMoveM
import Derived.Deep.Cut
import Derived.Deep.CutRange
import Derived.Deep.RegionHeld3
import Derived.Lib.AppendStr
import Derived.Test.YtbooongkbninhaaDoorMoveSZ
import Derived.BigQuiet
import Derived.Deep.QuietTactic
set_option linter.unusedVariables false
namespace Go.Proofs.YtbooongkbninhaaDoor
open Go.RowKit Go.Shelf
open Doc1

/-- Which bytes a part drops. -/
def fdP (p : Pt) : List Bool := List.replicate (p.keep.toNat + p.drop.size) (decide (pk p = 3))
def ftS (s : List Bool × List Nat) (p : Pt) : List Bool × List Nat := (s.1 ++ fdP p, if pk p = 2 then s.2 ++ [s.1.length] else s.2)
def ftL (l : List Pt) : List Bool × List Nat := l.foldl ftS ([], [])
theorem ftL_snoc (l : List Pt) (p : Pt) : ftL (l ++ [p]) = ftS (ftL l) p := by simp [ftL]
def blS (d : List Bool) : List Value := d.map Value.bool
def nmS (p : List Nat) : List Value := p.map (fun (n : Nat) => Value.int .i64 (n : Int))
theorem blS_snoc (d : List Bool) (b : Bool) : blS (d ++ [b]) = blS d ++ [.bool b] := by simp [blS]
theorem nmS_snoc (d : List Nat) (b : Nat) : nmS (d ++ [b]) = nmS d ++ [.int .i64 (b : Int)] := by simp [nmS]

structure FKo (Bf : Nat) (d : List Bool) (ps : List Nat) (vd vp : Value) (W : World) : Prop where
  c0 : W.cell? ⟨Bf, 0, none⟩ = some vd
  c1 : W.cell? ⟨Bf, 1, none⟩ = some vp
  f0 : W.frozen? ⟨Bf, 0, none⟩ = false
  f1 : W.frozen? ⟨Bf, 1, none⟩ = false
  od : W.ownsRow Bf 4 1 vd d.length (blS d)
  op : W.ownsRow Bf 3 1 vp ps.length (nmS ps)
  nd : vd.ownBlock ≠ some Bf
  np : vp.ownBlock ≠ some Bf
  ne : ∀ x, vd.ownBlock = some x → vp.ownBlock ≠ some x
def FO (Bf : Nat) (vd vp : Value) (k : Nat) : Prop := k = Bf ∨ vd.ownBlock = some k ∨ vp.ownBlock = some k
def FK (Bf : Nat) (s : List Bool × List Nat) (O : Nat → Prop) (W : World) : Prop := ∃ vd vp, FKo Bf s.1 s.2 vd vp W ∧ O = FO Bf vd vp
theorem FKo.lt {Bf : Nat} {d : List Bool} {ps : List Nat} {vd vp : Value} {W : World} (h : FKo Bf d ps vd vp W) : ∀ k, FO Bf vd vp k → k < W.heap.size := by
  rintro k (rfl | hk | hk)
  · exact World.block_lt_of_cell? _ _ h.c0
  · exact (h.od.lt k hk).2
  · exact (h.op.lt k hk).2
theorem fz_block {W W' : World} {B i : Nat} (e : W'.heap[B]? = W.heap[B]?) (h : W.frozen? ⟨B, i, none⟩ = false) : W'.frozen? ⟨B, i, none⟩ = false := by
  unfold World.frozen? at h ⊢
  rw [e]; exact h
theorem FKo.kept {Bf : Nat} {d : List Bool} {ps : List Nat} {vd vp : Value} {W W' : World} (h : FKo Bf d ps vd vp W) (hk : ∀ k, FO Bf vd vp k → W'.heap[k]? = W.heap[k]?) : FKo Bf d ps vd vp W' :=
  ⟨(World.cell?_of_block (hk Bf (.inl rfl))).trans h.c0, (World.cell?_of_block (hk Bf (.inl rfl))).trans h.c1, fz_block (hk Bf (.inl rfl)) h.f0, fz_block (hk Bf (.inl rfl)) h.f1, own_stays h.od (fun x hx => hk x (.inr (.inl hx))), own_stays h.op (fun x hx => hk x (.inr (.inr hx))), h.nd, h.np, h.ne⟩
theorem fK_held (Bf : Nat) : Held (FK Bf) :=
  ⟨fun ⟨_, _, h, e⟩ k hk => by subst e; exact h.lt k hk, fun ⟨vd, vp, h, e⟩ _ hk => by subst e; exact ⟨vd, vp, h.kept hk, rfl⟩⟩
theorem fJ_held (Bf : Nat) : Held (fun (pre : List Pt) => FK Bf (ftL pre)) :=
  ⟨fun h => (fK_held Bf).lt (s := ftL _) h, fun h hs hk => (fK_held Bf).kept (s := ftL _) h hs hk⟩
theorem sl_own {gg n cap x : Nat} (hx : (Value.slice (some ⟨gg, 0, none⟩) n cap).ownBlock = some x) : x = gg := by
  have : some gg = some x := hx
  injection this with this; exact this.symm

/-- One byte more. -/
theorem FKo.drop {Bf : Nat} {d : List Bool} {ps : List Nat} {vd vp : Value} {W w3 : World} {b : Bool} {gg cap : Nat} (h : FKo Bf d ps vd vp W)
    (ho : w3.ownsRow Bf 4 1 (.slice (some ⟨gg, 0, none⟩) (d.length + 1) cap) (d.length + 1) (blS d ++ [.bool b])) (hg : W.grownBy w3 vd.ownBlock) (hat : vd.ownBlock = some gg ∨ W.heap.size ≤ gg) :
    FKo Bf (d ++ [b]) ps (.slice (some ⟨gg, 0, none⟩) (d.length + 1) cap) vp (w3.setCell ⟨Bf, 0, none⟩ (.slice (some ⟨gg, 0, none⟩) (d.length + 1) cap)) ∧
      Moves (FO Bf vd vp) W (FO Bf (.slice (some ⟨gg, 0, none⟩) (d.length + 1) cap) vp) (w3.setCell ⟨Bf, 0, none⟩ (.slice (some ⟨gg, 0, none⟩) (d.length + 1) cap)) := by
  have l0 := h.lt Bf (.inl rfl)
  have hgo : gg ≠ Bf := by
    rcases hat with e | e
    · exact fun c => h.nd (by rw [e, c])
    · omega
  have same : w3.heap[Bf]? = W.heap[Bf]? := hg.block Bf l0 (fun e => h.nd e.symm)
  have e0 := (World.cell?_of_block (a := ⟨Bf, 0, none⟩) same).trans h.c0
  have e1 := (World.cell?_of_block (a := ⟨Bf, 1, none⟩) same).trans h.c1
  have hpg : ∀ x, vp.ownBlock = some x → x ≠ gg := fun x hx e => by
    subst e
    rcases hat with c | c
    · exact h.ne x c hx
    · have := (h.op.lt x hx).2; omega
  have sP : ∀ x, vp.ownBlock = some x → (w3.setCell ⟨Bf, 0, none⟩ (.slice (some ⟨gg, 0, none⟩) (d.length + 1) cap)).heap[x]? = W.heap[x]? := fun x hx =>
    (Below.heap_setCell _ _ _ _ (fun e => h.np (by rw [hx, e]))).trans (hg.block x (h.op.lt x hx).2 (fun e => h.ne x e.symm hx))
  refine ⟨⟨World.cell?_setCell_same _ _ _ e0, ?_, by rw [World.frozen?_setCell]; exact fz_block same h.f0, by rw [World.frozen?_setCell]; exact fz_block same h.f1, ?_, own_stays h.op sP, fun c => hgo (sl_own c).symm, h.np, fun x hx => fun c => hpg x c (sl_own hx)⟩, ?_⟩
  · rw [World.cell?_setCell_other _ _ _ _ (by simp)]; exact e1
  · rw [blS_snoc, List.length_append]
    exact own_stays ho (fun x hx => by rw [sl_own hx]; exact Below.heap_setCell _ _ _ _ hgo)
  · refine ⟨hg.os, hg.tape, hg.output, by simpa using hg.size, fun k hk no => ?_, fun k hk c => ?_⟩
    · exact (Below.heap_setCell _ _ _ _ (fun e => no (.inl e))).trans (hg.block k hk (fun e => no (.inr (.inl e.symm))))
    · rcases c with c | c | c
      · exact .inl c
      · have := sl_own c
        rcases hat with e | e
        · exact .inr (.inl (this ▸ e))
        · omega
      · exact .inr (.inr c)
/-- One place more. -/
theorem FKo.put {Bf : Nat} {d : List Bool} {ps : List Nat} {vd vp : Value} {W w3 : World} {b : Nat} {gg cap : Nat} (h : FKo Bf d ps vd vp W)
    (ho : w3.ownsRow Bf 3 1 (.slice (some ⟨gg, 0, none⟩) (ps.length + 1) cap) (ps.length + 1) (nmS ps ++ [.int .i64 (b : Int)])) (hg : W.grownBy w3 vp.ownBlock) (hat : vp.ownBlock = some gg ∨ W.heap.size ≤ gg) :
    FKo Bf d (ps ++ [b]) vd (.slice (some ⟨gg, 0, none⟩) (ps.length + 1) cap) (w3.setCell ⟨Bf, 1, none⟩ (.slice (some ⟨gg, 0, none⟩) (ps.length + 1) cap)) ∧
      Moves (FO Bf vd vp) W (FO Bf vd (.slice (some ⟨gg, 0, none⟩) (ps.length + 1) cap)) (w3.setCell ⟨Bf, 1, none⟩ (.slice (some ⟨gg, 0, none⟩) (ps.length + 1) cap)) := by
  have l0 := h.lt Bf (.inl rfl)
  have hgo : gg ≠ Bf := by
    rcases hat with e | e
    · exact fun c => h.np (by rw [e, c])
    · omega
  have same : w3.heap[Bf]? = W.heap[Bf]? := hg.block Bf l0 (fun e => h.np e.symm)
  have e0 := (World.cell?_of_block (a := ⟨Bf, 0, none⟩) same).trans h.c0
  have e1 := (World.cell?_of_block (a := ⟨Bf, 1, none⟩) same).trans h.c1
  have hpg : ∀ x, vd.ownBlock = some x → x ≠ gg := fun x hx e => by
    subst e
    rcases hat with c | c
    · exact h.ne x hx c
    · have := (h.od.lt x hx).2; omega
  have sP : ∀ x, vd.ownBlock = some x → (w3.setCell ⟨Bf, 1, none⟩ (.slice (some ⟨gg, 0, none⟩) (ps.length + 1) cap)).heap[x]? = W.heap[x]? := fun x hx =>
    (Below.heap_setCell _ _ _ _ (fun e => h.nd (by rw [hx, e]))).trans (hg.block x (h.od.lt x hx).2 (fun e => h.ne x hx e.symm))
  refine ⟨⟨?_, World.cell?_setCell_same _ _ _ e1, by rw [World.frozen?_setCell]; exact fz_block same h.f0, by rw [World.frozen?_setCell]; exact fz_block same h.f1, own_stays h.od sP, ?_, h.nd, fun c => hgo (sl_own c).symm, fun x hx => fun c => hpg x hx (sl_own c)⟩, ?_⟩
  · rw [World.cell?_setCell_other _ _ _ _ (by simp)]; exact e0
  · rw [nmS_snoc, List.length_append]
    exact own_stays ho (fun x hx => by rw [sl_own hx]; exact Below.heap_setCell _ _ _ _ hgo)
  · refine ⟨hg.os, hg.tape, hg.output, by simpa using hg.size, fun k hk no => ?_, fun k hk c => ?_⟩
    · exact (Below.heap_setCell _ _ _ _ (fun e => no (.inl e))).trans (hg.block k hk (fun e => no (.inr (.inr e.symm))))
    · rcases c with c | c | c
      · exact .inl c
      · exact .inr (.inl c)
      · have := sl_own c
        rcases hat with e | e
        · exact .inr (.inr (this ▸ e))
        · omega
/-- A part in a box of its own. -/
structure Box3 (W : World) (B : Nat) (x : Pt) : Prop where
  c0 : W.cell? ⟨B, 0, none⟩ = some (.int .i64 x.keep)
  c1 : W.cell? ⟨B, 1, none⟩ = some (.string x.put)
  c2 : W.cell? ⟨B, 2, none⟩ = some (.string x.drop)
theorem Box3.lt {W : World} {B : Nat} {x : Pt} (h : Box3 W B x) : B < W.heap.size := World.block_lt_of_cell? _ _ h.c0
theorem Box3.block {W W' : World} {B : Nat} {x : Pt} (h : Box3 W B x) (e : W'.heap[B]? = W.heap[B]?) : Box3 W' B x :=
  ⟨(World.cell?_of_block e).trans h.c0, (World.cell?_of_block e).trans h.c1, (World.cell?_of_block e).trans h.c2⟩
def PAx (J : List Pt → (Nat → Prop) → World → Prop) (act : Pt → Nat → Act) (pre : List Pt) (x : Pt) (a' : Act) (B : Nat → Prop) (W : World) : Prop :=
  ∃ O Bx, J pre O W ∧ (∀ k, B k ↔ O k ∨ k = Bx) ∧ ¬ O Bx ∧ Box3 W Bx x ∧ a' = act x Bx
theorem pAx_held {J : List Pt → (Nat → Prop) → World → Prop} (hJ : Held J) (act : Pt → Nat → Act) (pre : List Pt) (x : Pt) (a' : Act) : Held (fun (_ : Unit) => PAx J act pre x a') :=
  ⟨fun ⟨O, Bx, h, hB, _, hx, _⟩ k hk => by
      rcases (hB k).1 hk with c | rfl
      · exact hJ.lt h k c
      · exact hx.lt,
    fun ⟨O, Bx, h, hB, hn, hx, ha⟩ hs hk => ⟨O, Bx, hJ.kept h hs (fun k c => hk k ((hB k).2 (.inl c))), hB, hn, hx.block (hk Bx ((hB Bx).2 (.inr rfl))), ha⟩⟩
end Go.Proofs.YtbooongkbninhaaDoor

set_option linter.unusedVariables false
namespace Go.Proofs.YtbooongkbninhaaDoor
open Go.RowKit Go.Shelf
open Doc1

attribute [local go_sem] Oper.semAt_some

theorem ft_len (l : List Pt) (h : ∀ p ∈ l, pk p ≠ 0) : (ftL l).1.length ≤ 300 * l.length ∧ (ftL l).2.length ≤ l.length := by
  suffices H : ∀ (l : List Pt) (s : List Bool × List Nat), (∀ p ∈ l, pk p ≠ 0) → (l.foldl ftS s).1.length ≤ s.1.length + 300 * l.length ∧ (l.foldl ftS s).2.length ≤ s.2.length + l.length by
    have := H l ([], []) h
    simpa [ftL] using this
  intro l
  induction l with
  | nil => intro s _; simp
  | cons p l ih =>
    intro s h
    have h1 := ih (ftS s p) (fun q hq => h q (by simp [hq]))
    have h2 := (pk_bd (h p (by simp))).1
    obtain ⟨K, hK, hk⟩ := pk_nat (h p (by simp))
    unfold tk1 at h2
    have e1 : (ftS s p).1.length = s.1.length + (p.keep.toNat + p.drop.size) := by simp [ftS, fdP]
    have e2 : (ftS s p).2.length ≤ s.2.length + 1 := by unfold ftS; simp only; split <;> simp
    rw [List.foldl_cons, List.length_cons]
    omega
theorem pk_szs' {p : Pt} (h : pk p ≠ 0) : p.put.size ≤ 300 ∧ p.drop.size ≤ 300 := by
  have := pk_Bd h
  exact ⟨this.2.1, this.2.2⟩
theorem own_pinF {w : World} {B : Nat} {v : Value} {l : List Pt} (h : POwn w B v l) (hT : Tab w) (hs : ∀ p ∈ l, p.put.size ≤ 1048576 ∧ p.drop.size ≤ 1048576) (hl : l.length ≤ 1048576) :
    ∃ aw g cap, v = .slice aw l.length cap ∧ Pin w aw g cap l ∧ (g = 0 ∨ B ≤ g) := by
  have hsi : ∀ i (hi : i < l.length), l[i].put.size ≤ 1048576 ∧ l[i].drop.size ≤ 1048576 := fun i hi => hs _ (List.getElem_mem hi)
  rcases h.2 with ⟨rfl, h0⟩ | ⟨g, cap, cur, rfl, hb, hh, hle, hm, hz, ht⟩
  · obtain rfl := List.eq_nil_of_length_eq_zero h0
    exact ⟨none, 0, 0, rfl, ⟨⟨by simp, by unfold maxLen; omega⟩, hsi, hl, (fun j u hu => by simp [encP] at hu), hT.lt, fun c => absurd rfl c⟩, .inl rfl⟩
  · refine ⟨_, g, cap, rfl, ⟨⟨hle, hm⟩, hsi, hl, fun j u hu => ?_, (Array.getElem?_eq_some_iff.1 hh).1, fun _ => rfl⟩, .inr hb⟩
    have := h.cells (g := g) rfl j u hu
    have hadd : (⟨g, 0, none⟩ : Addr).add j = ⟨g, j, none⟩ := by unfold Addr.add; split <;> simp_all
    rwa [hadd] at this
theorem two_new (w : World) (a b : Value) (t : TypeId) : (w.alloc (.cells #[a, b] t)).heap[w.heap.size]? = some (.cells #[a, b] t) := heap_alloc_new w _
theorem infoBool : (Tryd.prog.info? 4).map (fun i => (i.zero, i.size, i.bytes)) = some (some (.bool false), 1, 1) := by kernel_rfl
theorem infoInt : (Tryd.prog.info? 3).map (fun i => (i.zero, i.size, i.bytes)) = some (some (.int .i64 0), 1, 8) := by kernel_rfl

set_option maxRecDepth 100000 in
set_option maxHeartbeats 4000000 in
theorem footprintI {w : World} {aw : Option Addr} {g cap : Nat} {l : List Pt} (h : Pin w aw g cap l) (hT : Tab w) (hg : goodO l = true) :
    Calls Tryd.prog 98 #[.slice aw l.length cap] w fun e w' => ∃ vd vp, e = .returned (.agg #[vd, vp]) ∧ w'.ownsRow w.heap.size 4 1 vd (ftL (norO l)).1.length (blS (ftL (norO l)).1) ∧ w'.ownsRow w.heap.size 3 1 vp (ftL (norO l)).2.length (nmS (ftL (norO l)).2) ∧ Below w.heap.size w w' := by
  have NO := hide (fun w' (hb : Below w.heap.size w w') => normalI (h.later hb) (hT.below hb))
  rw [hg] at NO
  have hn : goodO (norO l) = true := by
    unfold norO; rw [if_pos hg]
    have := normG hg
    rw [← this.2]; exact this.1
  have hHT := hide hT
  have HGN := hide hn
  have hnpk := goodO_pk hn
  have hn60 := (goodO_le hn).1
  clear h hT hg
  have hdep : Fence.wide.depth = none := rfl
  refine (callsIn_wide (n := 6)).1 ?_
  refine callsIn_of_wp_marks Tryd.func98 rfl trivial ?_ rfl
  simp only [Tryd.ntmps98, List.size_toArray, List.length_cons, List.length_nil, Nat.reduceAdd, Nat.reduceSub, Array.replicate_succ, Array.replicate_zero, List.push_toArray, List.append_toArray, List.nil_append, List.cons_append]
  gi_wp2_with fail
  refine ⟨trivial, ?_⟩
  gi_at_call 117
  have hb0 : Below w.heap.size w ((w.alloc (.cells #[.slice none 0 0, .slice none 0 0] 141)).alloc (.cells #[.slice none 0 0, .slice none 0 0] 141)) := ((Below.refl _ _).alloc (Nat.le_refl _) _).alloc (by simp) _
  refine (callsIn_wide.2 (NO.out _ hb0)).mono ?_
  rintro e w1 ⟨v, rfl, ho, hb1⟩
  have hT1 := hHT.out.below (hb0.trans (hb1.mono (by simp; omega)))
  obtain ⟨awn, gn, capn, rfl, pn, hgn⟩ := own_pinF ho hT1 (fun p hp => by have := pk_szs' (hnpk p hp); omega) (by omega)
  have PO := hide (fun w' => partsOf_any (.slice awn (norO l).length capn) w' _ _ _ rfl)
  have hs1 := hb1.size
  simp only [World.size_alloc] at hs1 hgn
  have hrb : w1.heap[w.heap.size]? = some (.cells #[.slice none 0 0, .slice none 0 0] 141) := by
    rw [hb1.block w.heap.size (by simp; omega), heap_alloc2_old]
  have hfb : w1.heap[w.heap.size + 1]? = some (.cells #[.slice none 0 0, .slice none 0 0] 141) := by
    rw [hb1.block (w.heap.size + 1) (by simp), heap_alloc2_new]
  have hbw1 : Below w.heap.size w w1 := hb0.trans (hb1.mono (by simp; omega))
  clear NO ho hb0 hb1
  gi_wp2_with (refine ⟨trivial, ?_⟩; gi_at_call 50; refine (callsIn_wide.2 (PO.out _)).mono ?_; rintro e w' ⟨rfl, hw⟩; replace hw := hw.symm; subst hw)
  have hB2 : Below w1.heap.size w1 (w1.alloc (.cells #[.slice awn (norO l).length capn] 23)) := (Below.refl _ _).alloc (Nat.le_refl _) _
  have hs2 : (w1.alloc (.cells #[.slice awn (norO l).length capn] 23)).heap.size = w1.heap.size + 1 := by simp
  have hcs : (w1.alloc (.cells #[.slice awn (norO l).length capn] 23)).cell? ⟨w1.heap.size, 0, none⟩ = some (.slice awn (norO l).length capn) := by
    unfold World.cell?; rw [heap_alloc_new]; rfl
  obtain ⟨W2, hW2⟩ : ∃ W2, w1.alloc (.cells #[.slice awn (norO l).length capn] 23) = W2 := ⟨_, rfl⟩
  rw [hW2] at hB2 hs2 hcs ⊢
  clear hW2 PO
  have pin2 := pn.later hB2
  have tab2 := hT1.below hB2
  have hfb2 := (hB2.block (w.heap.size + 1) (by omega)).trans hfb
  have hrb2 := (hB2.block w.heap.size (by omega)).trans hrb
  have start : FKo (w.heap.size + 1) [] [] (.slice none 0 0) (.slice none 0 0) W2 :=
    ⟨by rw [cell_of_row _ _ _ _ _ _ hfb2]; rfl, by rw [cell_of_row _ _ _ _ _ _ hfb2]; rfl, frozen_of_row _ _ _ _ _ hfb2, frozen_of_row _ _ _ _ _ hfb2, World.ownsRow_nil _ _ _ _, World.ownsRow_nil _ _ _ _, (fun c => by cases c), (fun c => by cases c), (fun x hx => by cases hx)⟩
  have ltT := hHT.out.lt
  have ltn := pn.lt
  have hJ := fJ_held (w.heap.size + 1)
  have noF : ∀ k, k ≠ w.heap.size + 1 → ¬ FO (w.heap.size + 1) (.slice none 0 0) (.slice none 0 0) k := by
    rintro k hk (c | c | c)
    · exact hk c
    · cases c
    · cases c
  refine wpIn_range rfl (enters_of Tryd.func76 (by kernel_rfl) rfl) (parts_iter pin2 tab2 hcs) (fun _ => rfl)
    (J := (fun (pre : List Pt) => FK (w.heap.size + 1) (ftL pre))) (Jx := fun _ _ _ _ => False) (O := FO (w.heap.size + 1) (.slice none 0 0) (.slice none 0 0)) hJ (fun _ => no_held) (Nat.le_refl _)
    (by
      rintro k (rfl | rfl | rfl)
      · exact ⟨by omega, rfl, noF _ (by omega)⟩
      · exact ⟨by omega, rfl, noF _ (by rcases hgn with c | c <;> omega)⟩
      · exact ⟨by omega, rfl, noF _ (by omega)⟩)
    ⟨_, _, start, rfl⟩
    (pAx_held hJ (fun x Bx => { tmps := #[.slice aw l.length cap, undef, .pointer (some ⟨w.heap.size, 0, none⟩), .pointer (some ⟨w.heap.size + 1, 0, none⟩), .slice awn (norO l).length capn, .bool true, .int .i64 (pk x : Int), .pointer (some ⟨Bx, 0, none⟩), .tuple #[.slice awn (norO l).length capn, .bool true], .slice aw l.length cap, .tuple #[.slice awn (norO l).length capn, .bool true], .slice awn (norO l).length capn, .bool true, .slice awn (norO l).length capn, .func (.func 76) #[] #[.pointer (some ⟨w1.heap.size, 0, none⟩)], .int .i64 (pk x : Int), ptV x, undef, undef, undef, undef, undef, undef, undef, undef, undef, undef, undef, undef, undef, undef, undef, undef, undef, undef, undef, undef, undef, undef, undef, undef, undef, undef, undef], defers := [] }))
    ?assigned ?round ?done ?stop
  case assigned =>
    rintro l1 pre x O W K hj hx hK
    obtain ⟨y0, y1, y2⟩ := cells3_new W (.int .i64 x.keep) (.string x.put) (.string x.drop) 79
    simp only [ptE, ptV]
    gi_wp2
    exact hK _ _ _ ((Moves.refl _ _).alloc _) ⟨O, W.heap.size, hJ.up hj ((Below.refl _ _).alloc (Nat.le_refl _) _), fun _ => Iff.rfl, fun c => absurd (hJ.lt hj _ c) (by omega), ⟨y0, y1, y2⟩, rfl⟩
  case round =>
    rintro l1 pre x a' O W ⟨O1, Bx, ⟨vd, vp, hP, rfl⟩, hB, hnB, hbx, rfl⟩ hl1 hnl hx
    have hxm : x ∈ norO l := hx.subset (by simp)
    have hpk := hnpk x hxm
    have hpl : pre.length ≤ 60 := by have := hx.length_le; simp at this; omega
    have hfl := ft_len pre (fun p hp => hnpk p (hx.subset (by simp [hp])))
    obtain ⟨K, hK3, hK⟩ := pk_nat hpk
    have hsz := pk_szs' hpk
    have hp3 : pk x = 1 ∨ pk x = 2 ∨ pk x = 3 := by
      have := (pk_sizes hpk).2.2.2
      omega
    have hsn := ftL_snoc pre x
    obtain ⟨i4, h40, h41, h42, h43⟩ := info_parts infoBool
    obtain ⟨i3, h30, h31, h32, h33⟩ := info_parts infoInt
    obtain ⟨x0, x1, x2⟩ := hbx
    rw [hK] at x0
    have HB := hide hB
    have MV : Hid (∀ O' W', Moves (FO (w.heap.size + 1) vd vp) W O' W' → Moves O W O' W') := hide (fun O' W' m => m.wider (fun k _ c => (HB.out k).2 (.inl c)) (fun k hk c => (HB.out k).2 (.inl (m.own k hk c))))
    have ltx : Bx < W.heap.size := World.block_lt_of_cell? _ _ x0
    obtain ⟨n, hn'⟩ : ∃ n, n = K + x.drop.size := ⟨_, rfl⟩
    obtain ⟨b, hb'⟩ : ∃ b, b = decide (pk x = 3) := ⟨_, rfl⟩
    have hfd : fdP x = List.replicate n b := by unfold fdP; rw [hK, hb', hn']; simp
    unfold ftS at hsn
    rw [hfd] at hsn
    generalize ftL pre = s0 at *
    obtain ⟨d, ps⟩ := s0
    simp only at hP hfl hsn
    have hkb : ((pk x : Int) == 3) = b := by
      rw [hb', Bool.eq_iff_iff]; simp; omega
    have nx1 : vp.ownBlock ≠ some Bx := fun c => hnB (.inr (.inr c))
    have nxf : Bx ≠ w.heap.size + 1 := fun c => hnB (.inl c)
    clear hB hnl hl1 hxm hpk hfd hnB hb'
    have hwn : IntKind.i64.wrap ((K : Int) + (x.drop.size : Int)) = (n : Int) := by rw [IntKind.wrap_i64]; omega
    have hn300 : n ≤ 600 := by omega
    by_cases hq2 : pk x = 2
    · have hk2 : ((pk x : Int) == 2) = true := by rw [hq2]; rfl
      rw [if_pos hq2] at hsn
      have HE := hide hsn
      have HP := hide hP
      have e0 := hP.c0
      have e1 := hP.c1
      have f1 := hP.f1
      have lt0 := hP.lt (w.heap.size + 1) (.inl rfl)
      have ne1 := hP.np
      obtain ⟨ad, cd, ed0⟩ : ∃ ad cd, vd = .slice ad d.length cd := by
        rcases hP.od.2 with ⟨rfl, h0⟩ | ⟨g', cap', cur', rfl, -⟩
        · exact ⟨none, 0, by rw [h0]⟩
        · exact ⟨_, _, rfl⟩
      subst ed0
      clear hP hsn hq2
      gi_wp2_with (gi_at_builtin; go_loud (refine listIn_app _ rfl _ _ 81 rfl (w.heap.size + 1) 3 i3 _ 1 8 Tryd.underlying81 h30 h31 h32 h33 rfl (by omega) vp ps.length (nmS ps) rfl (HP.out.op.alloc _) ⟨W.heap.size, 0, none⟩ 1 1 [.int .i64 (d.length : Int)] rfl rfl (World.news_of_block (cs := #[.int .i64 (d.length : Int)]) (t := 3) (fr := (0, 0)) (heap_alloc_new W _)) (by simp [Value.oneCell']) (by omega) (by unfold maxLen; omega) (by omega) (by simp; omega) (W.heap.size + 1) (by simp) ?_); intro gg cap' w5 hown1 hgrow hat; go_loud (have hcz := (hgrow.cell_far ⟨w.heap.size + 1, 1, none⟩ (by simp; omega) (Ne.symm ne1)).trans (World.cell?_of_block (Below.heap_alloc W _ _ lt0) |>.trans e1); have hfz := (hgrow.frozen_far ⟨w.heap.size + 1, 1, none⟩ (by simp; omega) (Ne.symm ne1)).trans (World.frozen?_of_block (Below.heap_alloc W _ _ lt0) |>.trans f1); have hy0 : ∀ v, (w5.setCell ⟨w.heap.size + 1, 1, none⟩ v).cell? ⟨Bx, 0, none⟩ = some (.int .i64 (K : Int)) := (fun v => (World.cell?_of_block (Below.heap_setCell _ _ _ _ nxf)).trans ((hgrow.cell_far ⟨Bx, 0, none⟩ (by simp; omega) (Ne.symm nx1)).trans ((World.cell?_of_block (Below.heap_alloc W _ _ ltx)).trans x0))); have hy2 : ∀ v, (w5.setCell ⟨w.heap.size + 1, 1, none⟩ v).cell? ⟨Bx, 2, none⟩ = some (.string x.drop) := (fun v => (World.cell?_of_block (Below.heap_setCell _ _ _ _ nxf)).trans ((hgrow.cell_far ⟨Bx, 2, none⟩ (by simp; omega) (Ne.symm nx1)).trans ((World.cell?_of_block (Below.heap_alloc W _ _ ltx)).trans x2)))))
      obtain ⟨A1, A2⟩ := HP.out.put (b := d.length) hown1 (grownBy_al hgrow) (hat.imp id (fun e => by omega))
      gi_loopw [33] (fun v wr => ∃ (j : Nat) (O' : Nat → Prop), j ≤ n ∧ v = .int .i64 (j : Int) ∧ FK (w.heap.size + 1) (d ++ List.replicate j b, ps ++ [d.length]) O' wr ∧ Moves (FO (w.heap.size + 1) (.slice ad d.length cd) vp) W O' wr) (fun v _ => n - (intOf v).toNat)
      case atStart => exact ⟨0, _, by omega, rfl, ⟨_, (.slice (some ⟨gg, 0, none⟩) (ps.length + 1) cap'), by simpa using A1, rfl⟩, A2⟩
      case round =>
        obtain ⟨j, O', hj, rfl, ⟨vd1, vp1, hQ, rfl⟩, mv⟩ := hrel
        by_cases hjn : j < n
        · have hQl : (d ++ List.replicate j b).length ≤ 30000 := by simp; omega
          obtain ⟨d1, hd1⟩ : ∃ d1, d ++ List.replicate j b = d1 := ⟨_, rfl⟩
          rw [hd1] at hQ hQl
          have HD1 : Hid (d ++ List.replicate (j + 1) b = d1 ++ [b]) := hide (by rw [List.replicate_succ', ← List.append_assoc, hd1])
          have HQ := hide hQ
          have HMV := hide mv
          have e0 := hQ.c0
          have f0 := hQ.f0
          have lt0 := hQ.lt (w.heap.size + 1) (.inl rfl)
          have ne0 := hQ.nd
          clear hQ mv hd1
          gi_wp2_with (gi_at_builtin; refine listIn_app _ rfl _ _ 139 rfl (w.heap.size + 1) 4 i4 _ 1 1 Tryd.underlying139 h40 h41 h42 h43 rfl (by omega) vd1 d1.length (blS d1) rfl (HQ.out.od.alloc _) ⟨wr.heap.size, 0, none⟩ 1 1 [.bool b] rfl rfl (World.news_of_block (cs := #[.bool b]) (t := 4) (fr := (0, 0)) (heap_alloc_new wr _)) (by simp [Value.oneCell']) (by omega) (by unfold maxLen; omega) (by omega) (by simp; omega) (wr.heap.size + 1) (by simp) ?_; intro gg cap' w5 hown1 hgrow hat; have hcz := (hgrow.cell_far ⟨w.heap.size + 1, 0, none⟩ (by simp; omega) (Ne.symm ne0)).trans (World.cell?_of_block (Below.heap_alloc wr _ _ lt0) |>.trans e0); have hfz := (hgrow.frozen_far ⟨w.heap.size + 1, 0, none⟩ (by simp; omega) (Ne.symm ne0)).trans (World.frozen?_of_block (Below.heap_alloc wr _ _ lt0) |>.trans f0))
          obtain ⟨A1, A2⟩ := HQ.out.drop (b := b) hown1 (grownBy_al hgrow) (hat.imp id (fun e => by omega))
          refine ⟨⟨j + 1, _, by omega, by go_num, ⟨_, _, by rw [HD1.out]; exact A1, rfl⟩, HMV.out.trans A2⟩, by simp [intOf]; omega⟩
        · obtain rfl : j = n := by omega
          have HQ := hide hQ
          have HMV := hide mv
          clear hQ mv
          gi_wp2
          refine ⟨_, MV.out _ _ HMV.out, _, _, ?_, rfl⟩
          rw [HE.out]
          exact HQ.out
    · have hk2 : ((pk x : Int) == 2) = false := by rw [beq_eq_false_iff_ne]; omega
      rw [if_neg hq2] at hsn
      have HE := hide hsn
      have HP := hide hP
      clear hP hsn
      gi_wp2
      gi_loopw [33] (fun v wr => ∃ (j : Nat) (O' : Nat → Prop), j ≤ n ∧ v = .int .i64 (j : Int) ∧ FK (w.heap.size + 1) (d ++ List.replicate j b, ps) O' wr ∧ Moves (FO (w.heap.size + 1) vd vp) W O' wr) (fun v _ => n - (intOf v).toNat)
      case atStart => exact ⟨0, _, by omega, rfl, ⟨_, vp, by simpa using HP.out, rfl⟩, Moves.refl _ _⟩
      case round =>
        obtain ⟨j, O', hj, rfl, ⟨vd1, vp1, hQ, rfl⟩, mv⟩ := hrel
        by_cases hjn : j < n
        · have hQl : (d ++ List.replicate j b).length ≤ 30000 := by simp; omega
          obtain ⟨d1, hd1⟩ : ∃ d1, d ++ List.replicate j b = d1 := ⟨_, rfl⟩
          rw [hd1] at hQ hQl
          have HD1 : Hid (d ++ List.replicate (j + 1) b = d1 ++ [b]) := hide (by rw [List.replicate_succ', ← List.append_assoc, hd1])
          have HQ := hide hQ
          have HMV := hide mv
          have e0 := hQ.c0
          have f0 := hQ.f0
          have lt0 := hQ.lt (w.heap.size + 1) (.inl rfl)
          have ne0 := hQ.nd
          clear hQ mv hd1
          gi_wp2_with (gi_at_builtin; refine listIn_app _ rfl _ _ 139 rfl (w.heap.size + 1) 4 i4 _ 1 1 Tryd.underlying139 h40 h41 h42 h43 rfl (by omega) vd1 d1.length (blS d1) rfl (HQ.out.od.alloc _) ⟨wr.heap.size, 0, none⟩ 1 1 [.bool b] rfl rfl (World.news_of_block (cs := #[.bool b]) (t := 4) (fr := (0, 0)) (heap_alloc_new wr _)) (by simp [Value.oneCell']) (by omega) (by unfold maxLen; omega) (by omega) (by simp; omega) (wr.heap.size + 1) (by simp) ?_; intro gg cap' w5 hown1 hgrow hat; have hcz := (hgrow.cell_far ⟨w.heap.size + 1, 0, none⟩ (by simp; omega) (Ne.symm ne0)).trans (World.cell?_of_block (Below.heap_alloc wr _ _ lt0) |>.trans e0); have hfz := (hgrow.frozen_far ⟨w.heap.size + 1, 0, none⟩ (by simp; omega) (Ne.symm ne0)).trans (World.frozen?_of_block (Below.heap_alloc wr _ _ lt0) |>.trans f0))
          obtain ⟨A1, A2⟩ := HQ.out.drop (b := b) hown1 (grownBy_al hgrow) (hat.imp id (fun e => by omega))
          refine ⟨⟨j + 1, _, by omega, by go_num, ⟨_, _, by rw [HD1.out]; exact A1, rfl⟩, HMV.out.trans A2⟩, by simp [intOf]; omega⟩
        · obtain rfl : j = n := by omega
          have HQ := hide hQ
          have HMV := hide mv
          clear hQ mv
          gi_wp2
          refine ⟨_, MV.out _ _ HMV.out, _, _, ?_, rfl⟩
          rw [HE.out]
          exact HQ.out
  case done =>
    rintro D O W hD hO ⟨vd, vp, hP, rfl⟩ mv hK
    have hr := (mv.same w.heap.size (by omega) (noF _ (by omega))).trans hrb2
    have e0 := hP.c0
    have e1 := hP.c1
    have r0 := cell_of_row W w.heap.size 0 _ _ _ hr
    have r1 := cell_of_row W w.heap.size 1 _ _ _ hr
    simp only [List.getElem?_toArray, List.getElem?_cons_zero, List.getElem?_cons_succ] at r0 r1
    have z0 := frozen_of_row W w.heap.size 0 _ _ hr
    have z1 := frozen_of_row W w.heap.size 1 _ _ hr
    have hm := heap_setCell_same _ w.heap.size 1 _ _ vp (heap_setCell_same W w.heap.size 0 _ _ vd hr)
    have hDne : w.heap.size ≠ D := by omega
    have hK2 : ((W.setCell ⟨w.heap.size, 0, none⟩ vd).setCell ⟨w.heap.size, 1, none⟩ vp).heap[D]? = some (.deferred (some [])) := by
      rw [heap_setCell_other _ _ _ _ (fun e => hDne e.symm), heap_setCell_other _ _ _ _ (fun e => hDne e.symm)]; exact hK
    have hm2 : (((W.setCell ⟨w.heap.size, 0, none⟩ vd).setCell ⟨w.heap.size, 1, none⟩ vp).putObj D (.deferred none)).heap[w.heap.size]? = some (.cells #[vd, vp] 141) := by
      rw [World.putObj_heap_other hDne]; exact hm
    have k0 := cell_of_row _ w.heap.size 0 _ _ _ hm2
    have k9 := cell_of_row _ w.heap.size 1 _ _ _ hm2
    simp only [List.getElem?_toArray, List.getElem?_cons_zero, List.getElem?_cons_succ] at k0 k9
    have hld := hide (And.intro k0 k9)
    clear k0 k9
    have hsz2 := mv.size
    have bw : Below w.heap.size w (((W.setCell ⟨w.heap.size, 0, none⟩ vd).setCell ⟨w.heap.size, 1, none⟩ vp).putObj D (.deferred none)) := by
      have q1 : Below w.heap.size w W := (hbw1.trans (hB2.mono hbw1.size)).trans (mv.below (by omega) (fun k hk => noF k (by omega)))
      have q2 := (q1.setCell (p := ⟨w.heap.size, 0, none⟩) (Nat.le_refl _) vd).setCell (p := ⟨w.heap.size, 1, none⟩) (Nat.le_refl _) vp
      exact q2.trans ⟨rfl, rfl, rfl, by simp, fun k hk => World.putObj_heap_other (by omega)⟩
    have own : ∀ (v : Value) x, (v = vd ∨ v = vp) → v.ownBlock = some x → (((W.setCell ⟨w.heap.size, 0, none⟩ vd).setCell ⟨w.heap.size, 1, none⟩ vp).putObj D (.deferred none)).heap[x]? = W.heap[x]? := by
      intro v x hv hx
      have hFO : FO (w.heap.size + 1) vd vp x := by rcases hv with rfl | rfl; exact .inr (.inl hx); exact .inr (.inr hx)
      have hxD : x ≠ D := fun e => hO (e ▸ hFO)
      have hxw : x ≠ w.heap.size := by
        rcases hv with rfl | rfl
        · have := (hP.od.lt x hx).1; omega
        · have := (hP.op.lt x hx).1; omega
      rw [World.putObj_heap_other hxD, heap_setCell_other _ _ _ _ hxw, heap_setCell_other _ _ _ _ hxw]
    have HF := hide (And.intro (own_mono (own_stays hP.od (fun x hx => own vd x (.inl rfl) hx)) (Nat.le_succ _)) (And.intro (own_mono (own_stays hP.op (fun x hx => own vp x (.inr rfl) hx)) (Nat.le_succ _)) bw))
    have c1 : (W.setCell ⟨w.heap.size, 0, none⟩ vd).cell? ⟨w.heap.size, 1, none⟩ = some (.slice none 0 0) := by
      rw [cell_of_row _ _ _ _ _ _ (heap_setCell_same W w.heap.size 0 _ _ vd hr)]; rfl
    have k1 : (W.setCell ⟨w.heap.size, 0, none⟩ vd).frozen? ⟨w.heap.size, 1, none⟩ = false := frozen_of_row _ _ _ _ _ (heap_setCell_same W w.heap.size 0 _ _ vd hr)
    obtain ⟨ad, nd, cd, ed0⟩ : ∃ ad nd cd, vd = .slice ad nd cd := by
      rcases hP.od.2 with ⟨rfl, h0⟩ | ⟨g', cap', cur', rfl, -⟩
      · exact ⟨none, 0, 0, rfl⟩
      · exact ⟨_, _, _, rfl⟩
    obtain ⟨ap, np, cp, ep0⟩ : ∃ ap np cp, vp = .slice ap np cp := by
      rcases hP.op.2 with ⟨rfl, h0⟩ | ⟨g', cap', cur', rfl, -⟩
      · exact ⟨none, 0, 0, rfl⟩
      · exact ⟨_, _, _, rfl⟩
    subst ed0 ep0
    clear hP mv hr hm hm2 bw own start hfb2 hrb2 hcs pin2 tab2
    gi_wp2
    refine ⟨by simp, .inl ⟨_, _, rfl, run_takeDeferred hK2, ?_⟩⟩
    refine ⟨.agg #[.slice ad nd cd, .slice ap np cp], ?_, _, _, rfl, HF.out⟩
    obtain ⟨k0, k9⟩ := hld.out
    simp [results, Tryd.f98, go_sem, k0, k9]
  case stop =>
    rintro D c pre O W hD hO hpre hF
    exact hF.elim
end Go.Proofs.YtbooongkbninhaaDoor

set_option linter.unusedVariables false
namespace Go.Proofs.YtbooongkbninhaaDoor
open Go.RowKit Go.Shelf
open Doc1

/-- Whether the bytes ahead of a place and behind it are both dropped. -/
def around (d : List Bool) (t : Nat) : Bool := decide (0 < t) && (decide (t < d.length) && (d.getD (t - 1) false && d.getD t false))

theorem blS_at (d : List Bool) {i : Nat} (h : i < d.length) : (blS d)[i]? = some (.bool (d.getD i false)) := by
  unfold blS
  rw [List.getElem?_map, List.getElem?_eq_getElem h, List.getD_eq_getElem?_getD, List.getElem?_eq_getElem h]; rfl
theorem nmS_at (d : List Nat) {i : Nat} (h : i < d.length) : (nmS d)[i]? = some (.int .i64 (d[i] : Int)) := by
  unfold nmS
  rw [List.getElem?_map, List.getElem?_eq_getElem h]; rfl

set_option maxRecDepth 100000 in
set_option maxHeartbeats 4000000 in
theorem dropsAroundI {w : World} {B : Nat} {v vp : Value} {d : List Bool} {t : Nat} (ho : w.ownsRow B 4 1 v d.length (blS d)) (hvp : ∃ a n c, vp = .slice a n c) (hd : d.length ≤ 30000) (ht : t ≤ 30000) :
    Calls Tryd.prog 118 #[.agg #[v, vp], .int .i64 (t : Int)] w fun e w' => e = .returned (.bool (around d t)) ∧ Below w.heap.size w w' := by
  obtain ⟨a0, c0, rfl, d1, d2⟩ := own_shp ho
  obtain ⟨a1, n1, c1, rfl⟩ := hvp
  unfold around
  have hbw : Below w.heap.size w (w.alloc (.cells #[.slice a0 d.length c0, .slice a1 n1 c1] 141)) := (Below.refl _ _).alloc (Nat.le_refl _) _
  by_cases h0 : 0 < t
  · by_cases h1 : t < d.length
    · obtain ⟨g1, cp1, ev, -, -, -, -, hc1, -⟩ := own_cat (own_below ho hbw) (by omega)
      cases ev
      have q1 := hc1 (t - 1) (.bool (d.getD (t - 1) false)) (blS_at d (by omega))
      have q2 := hc1 t (.bool (d.getD t false)) (blS_at d h1)
      rw [decide_eq_true h0, decide_eq_true h1, Bool.true_and, Bool.true_and]
      generalize d.getD (t - 1) false = x at *
      generalize d.getD t false = y at *
      clear hc1 ho
      have hwp : IntKind.i64.wrap ((t : Int) - 1) = ((t - 1 : Nat) : Int) := by rw [IntKind.wrap_i64]; omega
      cases x <;> cases y
      all_goals
        go_enter Tryd.func118, Tryd.ntmps118
        go_wp2
        go_ret
        exact ⟨rfl, hbw⟩
    · rw [decide_eq_true h0, decide_eq_false h1, Bool.true_and, Bool.false_and]
      clear ho
      go_enter Tryd.func118, Tryd.ntmps118
      go_wp2
      go_ret
      exact ⟨rfl, hbw⟩
  · rw [decide_eq_false h0, Bool.false_and]
    clear ho
    go_enter Tryd.func118, Tryd.ntmps118
    go_wp2
    go_ret
    exact ⟨rfl, hbw⟩

/-- How many places lie among bytes that are dropped. -/
def wthn (d : List Bool) (ps : List Nat) : Nat := ps.countP (around d)
theorem wthn_step (d : List Bool) (ps : List Nat) {k : Nat} (h : k < ps.length) : wthn d (ps.take (k + 1)) = wthn d (ps.take k) + (if around d ps[k] = true then 1 else 0) := by
  unfold wthn
  rw [List.take_succ_eq_append_getElem h, List.countP_append, List.countP_singleton]
theorem wthn_le (d : List Bool) (ps : List Nat) (k : Nat) : wthn d (ps.take k) ≤ ps.length := by
  unfold wthn
  exact Nat.le_trans List.countP_le_length (by simp; omega)

set_option maxRecDepth 100000 in
set_option maxHeartbeats 4000000 in
theorem putsWithinI {w : World} {B B2 : Nat} {v vp vx vy : Value} {d : List Bool} {ps : List Nat} (hp : w.ownsRow B 3 1 vp ps.length (nmS ps)) (ho : w.ownsRow B2 4 1 v d.length (blS d)) (hvx : ∃ a n c, vx = .slice a n c) (hvy : ∃ a n c, vy = .slice a n c) (hd : d.length ≤ 30000) (hps : ps.length ≤ 1000) (ht : ∀ t ∈ ps, t ≤ 30000) :
    Calls Tryd.prog 99 #[.agg #[vx, vp], .agg #[v, vy]] w fun e w' => e = .returned (.int .i64 (wthn d ps : Int)) ∧ Below w.heap.size w w' := by
  have HO := hide ho
  have HP := hide hp
  obtain ⟨a0, c0, rfl, d1, d2⟩ := own_shp ho
  obtain ⟨a1, c1, rfl, d3, d4⟩ := own_shp hp
  have DA := hide (fun (w' : World) (t : Nat) (h : Below w.heap.size w w') (h2 : t ≤ 30000) => dropsAroundI (t := t) (own_below ho h) hvy hd h2)
  obtain ⟨a2, n2, c2, rfl⟩ := hvx
  obtain ⟨a3, n3, c3, rfl⟩ := hvy
  clear ho hp
  obtain ⟨w1, hw1⟩ : ∃ w1, (w.alloc (.cells #[.slice a2 n2 c2, .slice a1 ps.length c1] 141)).alloc (.cells #[.slice a0 d.length c0, .slice a3 n3 c3] 141) = w1 := ⟨_, rfl⟩
  have hb1 : Below w.heap.size w w1 := by rw [← hw1]; exact ((Below.refl _ _).alloc (Nat.le_refl _) _).alloc (by simp) _
  have hs1 : w1.heap.size = w.heap.size + 2 := by rw [← hw1]; simp
  have hx : w1.heap[w.heap.size]? = some (.cells #[.slice a2 n2 c2, .slice a1 ps.length c1] 141) := by rw [← hw1]; exact heap_alloc2_old _ _ _
  have hy : w1.heap[w.heap.size + 1]? = some (.cells #[.slice a0 d.length c0, .slice a3 n3 c3] 141) := by rw [← hw1]; exact heap_alloc2_new _ _ _
  have q1 := cell_of_row w1 w.heap.size 1 _ _ _ hx
  simp only [List.getElem?_toArray, List.getElem?_cons_zero, List.getElem?_cons_succ] at q1
  go_enter Tryd.func99, Tryd.ntmps99
  go_wp2
  clear hw1 hx q1
  go_loopw [5, 11] (fun v i wr => ∃ k : Nat, k ≤ ps.length ∧ i = .int .i64 k ∧ v = .int .i64 (wthn d (ps.take k) : Int) ∧ Below w1.heap.size w1 wr) (fun _ i _ => ps.length - (intOf i).toNat)
  case atStart => exact ⟨0, by omega, rfl, by simp [wthn], Below.refl _ _⟩
  case round =>
    obtain ⟨k, hk, rfl, rfl, hbr⟩ := hrel
    have hbw := hb1.trans (hbr.mono (by omega))
    by_cases hlt : k < ps.length
    · obtain ⟨g1, cp1, ev, -, -, -, -, hc1, -⟩ := own_cat (own_below HP.out hbw) (by omega)
      cases ev
      have e1 := hc1 k _ (nmS_at ps hlt)
      have D := hide (DA.out wr ps[k] hbw (ht _ (List.getElem_mem hlt)))
      have hst := wthn_step d ps hlt
      have hle := wthn_le d ps k
      have hyr := (hbr.block (w.heap.size + 1) (by omega)).trans hy
      have z0 := cell_of_row wr (w.heap.size + 1) 0 _ _ _ hyr
      have z1 := cell_of_row wr (w.heap.size + 1) 1 _ _ _ hyr
      simp only [List.getElem?_toArray, List.getElem?_cons_zero, List.getElem?_cons_succ] at z0 z1
      generalize ps[k] = t at *
      generalize around d t = bb at *
      generalize wthn d (ps.take k) = m at *
      have HST := hide hst
      clear hc1 hst hyr
      cases bb
      · go_wp2_with fail
        refine D.out.mono ?_
        rintro e w3 ⟨rfl, hb3⟩
        have hbz := hbr.trans (hb3.mono hbr.size)
        go_wp2
        go_roundw
        case rel => exact ⟨k + 1, by omega, by go_num, by rw [HST.out]; simp, hbz⟩
        case measure => simp [intOf]; omega
      · go_wp2_with fail
        refine D.out.mono ?_
        rintro e w3 ⟨rfl, hb3⟩
        have hbz := hbr.trans (hb3.mono hbr.size)
        go_wp2
        go_roundw
        case rel => exact ⟨k + 1, by omega, by go_num, by rw [HST.out]; simp, hbz⟩
        case measure => simp [intOf]; omega
    · obtain rfl : k = ps.length := by omega
      rw [List.take_length] at *
      go_wp2
      go_ret
      exact ⟨rfl, hbw⟩
end Go.Proofs.YtbooongkbninhaaDoor

set_option linter.unusedVariables false
namespace Go.Proofs.YtbooongkbninhaaDoor
open Go.RowKit Go.Shelf
open Doc1

theorem both_puts (l : List St) : (l.map (fun y => (z0s, y))).countP bothB = 0 := by
  rw [List.countP_eq_zero]
  intro p hp hu
  obtain ⟨y, _, rfl⟩ := List.mem_map.1 hp
  simp [bothB, z0s] at hu
theorem prC_step {ys pre : List St} {x : St} (h : PrI ys pre) (hle : ctk (pre ++ [x]) ≤ ctk ys)
    (ih : (prS ys pre).1.countP bothB = ((tkn pre).zip (tkn (ys.take (prS ys pre).2))).countP bothB) :
    (prS ys (pre ++ [x])).1.countP bothB = ((tkn (pre ++ [x])).zip (tkn (ys.take (prS ys (pre ++ [x])).2))).countP bothB := by
  by_cases hx : x.k = 2
  · have e : prS ys (pre ++ [x]) = ((prS ys pre).1 ++ [(x, z0s)], (prS ys pre).2) := by rw [prS_snoc]; unfold prT; rw [if_pos hx]
    have e2 : tkn (pre ++ [x]) = tkn pre := by rw [tkn_app]; simp [tkn, hx]
    rw [e, e2]
    simp only [List.countP_append, ih]
    have : [(x, z0s)].countP bothB = 0 := by simp [bothB, z0s]
    rw [this]; rfl
  · obtain ⟨h1, h2⟩ := pr_next h.le h.ct hx hle
    have hg : (ys.drop (prS ys pre).2).getD (nP (ys.drop (prS ys pre).2)) z0s = ys[(prS ys pre).2 + nP (ys.drop (prS ys pre).2)] := by
      rw [List.getD_eq_getElem?_getD, List.getElem?_drop, List.getElem?_eq_getElem h1]; rfl
    have e : prS ys (pre ++ [x]) = ((prS ys pre).1 ++ ((ys.drop (prS ys pre).2).take (nP (ys.drop (prS ys pre).2))).map (fun y => (z0s, y)) ++ [(x, ys[(prS ys pre).2 + nP (ys.drop (prS ys pre).2)])], (prS ys pre).2 + nP (ys.drop (prS ys pre).2) + 1) := by
      rw [prS_snoc]; unfold prT; rw [if_neg hx, hg]
    have et : ys.take ((prS ys pre).2 + nP (ys.drop (prS ys pre).2) + 1) = ys.take (prS ys pre).2 ++ ((ys.drop (prS ys pre).2).take (nP (ys.drop (prS ys pre).2)) ++ [ys[(prS ys pre).2 + nP (ys.drop (prS ys pre).2)]]) := by
      rw [List.take_succ_eq_append_getElem h1, List.take_add, List.append_assoc]
    have et2 : tkn (ys.take ((prS ys pre).2 + nP (ys.drop (prS ys pre).2) + 1)) = tkn (ys.take (prS ys pre).2) ++ [ys[(prS ys pre).2 + nP (ys.drop (prS ys pre).2)]] := by
      rw [et, tkn_app, tkn_app, tkn_puts, List.nil_append]
      simp [tkn, h2]
    have ex : tkn (pre ++ [x]) = tkn pre ++ [x] := by rw [tkn_app]; simp [tkn, hx]
    have hl : (tkn pre).length = (tkn (ys.take (prS ys pre).2)).length := by rw [tkn_len, tkn_len, h.ct]
    rw [e]
    simp only
    rw [et2, ex, List.zip_append hl, List.countP_append, List.countP_append, List.countP_append, both_puts, Nat.add_zero, ih]
    rfl
theorem prC_all (ys : List St) : ∀ (n : Nat) (pre : List St), pre.length = n → ctk pre ≤ ctk ys → (prS ys pre).1.countP bothB = ((tkn pre).zip (tkn (ys.take (prS ys pre).2))).countP bothB
  | 0, pre, h, _ => by rw [List.eq_nil_of_length_eq_zero h]; simp [prS, tkn]
  | n + 1, pre, h, hc => by
    obtain ⟨r, x, rfl⟩ : ∃ r x, pre = r ++ [x] := ⟨pre.dropLast, pre.getLast (fun c => by simp [c] at h), (List.dropLast_concat_getLast _).symm⟩
    have hc2 : ctk r ≤ ctk ys := by rw [ctk_app] at hc; omega
    exact prC_step (prI_of hc2) hc (prC_all ys n r (by simpa using h) hc2)
theorem prF_both {xs ys : List St} (h : ctk xs = ctk ys) : (prF xs ys).countP bothB = ((tkn xs).zip (tkn ys)).countP bothB := by
  have hI := prI_of (ys := ys) (pre := xs) (by omega)
  unfold prF
  rw [List.countP_append, both_puts, Nat.add_zero, prC_all ys _ xs rfl (by omega)]
  have e1 : ctk ys = ctk (ys.take (prS ys xs).2) + ctk (ys.drop (prS ys xs).2) := by rw [← ctk_app, List.take_append_drop]
  have e2 : tkn (ys.drop (prS ys xs).2) = [] := List.eq_nil_of_length_eq_zero (by rw [tkn_len]; have := hI.ct; omega)
  have e3 : tkn ys = tkn (ys.take (prS ys xs).2) := by
    have := congrArg tkn (List.take_append_drop (prS ys xs).2 ys)
    rw [tkn_app, e2, List.append_nil] at this
    exact this.symm
  rw [e3]
/-- How many bytes both drop. -/
def nz2 (p : UInt8 × UInt8) : Bool := decide (p.1 ≠ 0) && decide (p.2 ≠ 0)
theorem both_nz : ∀ (xs ys : List St), (∀ x ∈ xs, so x ∧ x.k ≠ 2) → (∀ y ∈ ys, so y ∧ y.k ≠ 2) → ((xs.map tkC).zip (ys.map tkC)).countP nz2 = (xs.zip ys).countP bothB
  | [], _, _, _ => by simp
  | _ :: _, [], _, _ => by simp
  | x :: xs, y :: ys, hx, hy => by
    have ih := both_nz xs ys (fun a ha => hx a (List.mem_cons_of_mem _ ha)) (fun a ha => hy a (List.mem_cons_of_mem _ ha))
    simp only [List.map_cons, List.zip_cons_cons, List.countP_cons]
    rw [ih]
    congr 1
    obtain ⟨⟨sx, ox⟩, nx⟩ := hx x List.mem_cons_self
    obtain ⟨⟨sy, oy⟩, ny⟩ := hy y List.mem_cons_self
    have kx : x.k = 1 ∨ x.k = 3 := by rcases sx with e | e | e <;> omega
    have ky : y.k = 1 ∨ y.k = 3 := by rcases sy with e | e | e <;> omega
    unfold nz2 bothB tkC
    rcases kx with a | a
    · simp [a]
    · have n1 := ok_ne0 (ox (by omega))
      rcases ky with b | b
      · simp [a, b]
      · have n2 := ok_ne0 (oy (by omega))
        simp [a, b, n1, n2]
theorem pairs_both {la lb : List Pt} (ha : ∀ p ∈ la, pk p ≠ 0) (hb : ∀ p ∈ lb, pk p ≠ 0) (h : ctk (stL la) = ctk (stL lb)) : (prF (stL la) (stL lb)).countP bothB = ((byL la).zip (byL lb)).countP nz2 := by
  rw [prF_both h, by_tkn ha, by_tkn hb]
  exact (both_nz _ _ (tkn_mem ha) (tkn_mem hb)).symm

/-- The model's runs of dropped bytes, numbered. -/
def rnN (n : Nat) (p : Pt) : Nat := if p.drop.size = 0 then n else n + 1
def rnP (n : Nat) (p : Pt) : List Nat := List.replicate p.keep.toNat 0 ++ List.replicate p.drop.size (rnN n p)
def rnS (s : List Nat × Nat) (p : Pt) : List Nat × Nat := (s.1 ++ rnP s.2 p, rnN s.2 p)
def rnL (l : List Pt) : List Nat × Nat := l.foldl rnS ([], 0)
theorem rnL_snoc (l : List Pt) (p : Pt) : rnL (l ++ [p]) = rnS (rnL l) p := by simp [rnL]
def rnR : Nat → List Pt → List Nat
  | _, [] => []
  | n, p :: l => rnP n p ++ rnR (rnN n p) l
theorem rnL_R (l : List Pt) : (rnL l).1 = rnR 0 l := by
  suffices H : ∀ (l : List Pt) (s : List Nat × Nat), (l.foldl rnS s).1 = s.1 ++ rnR s.2 l by simpa [rnL] using H l ([], 0)
  intro l
  induction l with
  | nil => intro s; simp [rnR]
  | cons p l ih => intro s; rw [List.foldl_cons, ih]; simp [rnS, rnR]
theorem ftL_R (l : List Pt) : (ftL l).1 = l.flatMap fdP := by
  suffices H : ∀ (l : List Pt) (s : List Bool × List Nat), (l.foldl ftS s).1 = s.1 ++ l.flatMap fdP by simpa [ftL] using H l ([], [])
  intro l
  induction l with
  | nil => intro s; simp
  | cons p l ih => intro s; rw [List.foldl_cons, ih]; simp [ftS]
theorem pk_three {p : Pt} (h : pk p ≠ 0) : (pk p = 3 ∧ p.keep.toNat = 0 ∧ p.drop.size ≠ 0 ∧ p.put.size = 0) ∨ (pk p = 2 ∧ p.keep.toNat = 0 ∧ p.drop.size = 0 ∧ p.put.size ≠ 0) ∨ (pk p = 1 ∧ p.keep.toNat ≠ 0 ∧ p.drop.size = 0 ∧ p.put.size = 0) := by
  rw [sz_list, sz_list]
  unfold pk at h ⊢
  split at h
  · rename_i hh
    rw [if_pos hh]
    exact .inr (.inr ⟨rfl, by omega, by rw [hh.2.1]; rfl, by rw [hh.1]; rfl⟩)
  · rename_i h1
    rw [if_neg h1]
    split at h
    · rename_i hh
      rw [if_pos hh]
      exact .inr (.inl ⟨rfl, by omega, by rw [hh.2.1]; rfl, fun c => hh.2.2.1 (List.eq_nil_of_length_eq_zero c)⟩)
    · rename_i h2
      rw [if_neg h2]
      split at h
      · rename_i hh
        rw [if_pos hh]
        exact .inl ⟨rfl, by omega, fun c => hh.2.2.1 (List.eq_nil_of_length_eq_zero c), by rw [hh.2.1]; rfl⟩
      · exact absurd rfl h
theorem rn_map : ∀ (l : List Pt) (n : Nat), (∀ p ∈ l, pk p ≠ 0) → (rnR n l).map (fun v => decide (0 < v)) = l.flatMap fdP
  | [], _, _ => rfl
  | p :: l, n, h => by
    rw [rnR, List.map_append, List.flatMap_cons, rn_map l _ (fun q hq => h q (List.mem_cons_of_mem _ hq))]
    congr 1
    unfold rnP fdP rnN
    rcases pk_three (h p List.mem_cons_self) with ⟨a, b, c, d⟩ | ⟨a, b, c, d⟩ | ⟨a, b, c, d⟩
    · simp [a, b, c]
    · simp [a, b, c]
    · simp [a, c]
theorem rn_run : ∀ (l : List Pt) (n : Nat), (∀ p ∈ l, pk p ≠ 0) → ND l → ∀ (i a b : Nat), (rnR n l)[i]? = some a → (rnR n l)[i + 1]? = some b → 0 < a → 0 < b → a = b
  | [], _, _, _ => fun i a b h => by simp [rnR] at h
  | p :: l, n, h, hN => by
    have ih := rn_run l (rnN n p) (fun q hq => h q (List.mem_cons_of_mem _ hq)) hN.2
    intro i a b h1 h2 ha hb
    rw [rnR] at h1 h2
    have hl : (rnP n p).length = p.keep.toNat + p.drop.size := by simp [rnP]
    rw [List.getElem?_append] at h1 h2
    rw [hl] at h1 h2
    rcases pk_three (h p List.mem_cons_self) with ⟨e1, e2, e3, e4⟩ | ⟨e1, e2, e3, e4⟩ | ⟨e1, e2, e3, e4⟩
    · have hP : rnP n p = List.replicate p.drop.size (n + 1) := by unfold rnP rnN; simp [e2, e3]
      have hr : rnN n p = n + 1 := by unfold rnN; simp [e3]
      rw [hP, e2, Nat.zero_add] at h1 h2
      by_cases c2 : i + 1 < p.drop.size
      · rw [if_pos (by omega), List.getElem?_replicate, if_pos (by omega)] at h1
        rw [if_pos c2, List.getElem?_replicate, if_pos c2] at h2
        injection h1 with h1; injection h2 with h2
        omega
      · rw [if_neg c2] at h2
        by_cases c1 : i < p.drop.size
        · exfalso
          have hz : i + 1 - p.drop.size = 0 := by omega
          rw [hz] at h2
          cases l with
          | nil => simp [rnR] at h2
          | cons q qs =>
            have hq := hN.1 (by intro c; apply e3; rw [sz_list, c]; rfl) q qs rfl
            rw [rnR] at h2
            have : q.keep.toNat ≠ 0 := by omega
            obtain ⟨m, hm⟩ : ∃ m, q.keep.toNat = m + 1 := ⟨q.keep.toNat - 1, by omega⟩
            unfold rnP at h2
            rw [hm, List.replicate_succ] at h2
            simp at h2
            omega
        · rw [if_neg c1] at h1
          exact ih (i - p.drop.size) a b h1 (by rw [← h2]; congr 1; omega) ha hb
    · have hP : rnP n p = [] := by unfold rnP; simp [e2, e3]
      rw [e2, e3, if_neg (by omega)] at h1 h2
      exact ih i a b (by simpa using h1) (by simpa using h2) ha hb
    · have hP : rnP n p = List.replicate p.keep.toNat 0 := by unfold rnP; simp [e3]
      rw [hP, e3, Nat.add_zero] at h1 h2
      by_cases c1 : i < p.keep.toNat
      · rw [if_pos c1, List.getElem?_replicate, if_pos c1] at h1
        injection h1 with h1; omega
      · rw [if_neg c1] at h1
        rw [if_neg (by omega)] at h2
        exact ih (i - p.keep.toNat) a b h1 (by rw [← h2]; congr 1; omega) ha hb
/-- Whether a place lies within one run. -/
def amid (r : List Nat) (t : Nat) : Bool := decide (0 < t) && (decide (t < r.length) && (decide (0 < r.getD (t - 1) 0) && decide (r.getD (t - 1) 0 = r.getD t 0)))
theorem amid_around {l : List Pt} (h : ∀ p ∈ l, pk p ≠ 0) (hN : ND l) (t : Nat) : around (ftL l).1 t = amid (rnL l).1 t := by
  have hm := rn_map l 0 h
  have hr := rn_run l 0 h hN
  rw [ftL_R, rnL_R, ← hm]
  generalize rnR 0 l = r at *
  unfold around amid
  rw [List.length_map]
  by_cases h0 : 0 < t
  · by_cases h1 : t < r.length
    · have a1 : r[t - 1]? = some r[t - 1] := List.getElem?_eq_getElem (by omega)
      have a2 : r[t]? = some r[t] := List.getElem?_eq_getElem h1
      have hh := hr (t - 1) r[t - 1] r[t] a1 (by rw [← a2]; congr 1; omega)
      simp only [List.getD_eq_getElem?_getD, List.getElem?_map, a1, a2, Option.map_some, Option.getD_some]
      rw [decide_eq_true h0, decide_eq_true h1]
      simp only [Bool.true_and]
      generalize r[t - 1] = x at *
      generalize r[t] = y at *
      rw [Bool.eq_iff_iff]
      simp only [Bool.and_eq_true, decide_eq_true_eq]
      constructor
      · rintro ⟨p, q⟩; exact ⟨p, hh p q⟩
      · rintro ⟨p, q⟩; exact ⟨p, by omega⟩
    · rw [decide_eq_false h1]; simp
  · rw [decide_eq_false h0]; simp
/-- The model's count of puts within runs, part by part. -/
def wmS (P : Nat → Bool) (s : Nat × Nat) (p : Pt) : Nat × Nat := (if (decide (p.put.size ≠ 0) && P s.2) = true then s.1 + 1 else s.1, s.2 + (p.keep.toNat + p.drop.size))
def wmL (P : Nat → Bool) (l : List Pt) : Nat × Nat := l.foldl (wmS P) (0, 0)
theorem wmL_snoc (P : Nat → Bool) (l : List Pt) (p : Pt) : wmL P (l ++ [p]) = wmS P (wmL P l) p := by simp [wmL]
theorem wm_count (P : Nat → Bool) (l : List Pt) (h : ∀ p ∈ l, pk p ≠ 0) : wmL P l = ((ftL l).2.countP P, (ftL l).1.length) := by
  suffices H : ∀ (l : List Pt) (s : List Bool × List Nat), (∀ p ∈ l, pk p ≠ 0) → l.foldl (wmS P) (s.2.countP P, s.1.length) = ((l.foldl ftS s).2.countP P, (l.foldl ftS s).1.length) by
    simpa [wmL, ftL] using H l ([], []) h
  intro l
  induction l with
  | nil => intro s _; rfl
  | cons p l ih =>
    intro s h
    rw [List.foldl_cons, List.foldl_cons, ← ih (ftS s p) (fun q hq => h q (List.mem_cons_of_mem _ hq))]
    congr 1
    unfold wmS ftS
    have hlen : (fdP p).length = p.keep.toNat + p.drop.size := by simp [fdP]
    rcases pk_three (h p List.mem_cons_self) with ⟨e1, e2, e3, e4⟩ | ⟨e1, e2, e3, e4⟩ | ⟨e1, e2, e3, e4⟩
    · simp [e1, e4, hlen]
    · simp only [e1, e4, if_true, ne_eq, not_false_eq_true, decide_true, Bool.true_and, List.length_append, hlen, List.countP_append, List.countP_singleton]
      by_cases c : P s.1.length = true
      · simp [c]
      · simp [c]
    · simp [e1, e4, hlen]
end Go.Proofs.YtbooongkbninhaaDoor

set_option linter.unusedVariables false
namespace Go.Proofs.YtbooongkbninhaaDoor
open Go.RowKit Go.Shelf
open Doc1

/-- How many clashes the program counts. -/
def clsN (la lb : List Pt) : Nat := wthn (ftL (norO lb)).1 (ftL (norO la)).2 + wthn (ftL (norO la)).1 (ftL (norO lb)).2 + (prF (stL la) (stL lb)).countP bothB
theorem ft_places (l : List Pt) : ∀ t ∈ (ftL l).2, t ≤ (ftL l).1.length := by
  suffices H : ∀ (l : List Pt) (s : List Bool × List Nat), (∀ t ∈ s.2, t ≤ s.1.length) → ∀ t ∈ (l.foldl ftS s).2, t ≤ (l.foldl ftS s).1.length from H l ([], []) (fun t h => by cases h)
  intro l
  induction l with
  | nil => intro s h; exact h
  | cons p l ih =>
    intro s h
    refine ih (ftS s p) (fun t ht => ?_)
    have hl : (ftS s p).1.length = s.1.length + (fdP p).length := by simp [ftS]
    unfold ftS at ht
    simp only at ht
    split at ht
    · rcases List.mem_append.1 ht with c | c
      · have := h t c; omega
      · have := List.mem_singleton.1 c; omega
    · have := h t ht; omega
theorem ft_bounds {l : List Pt} (hg : goodO l = true) : (ftL (norO l)).1.length ≤ 18000 ∧ (ftL (norO l)).2.length ≤ 60 ∧ ∀ t ∈ (ftL (norO l)).2, t ≤ 30000 := by
  have hn : goodO (norO l) = true := by
    unfold norO; rw [if_pos hg]
    have := normG hg
    rw [← this.2]; exact this.1
  have h1 := ft_len (norO l) (goodO_pk hn)
  have h2 := (goodO_le hn).1
  exact ⟨by omega, by omega, fun t ht => by have := ft_places _ t ht; omega⟩

set_option maxRecDepth 100000 in
set_option maxHeartbeats 4000000 in
theorem clashesI_bad {w : World} {aa ab : Option Addr} {ga ca gb cb : Nat} {la lb : List Pt} (ha : Pin w aa ga ca la) (hb : Pin w ab gb cb lb) (hT : Tab w) (hs : samA la lb = false) :
    Calls Tryd.prog 69 #[.slice aa la.length ca, .slice ab lb.length cb] w fun e w' => e = .returned (.tuple #[.int .i64 0, .bool false]) ∧ Below w.heap.size w w' := by
  have S := hide (sameI ha hb hT)
  rw [hs] at S
  generalize samK la lb = sk at *
  clear ha hb hT hs
  go_enter Tryd.func69, Tryd.ntmps69
  go_wp2_with fail
  refine S.out.mono ?_
  rintro e w1 ⟨rfl, hb1⟩
  go_wp2
  go_ret2
  exact ⟨rfl, hb1⟩

set_option maxRecDepth 100000 in
set_option maxHeartbeats 4000000 in
theorem clashesI {w : World} {aa ab : Option Addr} {ga ca gb cb : Nat} {la lb : List Pt} (ha : Pin w aa ga ca la) (hb : Pin w ab gb cb lb) (hT : Tab w) (hs : samA la lb = true) :
    Calls Tryd.prog 69 #[.slice aa la.length ca, .slice ab lb.length cb] w fun e w' => e = .returned (.tuple #[.int .i64 (clsN la lb : Int), .bool true]) ∧ Below w.heap.size w w' := by
  have S := hide (sameI ha hb hT)
  have hk : samK la lb = true := by unfold samA at hs; simp only [Bool.and_eq_true] at hs; exact hs.1
  rw [hs, hk] at S
  unfold samK at hk
  simp only [Bool.and_eq_true, decide_eq_true_eq] at hk
  obtain ⟨g1, g2, ht⟩ := hk
  have hct : ctk (stL la) = ctk (stL lb) := by
    have h1 := (stL_sums la (goodO_pk g1)).1
    have h2 := (stL_sums lb (goodO_pk g2)).1
    omega
  have hln := prF_len hct
  have s1 := st_len g1
  have s2 := st_len g2
  have P := hide (fun w' (h : Below w.heap.size w w') => pairsI_good (ha.later h) (hb.later h) (hT.below h) g1 g2 ht)
  have FA := hide (fun w' (h : Below w.heap.size w w') => footprintI (ha.later h) (hT.below h) g1)
  have FB := hide (fun w' (h : Below w.heap.size w w') => footprintI (hb.later h) (hT.below h) g2)
  obtain ⟨x1, x2, x3⟩ := ft_bounds g1
  obtain ⟨y1, y2, y3⟩ := ft_bounds g2
  unfold clsN
  have hF : (prF (stL la) (stL lb)).length ≤ 2000 := by omega
  have U := hide (fun p w' => bothDrop_any p w')
  clear ha hb hT hs g1 g2 ht hct hln s1 s2
  generalize prF (stL la) (stL lb) = F at *
  generalize (ftL (norO la)).1 = dA at *
  generalize (ftL (norO la)).2 = pA at *
  generalize (ftL (norO lb)).1 = dB at *
  generalize (ftL (norO lb)).2 = pB at *
  have hm1 : wthn dB pA ≤ 60 := by unfold wthn; exact Nat.le_trans List.countP_le_length x2
  have hm2 : wthn dA pB ≤ 60 := by unfold wthn; exact Nat.le_trans List.countP_le_length y2
  obtain ⟨m1, z1⟩ : ∃ m1, wthn dB pA = m1 := ⟨_, rfl⟩
  obtain ⟨m2, z2⟩ : ∃ m2, wthn dA pB = m2 := ⟨_, rfl⟩
  rw [z1] at hm1 ⊢
  rw [z2] at hm2 ⊢
  go_enter Tryd.func69, Tryd.ntmps69
  go_wp2_with fail
  refine S.out.mono ?_
  rintro e w1 ⟨rfl, hb1⟩
  go_wp2_with fail
  refine (P.out w1 hb1).mono ?_
  rintro e w2 ⟨v, rfl, ho, hb'⟩
  have hb2 := hb1.trans (hb'.mono hb1.size)
  obtain ⟨a0, c0, rfl, -, -⟩ := own_shp ho
  clear S P hb'
  go_wp2_with fail
  refine (FA.out w2 hb2).mono ?_
  rintro e w3 ⟨vdA, vpA, rfl, odA, opA, hb'⟩
  have ho3 := own_below ho hb'
  have hb3 := hb2.trans (hb'.mono hb2.size)
  clear ho hb'
  go_wp2_with fail
  refine (FB.out w3 hb3).mono ?_
  rintro e w4 ⟨vdB, vpB, rfl, odB, opB, hb'⟩
  have ho4 := own_below ho3 hb'
  have odA4 := own_below odA hb'
  have opA4 := own_below opA hb'
  have hb4 := hb3.trans (hb'.mono hb3.size)
  clear ho3 odA opA hb' FA FB hb1 hb2 hb3
  obtain ⟨aA, cA, rfl, -, -⟩ := own_shp odA4
  obtain ⟨apA, cpA, rfl, -, -⟩ := own_shp opA4
  obtain ⟨aB, cB, rfl, -, -⟩ := own_shp odB
  obtain ⟨apB, cpB, rfl, -, -⟩ := own_shp opB
  obtain ⟨W0, hW0⟩ : ∃ W0, (w4.alloc (.cells #[.slice aA dA.length cA, .slice apA pA.length cpA] 141)).alloc (.cells #[.slice aB dB.length cB, .slice apB pB.length cpB] 141) = W0 := ⟨_, rfl⟩
  have hq : Below w4.heap.size w4 W0 := by rw [← hW0]; exact ((Below.refl _ _).alloc (Nat.le_refl _) _).alloc (by simp) _
  have hz : W0.heap.size = w4.heap.size + 2 := by rw [← hW0]; simp
  have hx : W0.heap[w4.heap.size]? = some (.cells #[.slice aA dA.length cA, .slice apA pA.length cpA] 141) := by rw [← hW0]; exact heap_alloc2_old _ _ _
  have hy : W0.heap[w4.heap.size + 1]? = some (.cells #[.slice aB dB.length cB, .slice apB pB.length cpB] 141) := by rw [← hW0]; exact heap_alloc2_new _ _ _
  have CE : Hid (∀ w', Below W0.heap.size W0 w' → (w'.cell? ⟨w4.heap.size, 0, none⟩ = some (.slice aA dA.length cA) ∧ w'.cell? ⟨w4.heap.size, 1, none⟩ = some (.slice apA pA.length cpA)) ∧ w'.cell? ⟨w4.heap.size + 1, 0, none⟩ = some (.slice aB dB.length cB) ∧ w'.cell? ⟨w4.heap.size + 1, 1, none⟩ = some (.slice apB pB.length cpB)) := hide (fun w' h => by
    have e1 := (h.block w4.heap.size (by omega)).trans hx
    have e2 := (h.block (w4.heap.size + 1) (by omega)).trans hy
    refine ⟨⟨?_, ?_⟩, ?_, ?_⟩
    · rw [cell_of_row _ _ _ _ _ _ e1]; rfl
    · rw [cell_of_row _ _ _ _ _ _ e1]; rfl
    · rw [cell_of_row _ _ _ _ _ _ e2]; rfl
    · rw [cell_of_row _ _ _ _ _ _ e2]; rfl)
  have PA := hide (fun w' (h : Below W0.heap.size W0 w') => putsWithinI (own_below opA4 (hq.trans (h.mono (by omega)))) (own_below odB (hq.trans (h.mono (by omega)))) (vx := .slice aA dA.length cA) (vy := .slice apB pB.length cpB) ⟨_, _, _, rfl⟩ ⟨_, _, _, rfl⟩ (by omega) (by omega) x3)
  have PB := hide (fun w' (h : Below W0.heap.size W0 w') => putsWithinI (own_below opB (hq.trans (h.mono (by omega)))) (own_below odA4 (hq.trans (h.mono (by omega)))) (vx := .slice aB dB.length cB) (vy := .slice apA pA.length cpA) ⟨_, _, _, rfl⟩ ⟨_, _, _, rfl⟩ (by omega) (by omega) y3)
  have HO := hide (own_below ho4 hq)
  have hb5 := hb4.trans (hq.mono hb4.size)
  clear x3 y3 odA4 opA4 odB opB ho4 hx hy hq hb4
  rw [z1] at PA
  rw [z2] at PB
  have hwr : IntKind.i64.wrap ((m1 : Int) + (m2 : Int)) = ((m1 + m2 : Nat) : Int) := by rw [IntKind.wrap_i64]; omega
  go_upto_region 6 with fail
  go_cut [12] from 33 to 39 (fun v wx => v = .int .i64 ((m1 + m2 : Nat) : Int) ∧ Below W0.heap.size W0 wx)
  case first =>
    go_region_held3 (fun w' => (w'.cell? ⟨w4.heap.size, 0, none⟩ = some (.slice aA dA.length cA) ∧ w'.cell? ⟨w4.heap.size, 1, none⟩ = some (.slice apA pA.length cpA)) ∧ w'.cell? ⟨w4.heap.size + 1, 0, none⟩ = some (.slice aB dB.length cB) ∧ w'.cell? ⟨w4.heap.size + 1, 1, none⟩ = some (.slice apB pB.length cpB))
      (first | assumption | exact CE.out _ hbx2 | exact CE.out _ hbx1 | exact CE.out _ (Below.refl _ _).drew | exact CE.out _ (Below.refl _ _))
      (first
        | (go_at_call 99; refine (PB.out _ hbx1).mono ?_; rintro e wb ⟨rfl, hbb⟩; have hbx2 : Below W0.heap.size W0 wb := hbx1.trans (hbb.mono hbx1.size))
        | (go_at_call 99; refine (PA.out _ (Below.refl _ _).drew).mono ?_; rintro e wa ⟨rfl, hba⟩; have hbx1 : Below W0.heap.size W0 wa := (Below.refl _ _).drew.trans hba))
    all_goals
      go_wp2_with fail
      go_meet
      case rel => exact ⟨by first | rw [hwr] | simp, hbx2⟩
  case rest =>
  obtain ⟨rfl, hbc⟩ := hcut
  have hbw := hb5.trans (hbc.mono hb5.size)
  have HOc := hide (own_below HO.out (hbc.mono (by omega)))
  clear CE PA PB hW0 HO
  go_wp2
  go_loopw [12, 42] (fun v i wr => ∃ k : Nat, k ≤ F.length ∧ i = .int .i64 k ∧ v = .int .i64 ((m1 + m2 + (F.take k).countP bothB : Nat) : Int) ∧ Below wc.heap.size wc wr) (fun _ i _ => F.length - (intOf i).toNat)
  case atStart => exact ⟨0, by omega, rfl, by simp, Below.refl _ _⟩
  case round =>
    obtain ⟨k, hk, rfl, rfl, hbr⟩ := hrel
    by_cases hlt : k < F.length
    · obtain ⟨g, cp, ev, -, -, -, hg, hcl, -⟩ := own_cat (own_below HOc.out hbr) (by omega)
      cases ev
      obtain ⟨p0, p1, p2, p3⟩ := prC_at F k hlt
      have q0 := hcl _ _ p0
      have q1 := hcl _ _ p1
      have q2 := hcl _ _ p2
      have q3 := hcl _ _ p3
      have U1 := U.out F[k]
      unfold prA at U1
      have hst : (F.take (k + 1)).countP bothB = (F.take k).countP bothB + (if bothB F[k] = true then 1 else 0) := by rw [List.take_succ_eq_append_getElem hlt, List.countP_append, List.countP_singleton]
      have hle : (F.take k).countP bothB ≤ 2000 := Nat.le_trans List.countP_le_length (by simp; omega)
      clear hcl p0 p1 p2 p3
      have HST := hide hst
      clear hst
      generalize (F.take k).countP bothB = c at *
      cases hu : bothB F[k] with
      | true =>
        simp only [hu] at U1
        rw [hu] at HST
        have U2 := hide U1
        clear U1 hu
        go_wp2_with fail
        refine (U2.out _).mono ?_
        rintro e w7 ⟨rfl, hb7⟩
        have hbz : Below wc.heap.size wc w7 := (hbr.alloc hbr.size _).trans (hb7.mono (by simp; have := hbr.size; omega))
        clear hb7
        go_wp2
        go_roundw
        case rel => exact ⟨k + 1, by omega, by go_num, by rw [HST.out]; simp; omega, hbz⟩
        case measure => simp [intOf]; omega
      | false =>
        simp only [hu] at U1
        rw [hu] at HST
        have U2 := hide U1
        clear U1 hu
        go_wp2_with fail
        refine (U2.out _).mono ?_
        rintro e w7 ⟨rfl, hb7⟩
        have hbz : Below wc.heap.size wc w7 := (hbr.alloc hbr.size _).trans (hb7.mono (by simp; have := hbr.size; omega))
        clear hb7
        go_wp2
        go_roundw
        case rel => exact ⟨k + 1, by omega, by go_num, by rw [HST.out]; simp, hbz⟩
        case measure => simp [intOf]; omega
    · obtain rfl : k = F.length := by omega
      rw [List.take_length]
      have hbz := hbw.trans (hbr.mono hbw.size)
      go_wp2
      go_ret2
      exact ⟨rfl, hbz⟩
end Go.Proofs.YtbooongkbninhaaDoor

set_option linter.unusedVariables false
namespace Go.Proofs.YtbooongkbninhaaDoor
open Go Go.RowKit

def ns (m : Nat) : List Value := List.replicate m (Value.int .i64 0)
theorem ns_cells (m : Nat) : Builtin.zeroCells (Value.int .i64 0).cells m = (ns m).toArray := by
  apply Array.ext
  · simp [Builtin.zeroCells, ns, Value.cells]
  · intro i h1 h2
    simp [Builtin.zeroCells, ns, Value.cells, Nat.mod_one]
theorem ns_len (m : Nat) : (ns m).length = m := by simp [ns]
/-- A row that is laid anew, with room behind it, is owned. -/
theorem fresh_owns {w : World} {base c n m : Nat} {e : TypeId} {xs ys zs : List Value} (hb : base ≤ w.heap.size) (h1 : xs.length = n) (h2 : ys.length = m) (h3 : n + m + zs.length = c) (h4 : c ≤ maxLen) :
    (w.drew.alloc (.cells (xs ++ (ys ++ zs)).toArray e)).ownsRow base e 1 (.slice (some ⟨w.heap.size, 0, none⟩) (n + m) c) (n + m) (xs ++ ys) := by
  refine ⟨by simp; omega, .inr ⟨_, c, _, rfl, hb, heap_alloc_new w.drew _, by omega, h4, by simp; omega, ?_⟩⟩
  rw [Nat.mul_one, ← List.append_assoc]
  exact List.take_left' (by simp; omega)
/-- A row with room is owned when the room is written. -/
theorem room_owns {w : World} {base c n m g : Nat} {e : TypeId} {cur : Array Value} {fz : Nat × Nat} {ys : List Value} (hb : base ≤ g) (hg : w.heap[g]? = some (.cells cur e (0, 0))) (h2 : ys.length = m) (h3 : n + m ≤ c) (h4 : c ≤ maxLen) (h5 : cur.size = c) :
    (w.setRow g (cur.toList.take n ++ ys ++ cur.toList.drop (n + m)).toArray).ownsRow base e 1 (.slice (some ⟨g, 0, none⟩) (n + m) c) (n + m) (cur.toList.take n ++ ys) := by
  refine ⟨by simp; omega, .inr ⟨g, c, _, rfl, hb, setRow_heap w g cur _ e _ hg, h3, h4, by simp; omega, ?_⟩⟩
  rw [Nat.mul_one]
  exact List.take_left' (by simp; omega)
theorem run_noughts {P : Program} (w : World) (base : Nat) (t k ty e : TypeId) (i : TypeInfo) (ht : P.underlying t = some (.slice e)) (hk : P.underlying k = some (.int .i64)) (hi : P.info? e = some i) (hz : i.zero = some (.int .i64 0)) (hsize : i.size = 1) (hby : i.bytes = 8)
    (v : Value) (n : Nat) (xs : List Value) (hown : w.ownsRow base e 1 v n xs) (m : Nat) (hn : n ≤ 1000000) (hm : m ≤ 1000000) (hbase : base ≤ w.heap.size) :
    ∃ v' w', (Builtin.append_ #[t, k] ty #[v, .int .i64 m]).run P w = .ok v' w' ∧ w'.ownsRow base e 1 v' (n + m) (xs ++ ns m) ∧ w.grownBy w' v.ownBlock := by
  have lx : xs.length = n := hown.1.trans (Nat.mul_one n)
  have lm := ns_len m
  have wm : IntKind.i64.wrap (m : Int) = m := by rw [IntKind.wrap_i64]; omega
  have b1 : ¬ ((m : Int) < 0) := by omega
  have b2 : ¬ (281474976710656 < (m : Int) * 8) := by omega
  have b3 : ¬ (9223372036854775807 < ((n : Int) + (m : Int))) := by omega
  have am : ∀ (x : Int) (W : World), (asInt (.int .i64 x)).run P W = .ok x W := fun x W => by simp [asInt, asIntOf]
  obtain ⟨b, cap, rfl, hlc, hlm⟩ := own_shp hown
  by_cases h0 : m = 0
  · subst h0
    refine ⟨.slice b n cap, w, ?_, by simpa [ns] using hown, grown_self _ _⟩
    have w0 : IntKind.i64.wrap 0 = 0 := by decide
    simp [Builtin.append_, run_underlying ht, run_underlying hk, sizeOf, typeInfo, hi, hsize, hby, Builtin.lenOf, am, w0, hlc]
    cases b <;> simp [storeCells]
  · have fits : ∀ old, old < n + m → ¬ (281474976710656 < Builtin.nextslicecap (n + m) old * 8) := fun old ho => by
      have := growslice_fits (need := n + m) (old := old) (bytes := 8) ho (by omega)
      omega
    have anew : ∀ old, old < n + m → ∀ (row : Option Nat), (w.drew.alloc (.cells (xs ++ (ns m ++ ns (grownCap w (n + m) old e - (n + m)))).toArray e)).ownsRow base e 1 (.slice (some ⟨w.heap.size, 0, none⟩) (n + m) (grownCap w (n + m) old e)) (n + m) (xs ++ ns m) ∧
        w.grownBy (w.drew.alloc (.cells (xs ++ (ns m ++ ns (grownCap w (n + m) old e - (n + m)))).toArray e)) row := fun old ho row => by
      have c1 := grownCap_ge w (n + m) old e
      have c2 := grownCap_le_maxLen w (n + m) old e (by unfold maxLen; omega)
      exact ⟨fresh_owns hbase lx lm (by rw [ns_len]; omega) c2, ⟨rfl, rfl, rfl, by simp, fun _ hl _ => heap_alloc_old w.drew _ hl⟩⟩
    by_cases hr : n + m ≤ cap
    · rcases hown.2 with ⟨c, n0⟩ | ⟨g, cap', cur, c, hbg, hg, -, -, hcs, hxs⟩
      · injection c with _ _ c; omega
      · injection c with c1 _ c2
        subst c1 c2
        rw [Nat.mul_one] at hcs hxs
        have put := run_storeCells_at P g n e (ns m) 0 cur w hg (by rw [lm]; omega) (fun u hu => by rw [List.eq_of_mem_replicate hu]; rfl)
        simp only [Nat.add_zero, lm] at put
        have own := room_owns (fz := (0, 0)) hbg hg lm hr hlm hcs
        rw [hxs] at own put
        refine ⟨.slice (some ⟨g, 0, none⟩) (n + m) cap, _, ?_, own, ⟨rfl, rfl, rfl, by simp, fun j _ hj => setRow_other w g j _ (fun e => hj (by rw [e]; rfl))⟩⟩
        simp [Builtin.append_, run_underlying ht, run_underlying hk, sizeOf, typeInfo, zeroValue, hi, hz, hsize, hby, Builtin.lenOf, am, wm, b1, b2, hr, h0, ns_cells, Addr.add_lit, put]
    · obtain ⟨own, gr⟩ := anew cap (by omega) (Value.slice b n cap).ownBlock
      refine ⟨_, _, ?_, own, gr⟩
      have f8 := fits cap (by omega)
      cases b with
      | none =>
        have e0 : n = 0 ∧ cap = 0 := by
          rcases hown.2 with ⟨c, n0⟩ | ⟨g, cap', cur, c, -⟩
          · injection c with _ _ c; exact ⟨n0, c⟩
          · injection c with c; cases c
        obtain ⟨rfl, rfl⟩ := e0
        obtain rfl := List.eq_nil_of_length_eq_zero lx
        have b4 : ¬ (9223372036854775807 < (m : Int)) := by omega
        rw [Nat.zero_add] at f8
        simp [Builtin.append_, run_underlying ht, run_underlying hk, sizeOf, typeInfo, zeroValue, hi, hz, hsize, hby, Builtin.lenOf, Builtin.firstCells, am, wm, b1, b2, h0, b4, f8, Question.forced, newRow, grownCap, ns_cells]
      | some a =>
        have old : ∀ j u, xs[j]? = some u → w.cell? (a.add j) = some u := by
          rcases hown.2 with ⟨c, -⟩ | ⟨g, cap', cur, c, -⟩
          · injection c with c; cases c
          · injection c with c; injection c with c; subst c; exact fun j u hu => hown.cells rfl j u hu
        have read := run_firstCells_some (P := P) w.drew 1 n a n cap xs (by omega) (by simpa using old)
        simp [Builtin.append_, run_underlying ht, run_underlying hk, sizeOf, typeInfo, zeroValue, hi, hz, hsize, hby, Builtin.lenOf, am, wm, b1, b2, hr, h0, b3, f8, Question.forced, read, newRow, grownCap, ns_cells]
theorem wpList_noughts {P : Program} (w : World) {ops : Array Oper} {rest : List Oper} {o : Oper} {a : Act} {Q : Exit → Act → World → Prop} (hgd : o.guard = none) (sl x : Operand) (t k : TypeId)
    (ho : o.op = .call { callee := .builtin .append, args := #[sl, x], argTypes := #[t, k] }) (base : Nat) (e : TypeId) (i : TypeInfo)
    (ht : P.underlying t = some (.slice e)) (hk : P.underlying k = some (.int .i64)) (hi : P.info? e = some i) (hz : i.zero = some (.int .i64 0)) (hsize : i.size = 1) (hby : i.bytes = 8)
    (v : Value) (n : Nat) (xs : List Value) (hs : a.eval sl = v) (hown : w.ownsRow base e 1 v n xs) (m : Nat) (hx : a.eval x = .int .i64 m) (hn : n ≤ 1000000) (hm : m ≤ 1000000) (hbase : base ≤ w.heap.size)
    (h : ∀ v' w', w'.ownsRow base e 1 v' (n + m) (xs ++ ns m) → w.grownBy w' v.ownBlock → wpList P ops Q rest (a.put o.dst v') w') : wpList P ops Q (o :: rest) a w := by
  obtain ⟨v', w', hr, h2, h3⟩ := run_noughts (P := P) w base t k o.type e i ht hk hi hz hsize hby v n xs hown m hn hm hbase
  refine wpList_plain hgd fun K hK => ?_
  unfold Oper.wp execOp
  simp only [ho, resolve, invoke, builtin, Sem.run_bind, Sem.run_pure, Result.andThen_ok, List.map_toArray, List.map_cons, List.map_nil, hs, hx, hr]
  exact hK _ _ (h v' w' h2 h3)
end Go.Proofs.YtbooongkbninhaaDoor

set_option linter.unusedVariables false
namespace Go.Proofs.YtbooongkbninhaaDoor
open Go.RowKit Go.Shelf
open Doc1

theorem own_not {w : World} {B n bp : Nat} {v : Value} {xs : List Value} {cs : Array Value} {fz : Nat × Nat} (h : w.ownsRow B 3 1 v n xs) (hb : w.heap[bp]? = some (.cells cs 79 fz)) : v.ownBlock ≠ some bp := by
  intro e
  rcases h.2 with ⟨rfl, -⟩ | ⟨g, cap, cur, rfl, -, hg, -⟩
  · cases e
  · have : g = bp := by have e2 : some g = some bp := e; injection e2
    subst this
    rw [hg] at hb
    injection hb with hb
    injection hb with _ c _
    exact absurd c (by decide)
theorem ba_ne {b : ByteArray} (h : ¬ b.size = 0) : b.toList.isEmpty = false := by
  rw [ByteArray.toList_eq, List.isEmpty_eq_false_iff]
  intro c
  exact h (by rw [sz_list, c]; rfl)
theorem ba_eq {b : ByteArray} (h : b.size = 0) : b.toList.isEmpty = true := by
  rw [ByteArray.toList_eq, List.isEmpty_iff]
  exact List.eq_nil_of_length_eq_zero (by rw [← sz_list]; exact h)
def PtB (W : World) (b m : Nat) (p : Pt) : Prop := W.heap[b]? = some (.cells #[.int .i64 (m : Int), .string p.put, .string p.drop] 79)
theorem ns_nm (m : Nat) : ns m = nmS (List.replicate m 0) := by simp [ns, nmS]
theorem nmS_app (a b : List Nat) : nmS (a ++ b) = nmS a ++ nmS b := by simp [nmS]
theorem own_as {w : World} {B n n' : Nat} {v : Value} {xs ys : List Value} (h : w.ownsRow B 3 1 v n xs) (hn : n = n') (hx : xs = ys) : w.ownsRow B 3 1 v n' ys := by subst hn; subst hx; exact h
theorem rn_len (l : List Pt) (h : ∀ p ∈ l, pk p ≠ 0) : (rnL l).1.length ≤ 300 * l.length ∧ (rnL l).2 ≤ l.length := by
  suffices H : ∀ (l : List Pt) (s : List Nat × Nat), (∀ p ∈ l, pk p ≠ 0) → (l.foldl rnS s).1.length ≤ s.1.length + 300 * l.length ∧ (l.foldl rnS s).2 ≤ s.2 + l.length by
    have := H l ([], 0) h
    simpa [rnL] using this
  intro l
  induction l with
  | nil => intro s _; simp
  | cons p l ih =>
    intro s h
    have h1 := ih (rnS s p) (fun q hq => h q (by simp [hq]))
    have h2 := (pk_bd (h p (by simp))).1
    obtain ⟨K, hK, hk⟩ := pk_nat (h p (by simp))
    unfold tk1 at h2
    have e1 : (rnS s p).1.length = s.1.length + (p.keep.toNat + p.drop.size) := by simp [rnS, rnP]
    have e2 : (rnS s p).2 ≤ s.2 + 1 := by unfold rnS rnN; simp only; split <;> omega
    rw [List.foldl_cons, List.length_cons]
    omega

set_option maxRecDepth 100000 in
set_option maxHeartbeats 4000000 in
theorem l4Runs_any {w : World} {aw : Option Addr} {g cap : Nat} {l : List Pt} (h : Pin w aw g cap l) (hg : goodO l = true) :
    Calls Tryd.prog 108 #[.slice aw l.length cap] w fun e w' => ∃ v, e = .returned v ∧ w'.ownsRow w.heap.size 3 1 v (rnL (normL l)).1.length (nmS (rnL (normL l)).1) ∧ Below w.heap.size w w' := by
  have hpk := goodO_pk hg
  obtain ⟨h60, ht, hm⟩ := goodO_le hg
  obtain ⟨ng, nt, nm⟩ := norm_goodO hg
  have npk := goodO_pk ng
  obtain ⟨n60, -, -⟩ := goodO_le ng
  have NM := hide (l3Normal_any h h60 hpk)
  have NPK := hide npk
  obtain ⟨i0, hi0, hz0, hz1, hz2⟩ := info_parts infoInt
  clear h hpk npk hg ng nt nm ht hm
  generalize hq : normL l = q at *
  clear hq
  go_enter Tryd.func108, Tryd.ntmps108
  go_wp2_with fail
  refine NM.out.mono ?_
  rintro e w1 ⟨v, rfl, own, hb1⟩
  clear NM
  have HO := hide own
  unfold POwn at own
  obtain ⟨a0, cap0, rfl, hc1, hc2⟩ := own_shp own
  clear own
  go_wp2
  go_loopw [3, 4, 11] (fun o n x wr => ∃ k : Nat, k ≤ q.length ∧ x = .int .i64 k ∧ n = .int .i64 ((rnL (q.take k)).2 : Int) ∧ wr.ownsRow w1.heap.size 3 1 o (rnL (q.take k)).1.length (nmS (rnL (q.take k)).1) ∧ Below w1.heap.size w1 wr) (fun _ _ x _ => q.length - (intOf x).toNat)
  case atStart => exact ⟨0, by omega, rfl, rfl, World.ownsRow_nil _ _ _ _, Below.refl _ _⟩
  case round =>
    obtain ⟨k, hk, rfl, rfl, hown, hbw⟩ := hrel
    obtain ⟨wo, rfl⟩ : ∃ wo, wo = wr := ⟨_, rfl⟩
    by_cases hlt : k < q.length
    · obtain ⟨gq', cq, ev, -, -, -, hgl, hcl, -⟩ := own_cat HO.out (by omega)
      cases ev
      obtain ⟨c0, c1, c2⟩ := (hcl.later hbw hgl).ptat k hlt
      have hpk := NPK.out q[k] (List.getElem_mem hlt)
      have hl := rn_len (q.take k) (fun p hp => NPK.out p (List.mem_of_mem_take hp))
      have hl1 : (q.take k).length ≤ 60 := by rw [List.length_take]; omega
      have hS : Hid (rnL (q.take (k + 1)) = rnS (rnL (q.take k)) q[k]) := hide (by rw [List.take_succ_eq_append_getElem hlt, rnL_snoc])
      obtain ⟨m, hm3, hm⟩ := pk_nat hpk
      have hsz := pk_szs' hpk
      obtain ⟨R, n0, hR⟩ : ∃ R n0, rnL (q.take k) = (R, n0) := ⟨_, _, rfl⟩
      rw [hR] at hown hl hS ⊢
      simp only at hown hl ⊢
      have hRl : R.length ≤ 18000 := by omega
      have hn0 : n0 ≤ 60 := by omega
      clear hl hcl hpk hR hl1
      generalize q[k] = p at *
      rw [hm] at c0
      have hb : (wo.alloc (.cells #[.int .i64 (m : Int), .string p.put, .string p.drop] 79)).heap[wo.heap.size]? = some (.cells #[.int .i64 (m : Int), .string p.put, .string p.drop] 79) := heap_alloc_new _ _
      have o2 := hown.alloc (.cells #[.int .i64 (m : Int), .string p.put, .string p.drop] 79)
      have ha := hbw.alloc hbw.size (.cells #[.int .i64 (m : Int), .string p.put, .string p.drop] 79)
      obtain ⟨av, cv, rfl, -, -⟩ := own_shp o2
      have hne := own_not o2 hb
      clear hown
      go_wp2_with (at_builtin; refine wpList_noughts _ rfl _ _ 81 3 rfl w1.heap.size 3 i0 Tryd.underlying81 Tryd.underlying3 hi0 hz0 hz1 hz2 _ _ _ rfl o2 m rfl (by omega) (by omega) ha.size ?_)
      intro v2 w2 own2 hg2
      have hb2 := below_owned ha o2 ha.size hg2
      have hp2 := (hg2.block wo.heap.size (by simp) (fun e => hne e.symm)).trans hb
      rw [ns_nm, ← nmS_app] at own2
      have d2 := cell_of_row w2 wo.heap.size 2 _ _ _ hp2
      simp only [List.getElem?_toArray, List.getElem?_cons_zero, List.getElem?_cons_succ] at d2
      clear hg2 o2 ha hb hne
      obtain ⟨a2, cap2, rfl, -, -⟩ := own_shp own2
      obtain ⟨n1, hn1⟩ : ∃ n1, n1 = rnN n0 p := ⟨_, rfl⟩
      have hS2 : Hid (rnL (q.take (k + 1)) = (R ++ List.replicate m 0 ++ List.replicate p.drop.size n1, n1)) := hide (by rw [hS.out]; unfold rnS rnP; simp [hm, hn1])
      clear hS
      by_cases hd : p.drop.size = 0
      · have hbe : p.drop.toList.isEmpty = true := ba_eq hd
        have hn : n1 = n0 := by rw [hn1]; unfold rnN; rw [if_pos hd]
        subst hn
        clear hn1
        go_wp2
        go_loopw [3, 7] (fun o x wr => ∃ j : Nat, j ≤ p.drop.size ∧ x = .int .i64 j ∧ wr.ownsRow w1.heap.size 3 1 o (R ++ List.replicate m 0 ++ List.replicate j n1).length (nmS (R ++ List.replicate m 0 ++ List.replicate j n1)) ∧ Below w1.heap.size w1 wr ∧ PtB wr wo.heap.size m p) (fun _ x _ => p.drop.size - (intOf x).toNat)
        case atStart => exact ⟨0, by omega, rfl, own_as own2 (by simp) (by simp), hb2, hp2⟩
        case round =>
          obtain ⟨j, hj, rfl, ho5, hb5, hp5⟩ := hrel
          unfold PtB at hp5
          have d5 := cell_of_row wr wo.heap.size 2 _ _ _ hp5
          simp only [List.getElem?_toArray, List.getElem?_cons_zero, List.getElem?_cons_succ] at d5
          by_cases hjl : j < p.drop.size
          · exact absurd hjl (by omega)
          · obtain rfl : j = p.drop.size := by omega
            go_wp2
            go_roundw
            case rel => exact ⟨k + 1, by omega, by go_num, by rw [hS2.out], own_as ho5 (by rw [hS2.out]) (by rw [hS2.out]), hb5⟩
            case measure => simp [intOf]; omega
      · have hbe : p.drop.toList.isEmpty = false := ba_ne hd
        have hn : n1 = n0 + 1 := by rw [hn1]; unfold rnN; rw [if_neg hd]
        clear hn1
        subst hn
        go_wp2
        go_loopw [3, 7] (fun o x wr => ∃ j : Nat, j ≤ p.drop.size ∧ x = .int .i64 j ∧ wr.ownsRow w1.heap.size 3 1 o (R ++ List.replicate m 0 ++ List.replicate j (n0 + 1)).length (nmS (R ++ List.replicate m 0 ++ List.replicate j (n0 + 1))) ∧ Below w1.heap.size w1 wr ∧ PtB wr wo.heap.size m p) (fun _ x _ => p.drop.size - (intOf x).toNat)
        case atStart => exact ⟨0, by omega, rfl, own_as own2 (by simp) (by simp), hb2, hp2⟩
        case round =>
          obtain ⟨j, hj, rfl, ho5, hb5, hp5⟩ := hrel
          unfold PtB at hp5
          have d5 := cell_of_row wr wo.heap.size 2 _ _ _ hp5
          simp only [List.getElem?_toArray, List.getElem?_cons_zero, List.getElem?_cons_succ] at d5
          by_cases hjl : j < p.drop.size
          · obtain ⟨a5, c5, rfl, -, -⟩ := own_shp ho5
            have hlen5 : (R ++ List.replicate m 0 ++ List.replicate j (n0 + 1)).length ≤ 20000 := by simp; omega
            have HJ : Hid (R ++ List.replicate m 0 ++ List.replicate (j + 1) (n0 + 1) = (R ++ List.replicate m 0 ++ List.replicate j (n0 + 1)) ++ [n0 + 1]) := hide (by rw [List.replicate_succ']; simp)
            generalize R ++ List.replicate m 0 ++ List.replicate j (n0 + 1) = S at *
            have hne5 := own_not ho5 hp5
            have ha5 := hb5.alloc hb5.size (.cells #[.int .i64 ((n0 : Int) + 1)] 3)
            have lt5 : wo.heap.size < wr.heap.size := (Array.getElem?_eq_some_iff.1 hp5).1
            go_wp2_with (at_builtin; refine wpList_append_own _ rfl _ _ 81 rfl w1.heap.size 3 i0 (.int .i64 0) 1 8 Tryd.underlying81 hi0 hz0 hz1 hz2 rfl (by decide) _ _ _ rfl (ho5.alloc _) ⟨wr.heap.size, 0, none⟩ 1 1 [.int .i64 ((n0 : Int) + 1)] rfl rfl (World.news_of_block (cs := #[.int .i64 ((n0 : Int) + 1)]) (t := 3) (fr := (0, 0)) (heap_alloc_new wr _)) (by simp [Value.oneCell']) (by unfold maxLen; omega) (by omega) ha5.size ?_)
            intro v6 w6 own6 hg6 _
            have hb6 := below_owned ha5 (ho5.alloc _) ha5.size hg6
            have hp6 := (hg6.block wo.heap.size (by simp; omega) (fun e => hne5 e.symm)).trans ((Below.heap_alloc wr _ _ lt5).trans hp5)
            clear hg6 ha5 ho5 hb5 hp5 d5
            go_wp2
            go_roundw
            case rel => exact ⟨j + 1, by omega, by go_num, own_as own6 (by rw [HJ.out]; simp) (by rw [HJ.out, nmS_snoc]; simp), hb6, hp6⟩
            case measure => simp [intOf]; omega
          · obtain rfl : j = p.drop.size := by omega
            go_wp2
            go_roundw
            case rel => exact ⟨k + 1, by omega, by go_num, by rw [hS2.out]; simp, own_as ho5 (by rw [hS2.out]) (by rw [hS2.out]), hb5⟩
            case measure => simp [intOf]; omega
    · obtain rfl : k = q.length := by omega
      rw [List.take_length] at hown
      have hbz := hb1.trans (hbw.mono hb1.size)
      go_wp2
      go_ret
      exact ⟨_, rfl, own_mono hown hb1.size, hbz⟩
end Go.Proofs.YtbooongkbninhaaDoor

set_option linter.unusedVariables false
namespace Go.Proofs.YtbooongkbninhaaDoor
open Go.RowKit Go.Shelf
open Doc1

theorem rn_by : ∀ (l : List Pt) (n : Nat), (rnR n l).length = (byL l).length
  | [], _ => rfl
  | p :: l, n => by
    rw [rnR, byL_cons, List.length_append, List.length_append, rn_by l]
    have : (rnP n p).length = p.keep.toNat + p.drop.size := by simp [rnP]
    rw [this, List.length_append, List.length_replicate, sz_list]
theorem rn_size {l : List Pt} (hg : goodO l = true) : (rnL (normL l)).1.length = (byL l).length := by
  obtain ⟨ng, nt, -⟩ := norm_goodO hg
  have h1 := byL_len (normL l) (goodO_pk ng)
  have h2 := byL_len l (goodO_pk hg)
  rw [rnL_R, rn_by]
  omega
theorem wm_le (P : Nat → Bool) (l : List Pt) (h : ∀ p ∈ l, pk p ≠ 0) : (wmL P l).1 ≤ l.length ∧ (wmL P l).2 ≤ 300 * l.length := by
  rw [wm_count P l h]
  have := ft_len l h
  exact ⟨Nat.le_trans List.countP_le_length this.2, this.1⟩

set_option maxRecDepth 100000 in
set_option maxHeartbeats 4000000 in
theorem l4Within_any {w : World} {aa ab : Option Addr} {ga ca gb cb : Nat} {la lb : List Pt} (ha : Pin w aa ga ca la) (hb : Pin w ab gb cb lb) (g1 : goodO la = true) (g2 : goodO lb = true) :
    Calls Tryd.prog 90 #[.slice aa la.length ca, .slice ab lb.length cb] w fun e w' => e = .returned (.int .i64 ((wmL (amid (rnL (normL lb)).1) (normL la)).1 : Int)) ∧ Below w.heap.size w w' := by
  obtain ⟨ng, -, -⟩ := norm_goodO g1
  have NPK := hide (goodO_pk ng)
  have n60 := (goodO_le ng).1
  have B := hide (l4Bytes_any hb (goodO_le g2).1 (goodO_pk g2))
  have Rn := hide (fun w' (h : Below w.heap.size w w') => l4Runs_any (hb.later h) g2)
  have NM := hide (fun w' (h : Below w.heap.size w w') => l3Normal_any (ha.later h) (goodO_le g1).1 (goodO_pk g1))
  have hsz := rn_size g2
  have hbd := (all_bd lb (goodO_pk g2)).1
  rw [← byL_len lb (goodO_pk g2)] at hbd
  have hl6 := (goodO_le g2).1
  have hN : (byL lb).length ≤ 18000 := by omega
  clear ha hb g1 g2 ng hbd hl6
  generalize normL la = q at *
  generalize (rnL (normL lb)).1 = r at *
  generalize byL lb = by_ at *
  go_enter Tryd.func90, Tryd.ntmps90
  go_wp2_with fail
  refine B.out.mono ?_
  rintro e w1 ⟨v1, rfl, o1, hb1⟩
  obtain ⟨a1, c1, rfl, -, -⟩ := own_shp o1
  go_wp2_with fail
  refine (Rn.out w1 hb1).mono ?_
  rintro e w2 ⟨v2, rfl, o2, hb'⟩
  have hb2 := hb1.trans (hb'.mono hb1.size)
  have HR := hide o2
  obtain ⟨a2, c2, rfl, -, -⟩ := own_shp o2
  clear o2 o1 hb'
  go_wp2_with fail
  refine (NM.out w2 hb2).mono ?_
  rintro e w3 ⟨v3, rfl, own, hb'⟩
  have hb3 := hb2.trans (hb'.mono hb2.size)
  have HR3 := hide (own_below HR.out hb')
  have HO := hide own
  unfold POwn at own
  obtain ⟨a0, cap0, rfl, hc1, hc2⟩ := own_shp own
  clear own hb' HR B Rn NM
  go_wp2
  go_loopw [7, 8, 18] (fun n t x wr => ∃ k : Nat, k ≤ q.length ∧ x = .int .i64 k ∧ n = .int .i64 ((wmL (amid r) (q.take k)).1 : Int) ∧ t = .int .i64 ((wmL (amid r) (q.take k)).2 : Int) ∧ Below w3.heap.size w3 wr) (fun _ _ x _ => q.length - (intOf x).toNat)
  case atStart => exact ⟨0, by omega, rfl, rfl, rfl, Below.refl _ _⟩
  case round =>
    obtain ⟨k, hk, rfl, rfl, rfl, hbw⟩ := hrel
    by_cases hlt : k < q.length
    · obtain ⟨gq', cq, ev, -, -, -, hgl, hcl, -⟩ := own_cat HO.out (by omega)
      cases ev
      obtain ⟨z0, z1, z2⟩ := (hcl.later hbw hgl).ptat k hlt
      have hpk := NPK.out q[k] (List.getElem_mem hlt)
      have hl := wm_le (amid r) (q.take k) (fun p hp => NPK.out p (List.mem_of_mem_take hp))
      have hl1 : (q.take k).length ≤ 60 := by rw [List.length_take]; omega
      have hS : Hid (wmL (amid r) (q.take (k + 1)) = wmS (amid r) (wmL (amid r) (q.take k)) q[k]) := hide (by rw [List.take_succ_eq_append_getElem hlt, wmL_snoc])
      obtain ⟨m, hm3, hm⟩ := pk_nat hpk
      have hszp := pk_szs' hpk
      obtain ⟨n, t, hR⟩ : ∃ n t, wmL (amid r) (q.take k) = (n, t) := ⟨_, _, rfl⟩
      rw [hR] at hl hS ⊢
      simp only at hl ⊢
      have hn6 : n ≤ 60 := by omega
      have ht : t ≤ 18000 := by omega
      clear hl hcl hpk hR hl1
      generalize q[k] = p at *
      rw [hm] at z0
      have hz := hbw.alloc hbw.size (.cells #[.int .i64 (m : Int), .string p.put, .string p.drop] 79)
      have HZ := hide hz
      clear hz
      unfold wmS at hS
      rw [hm, Int.toNat_natCast] at hS
      simp only at hS
      by_cases hp : p.put.size = 0
      · have hbe := ba_eq hp
        have hS2 : Hid (wmL (amid r) (q.take (k + 1)) = (n, t + (m + p.drop.size))) := hide (by rw [hS.out]; simp [hp])
        clear hS hp hm
        go_wp2_with fail
        go_quiet (fail)
        go_wp2
        refine ⟨⟨k + 1, by omega, by go_num, by rw [hS2.out], by rw [hS2.out]; simp, HZ.out.trans ⟨rfl, rfl, rfl, Nat.le_refl _, fun _ _ => rfl⟩⟩, by simp [intOf]; omega⟩
      · have hbe := ba_ne hp
        have hS1 : Hid (wmL (amid r) (q.take (k + 1)) = (if amid r t = true then n + 1 else n, t + (m + p.drop.size))) := hide (by rw [hS.out]; simp [hp])
        clear hS hp hm
        by_cases h0 : 0 < t
        · have hi0 : (0 : Int) < (t : Int) := by omega
          by_cases h1 : t < by_.length
          · have hi1 : (t : Int) < (by_.length : Int) := by omega
            have hi2 : (t : Int) < (r.length : Int) := by omega
            have hi3 : ((t - 1 : Nat) : Int) < (r.length : Int) := by omega
            have hwp : IntKind.i64.wrap ((t : Int) - 1) = ((t - 1 : Nat) : Int) := by rw [IntKind.wrap_i64]; omega
            obtain ⟨g2, cp2, ev, -, -, -, -, hc2, -⟩ := own_cat (own_below HR3.out HZ.out) (by omega)
            cases ev
            have e1 := hc2 (t - 1) _ (nmS_at r (by omega))
            have e2 := hc2 t _ (nmS_at r (by omega))
            have hA : amid r t = (decide (0 < r[t - 1]) && decide (r[t - 1] = r[t])) := by
              unfold amid
              rw [decide_eq_true h0, decide_eq_true (show t < r.length by omega), Bool.true_and, Bool.true_and, List.getD_eq_getElem?_getD, List.getD_eq_getElem?_getD, List.getElem?_eq_getElem (show t - 1 < r.length by omega), List.getElem?_eq_getElem (show t < r.length by omega)]
              rfl
            rw [hA] at hS1
            generalize r[t - 1] = x at *
            generalize r[t] = y at *
            clear hc2 hA
            by_cases hx : 0 < x
            · have hx0 : (0 : Int) < (x : Int) := by omega
              by_cases hxy : x = y
              · subst hxy
                have hS2 : Hid (wmL (amid r) (q.take (k + 1)) = (n + 1, t + (m + p.drop.size))) := hide (by rw [hS1.out]; simp [hx])
                clear hS1
                go_wp2_with fail
                go_quiet (fail)
                go_wp2
                refine ⟨⟨k + 1, by omega, by go_num, by rw [hS2.out]; simp, by rw [hS2.out]; simp, HZ.out.trans ⟨rfl, rfl, rfl, Nat.le_refl _, fun _ _ => rfl⟩⟩, by simp [intOf]; omega⟩
              · have hxy0 : ((x : Int) == (y : Int)) = false := by rw [beq_eq_false_iff_ne]; omega
                have hS2 : Hid (wmL (amid r) (q.take (k + 1)) = (n, t + (m + p.drop.size))) := hide (by rw [hS1.out]; simp [hxy])
                clear hS1
                go_wp2_with fail
                go_quiet (fail)
                go_wp2
                refine ⟨⟨k + 1, by omega, by go_num, by rw [hS2.out], by rw [hS2.out]; simp, HZ.out.trans ⟨rfl, rfl, rfl, Nat.le_refl _, fun _ _ => rfl⟩⟩, by simp [intOf]; omega⟩
            · have hx0 : decide ((0 : Int) < (x : Int)) = false := decide_eq_false (by omega)
              have hS2 : Hid (wmL (amid r) (q.take (k + 1)) = (n, t + (m + p.drop.size))) := hide (by rw [hS1.out]; simp [hx])
              clear hS1
              go_wp2_with fail
              go_quiet (fail)
              go_wp2
              refine ⟨⟨k + 1, by omega, by go_num, by rw [hS2.out], by rw [hS2.out]; simp, HZ.out.trans ⟨rfl, rfl, rfl, Nat.le_refl _, fun _ _ => rfl⟩⟩, by simp [intOf]; omega⟩
          · have hi1 : decide ((t : Int) < (by_.length : Int)) = false := decide_eq_false (by omega)
            have hA : amid r t = false := by unfold amid; rw [decide_eq_false (show ¬ t < r.length by omega)]; simp
            have hS2 : Hid (wmL (amid r) (q.take (k + 1)) = (n, t + (m + p.drop.size))) := hide (by rw [hS1.out, hA]; simp)
            clear hS1 hA
            go_wp2_with fail
            go_quiet (fail)
            go_wp2
            refine ⟨⟨k + 1, by omega, by go_num, by rw [hS2.out], by rw [hS2.out]; simp, HZ.out.trans ⟨rfl, rfl, rfl, Nat.le_refl _, fun _ _ => rfl⟩⟩, by simp [intOf]; omega⟩
        · have hi0 : decide ((0 : Int) < (t : Int)) = false := decide_eq_false (by omega)
          have hA : amid r t = false := by unfold amid; rw [decide_eq_false h0]; simp
          have hS2 : Hid (wmL (amid r) (q.take (k + 1)) = (n, t + (m + p.drop.size))) := hide (by rw [hS1.out, hA]; simp)
          clear hS1 hA
          go_wp2_with fail
          go_quiet (fail)
          go_wp2
          refine ⟨⟨k + 1, by omega, by go_num, by rw [hS2.out], by rw [hS2.out]; simp, HZ.out.trans ⟨rfl, rfl, rfl, Nat.le_refl _, fun _ _ => rfl⟩⟩, by simp [intOf]; omega⟩
    · obtain rfl : k = q.length := by omega
      rw [List.take_length]
      have hbz := hb3.trans (hbw.mono hb3.size)
      go_wp2
      go_ret
      exact ⟨rfl, hbz⟩
end Go.Proofs.YtbooongkbninhaaDoor

set_option linter.unusedVariables false
namespace Go.Proofs.YtbooongkbninhaaDoor
open Go.RowKit Go.Shelf
open Doc1

/-- How many clashes the model counts. -/
def clsM (la lb : List Pt) : Nat := (wmL (amid (rnL (normL lb)).1) (normL la)).1 + (wmL (amid (rnL (normL la)).1) (normL lb)).1 + ((byL la).zip (byL lb)).countP nz2
theorem zip_step {bx by_ : List UInt8} {k : Nat} (h1 : k < bx.length) (h2 : k < by_.length) : ((bx.zip by_).take (k + 1)).countP nz2 = ((bx.zip by_).take k).countP nz2 + (if nz2 (bx[k], by_[k]) = true then 1 else 0) := by
  have hz : k < (bx.zip by_).length := by simp; omega
  rw [List.take_succ_eq_append_getElem hz, List.countP_append, List.countP_singleton, List.getElem_zip]

set_option maxRecDepth 100000 in
set_option maxHeartbeats 4000000 in
theorem clashesS_bad {w : World} {aa ab : Option Addr} {ga ca gb cb : Nat} {la lb : List Pt} (ha : Pin w aa ga ca la) (hb : Pin w ab gb cb lb) (hs : samA la lb = false) :
    Calls Tryd.prog 64 #[.slice aa la.length ca, .slice ab lb.length cb] w fun e w' => e = .returned (.tuple #[.int .i64 0, .bool false]) ∧ Below w.heap.size w w' := by
  have G1 := hide (goodOpS ha)
  have G2 := hide (fun w' (h : Below w.heap.size w w') => goodOpS (hb.later h))
  unfold samA samK at hs
  cases h1 : goodO la with
  | false =>
    rw [h1] at G1
    clear ha hb hs h1 G2
    go_enter Tryd.func64, Tryd.ntmps64
    go_wp2_with fail
    refine G1.out.mono ?_
    rintro e w1 ⟨rfl, hb1⟩
    go_wp2
    go_ret2
    exact ⟨rfl, hb1⟩
  | true =>
    rw [h1] at G1
    cases h2 : goodO lb with
    | false =>
      rw [h2] at G2
      clear ha hb hs h1 h2
      go_enter Tryd.func64, Tryd.ntmps64
      go_wp2_with fail
      refine G1.out.mono ?_
      rintro e w1 ⟨rfl, hb1⟩
      go_wp2_with fail
      refine (G2.out w1 hb1).mono ?_
      rintro e w2 ⟨rfl, hb'⟩
      have hb2 := hb1.trans (hb'.mono hb1.size)
      go_wp2
      go_ret2
      exact ⟨rfl, hb2⟩
    | true =>
      rw [h2] at G2
      obtain ⟨q1, q2, -, -⟩ := goodO_parts h1
      obtain ⟨q3, q4, -, -⟩ := goodO_parts h2
      have S := hide (fun w' (h : Below w.heap.size w w') => l4Same_any (ha.later h) (hb.later h) q1 q3 q2 q4)
      rw [h1, h2, Bool.true_and, Bool.true_and] at hs
      rw [hs] at S
      clear ha hb hs h1 h2 q2 q4
      generalize decide (tkL la = tkL lb) = d at *
      go_enter Tryd.func64, Tryd.ntmps64
      go_wp2_with fail
      refine G1.out.mono ?_
      rintro e w1 ⟨rfl, hb1⟩
      go_wp2_with fail
      refine (G2.out w1 hb1).mono ?_
      rintro e w2 ⟨rfl, hb'⟩
      have hb2 := hb1.trans (hb'.mono hb1.size)
      clear hb' hb1 G1 G2
      go_wp2_with fail
      refine (S.out w2 hb2).mono ?_
      rintro e w3 ⟨rfl, hb'⟩
      have hb3 := hb2.trans (hb'.mono hb2.size)
      go_wp2
      go_ret2
      exact ⟨rfl, hb3⟩

set_option maxRecDepth 100000 in
set_option maxHeartbeats 4000000 in
theorem clashesS {w : World} {aa ab : Option Addr} {ga ca gb cb : Nat} {la lb : List Pt} (ha : Pin w aa ga ca la) (hb : Pin w ab gb cb lb) (hs : samA la lb = true) :
    Calls Tryd.prog 64 #[.slice aa la.length ca, .slice ab lb.length cb] w fun e w' => e = .returned (.tuple #[.int .i64 (clsM la lb : Int), .bool true]) ∧ Below w.heap.size w w' := by
  have G1 := hide (goodOpS ha)
  have G2 := hide (fun w' (h : Below w.heap.size w w') => goodOpS (hb.later h))
  unfold samA samK at hs
  simp only [Bool.and_eq_true, decide_eq_true_eq] at hs
  obtain ⟨⟨h1, h2, ht⟩, hlk⟩ := hs
  rw [h1] at G1
  rw [h2] at G2
  obtain ⟨q1, q2, -, -⟩ := goodO_parts h1
  obtain ⟨q3, q4, -, -⟩ := goodO_parts h2
  have S := hide (fun w' (h : Below w.heap.size w w') => l4Same_any (ha.later h) (hb.later h) q1 q3 q2 q4)
  rw [hlk, decide_eq_true ht] at S
  have WA := hide (fun w' (h : Below w.heap.size w w') => l4Within_any (ha.later h) (hb.later h) h1 h2)
  have WB := hide (fun w' (h : Below w.heap.size w w') => l4Within_any (hb.later h) (ha.later h) h2 h1)
  have BA := hide (fun w' (h : Below w.heap.size w w') => l4Bytes_any (ha.later h) q1 q2)
  have BB := hide (fun w' (h : Below w.heap.size w w') => l4Bytes_any (hb.later h) q3 q4)
  have la1 := byL_len la q2
  have lb1 := byL_len lb q4
  have bda := (all_bd la q2).1
  have hm1 := (wm_le (amid (rnL (normL lb)).1) (normL la) (goodO_pk (norm_goodO h1).1)).1
  have hm2 := (wm_le (amid (rnL (normL la)).1) (normL lb) (goodO_pk (norm_goodO h2).1)).1
  have n1 := (goodO_le (norm_goodO h1).1).1
  have n2 := (goodO_le (norm_goodO h2).1).1
  unfold clsM
  have hlen : (byL la).length = (byL lb).length := by omega
  have hx : (byL la).length ≤ 18000 := by omega
  clear ha hb h1 h2 hlk q2 q4 la1 lb1 bda ht
  generalize byL la = bx at *
  generalize byL lb = by_ at *
  generalize (wmL (amid (rnL (normL lb)).1) (normL la)).1 = m1 at *
  generalize (wmL (amid (rnL (normL la)).1) (normL lb)).1 = m2 at *
  go_enter Tryd.func64, Tryd.ntmps64
  go_wp2_with fail
  refine G1.out.mono ?_
  rintro e w1 ⟨rfl, hb1⟩
  go_wp2_with fail
  refine (G2.out w1 hb1).mono ?_
  rintro e w2 ⟨rfl, hb'⟩
  have hb2 := hb1.trans (hb'.mono hb1.size)
  clear hb' hb1 G1 G2
  go_wp2_with fail
  refine (S.out w2 hb2).mono ?_
  rintro e w3 ⟨rfl, hb'⟩
  have hb3 := hb2.trans (hb'.mono hb2.size)
  clear hb' hb2 S
  go_wp2_with fail
  refine (WA.out w3 hb3).mono ?_
  rintro e w4 ⟨rfl, hb'⟩
  have hb4 := hb3.trans (hb'.mono hb3.size)
  clear hb' hb3 WA
  go_wp2_with fail
  refine (WB.out w4 hb4).mono ?_
  rintro e w5 ⟨rfl, hb'⟩
  have hb5 := hb4.trans (hb'.mono hb4.size)
  clear hb' hb4 WB
  go_wp2_with fail
  refine (BA.out w5 hb5).mono ?_
  rintro e w6 ⟨v1, rfl, o1, hb'⟩
  have hb6 := hb5.trans (hb'.mono hb5.size)
  have O1 := hide o1
  obtain ⟨a1, c1, rfl, -, -⟩ := own_shp o1
  clear hb' hb5 BA o1
  go_wp2_with fail
  refine (BB.out w6 hb6).mono ?_
  rintro e w7 ⟨v2, rfl, o2, hb'⟩
  have hb7 := hb6.trans (hb'.mono hb6.size)
  have O17 := hide (own_below O1.out hb')
  have O2 := hide o2
  obtain ⟨a2, c2, rfl, -, -⟩ := own_shp o2
  clear hb' hb6 BB o2 O1
  go_wp2
  go_loopw [8, 45] (fun v i wr => ∃ k : Nat, k ≤ bx.length ∧ i = .int .i64 k ∧ v = .int .i64 ((m1 + m2 + ((bx.zip by_).take k).countP nz2 : Nat) : Int) ∧ Below w7.heap.size w7 wr) (fun _ i _ => bx.length - (intOf i).toNat)
  case atStart => exact ⟨0, by omega, rfl, by simp, Below.refl _ _⟩
  case round =>
    obtain ⟨k, hk, rfl, rfl, hbr⟩ := hrel
    by_cases hlt : k < bx.length
    · have hlt2 : k < by_.length := by omega
      obtain ⟨g1, cp1, ev, -, -, -, -, hc1, -⟩ := own_cat (own_below O17.out hbr) (by omega)
      cases ev
      obtain ⟨g2, cp2, ev, -, -, -, -, hc2, -⟩ := own_cat (own_below O2.out hbr) (by omega)
      cases ev
      have e1 := hc1 k (.int .u8 (bx[k].toNat : Int)) (by simp [byt, hlt])
      have e2 := hc2 k (.int .u8 (by_[k].toNat : Int)) (by simp [byt, hlt2])
      have hst := zip_step hlt hlt2
      have hle : ((bx.zip by_).take k).countP nz2 ≤ 18000 := Nat.le_trans List.countP_le_length (by simp; omega)
      clear hc1 hc2
      generalize bx[k] = x at *
      generalize by_[k] = y at *
      generalize ((bx.zip by_).take k).countP nz2 = c at *
      have hk2 : (k : Int) < (by_.length : Int) := by omega
      unfold nz2 at hst
      by_cases h0 : x = 0
      · have e0 : ((x.toNat : Int) != 0) = false := by rw [h0]; rfl
        have HS : Hid (((bx.zip by_).take (k + 1)).countP (fun p => decide (p.1 ≠ 0) && decide (p.2 ≠ 0)) = c) := hide (by rw [hst]; simp [h0])
        clear hst h0
        go_wp2
        refine ⟨⟨k + 1, by omega, by go_num, by unfold nz2; rw [HS.out], hbr⟩, by simp [intOf]; omega⟩
      · have f0 := u8_ne0 h0
        by_cases h1 : y = 0
        · have e0 : ((y.toNat : Int) != 0) = false := by rw [h1]; rfl
          have HS : Hid (((bx.zip by_).take (k + 1)).countP (fun p => decide (p.1 ≠ 0) && decide (p.2 ≠ 0)) = c) := hide (by rw [hst]; simp [h1])
          clear hst h0 h1
          go_wp2
          refine ⟨⟨k + 1, by omega, by go_num, by unfold nz2; rw [HS.out], hbr⟩, by simp [intOf]; omega⟩
        · have f1 := u8_ne0 h1
          have HS : Hid (((bx.zip by_).take (k + 1)).countP (fun p => decide (p.1 ≠ 0) && decide (p.2 ≠ 0)) = c + 1) := hide (by rw [hst]; simp [h0, h1])
          clear hst h0 h1
          go_wp2
          refine ⟨⟨k + 1, by omega, by go_num, by unfold nz2; rw [HS.out]; simp; omega, hbr⟩, by simp [intOf]; omega⟩
    · obtain rfl : k = bx.length := by omega
      have hbz := hb7.trans (hbr.mono hb7.size)
      have hz : (bx.zip by_).take bx.length = bx.zip by_ := List.take_of_length_le (by simp; omega)
      rw [hz]
      go_wp2
      go_ret2
      exact ⟨rfl, hbz⟩
end Go.Proofs.YtbooongkbninhaaDoor

namespace Go.Proofs.YtbooongkbninhaaDoor
open Go.RowKit
open Doc1

theorem within_eq {la lb : List Pt} (h1 : goodO la = true) (h2 : goodO lb = true) : wthn (ftL (normL lb)).1 (ftL (normL la)).2 = (wmL (amid (rnL (normL lb)).1) (normL la)).1 := by
  have n1 := goodO_pk (norm_goodO h1).1
  have n2 := goodO_pk (norm_goodO h2).1
  rw [wm_count _ _ n1]
  unfold wthn
  have : around (ftL (normL lb)).1 = amid (rnL (normL lb)).1 := funext fun t => amid_around n2 (nd_norm (goodO_pk h2)) t
  rw [this]
theorem cls_eq {la lb : List Pt} (hs : samA la lb = true) : clsN la lb = clsM la lb := by
  unfold samA samK at hs
  simp only [Bool.and_eq_true, decide_eq_true_eq] at hs
  obtain ⟨⟨h1, h2, ht⟩, -⟩ := hs
  have hct : ctk (stL la) = ctk (stL lb) := by
    have e1 := (stL_sums la (goodO_pk h1)).1
    have e2 := (stL_sums lb (goodO_pk h2)).1
    omega
  unfold clsN clsM norO
  rw [if_pos h1, if_pos h2, within_eq h1 h2, within_eq h2 h1, pairs_both (goodO_pk h1) (goodO_pk h2) hct]
end Go.Proofs.YtbooongkbninhaaDoor
