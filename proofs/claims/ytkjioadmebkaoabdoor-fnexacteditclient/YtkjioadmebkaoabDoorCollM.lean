/- The contract of slices.Collect over the steps of a change. The row of steps that are collected, cell by cell. -/
import Derived.Test.YtkjioadmebkaoabDoorBoxes
import Derived.Deep.AppendLies
import Derived.Test.YtkjioadmebkaoabDoorInAny
import Derived.Test.YtkjioadmebkaoabDoorOwnG
namespace Go.Proofs.YtkjioadmebkaoabDoor
open Go.RowKit Go.Shelf
open Doc1

attribute [local go_sem] Oper.semAt_some

/-- Steps as cells. -/
def stC (L : List St) : List Value := L.flatMap fun x => [.int .i64 (x.k : Int), .int .u8 (x.c.toNat : Int)]
theorem stC_snoc (L : List St) (x : St) : stC (L ++ [x]) = stC L ++ [.int .i64 (x.k : Int), .int .u8 (x.c.toNat : Int)] := by simp [stC]
theorem stC_len (L : List St) : (stC L).length = L.length * 2 := by
  induction L with
  | nil => rfl
  | cons x L ih =>
    have e : stC (x :: L) = [.int .i64 (x.k : Int), .int .u8 (x.c.toNat : Int)] ++ stC L := by simp [stC]
    rw [e, List.length_append, ih]; simp; omega
theorem Tryd.infoStep : (Tryd.prog.info? 109).map (fun i => (i.zero, i.size, i.bytes)) = some (some (.agg #[.int .i64 0, .int .u8 0]), 2, 16) := by kernel_rfl
theorem own_stays {w w2 : World} {B n sz : Nat} {e : TypeId} {v : Value} {xs : List Value} (h : w.ownsRow B e sz v n xs) (hk : ∀ x, v.ownBlock = some x → w2.heap[x]? = w.heap[x]?) : w2.ownsRow B e sz v n xs := by
  refine ⟨h.1, ?_⟩
  rcases h.2 with c | ⟨g, cap, cur, hv, h1, h2, h3⟩
  · exact .inl c
  · exact .inr ⟨g, cap, cur, hv, h1, (hk g (by rw [hv]; rfl)).trans h2, h3⟩

/-- What is collected between two rounds. -/
def CJ (B0 : Nat) (pre : List St) (O : Nat → Prop) (W : World) : Prop :=
  ∃ vo, Bxd W B0 vo ∧ W.ownsRow B0 109 2 vo pre.length (stC pre) ∧ vo.ownBlock ≠ some B0 ∧ O = fun k => k = B0 ∨ vo.ownBlock = some k
theorem cJ_held (B0 : Nat) : Held (CJ B0) := by
  refine ⟨?_, ?_⟩
  · rintro pre O W ⟨vo, h1, h2, h3, rfl⟩ k (rfl | hk)
    · exact h1.lt
    · exact (h2.lt k hk).2
  · rintro pre O W W' ⟨vo, h1, h2, h3, rfl⟩ hs hk
    exact ⟨vo, h1.block (hk _ (.inl rfl)), own_stays h2 (fun x hx => hk x (.inr hx)), h3, rfl⟩
/-- A row grows by an append within a round. -/
theorem listIn_app {l n' : Nat} {P : Program} (w : World) {ops : Array Oper} {rest : List Oper} {o : Oper} {a : Act} {Q : Exit → Act → World → Prop} (hgd : o.guard = none) (s x : Operand) (t : TypeId)
    (ho : o.op = .call { callee := .builtin .append, args := #[s, x], argTypes := #[t, t] }) (B : Nat) (e : TypeId) (i : TypeInfo) (z : Value) (size bytes : Nat) (ht : P.underlying t = some (.slice e)) (hi : P.info? e = some i) (hz : i.zero = some z)
    (hsize : i.size = size) (hby : i.bytes = bytes) (hzs : z.cells.size = size) (hsz : 0 < size) (v : Value) (n : Nat) (xs : List Value) (hs : a.eval s = v) (hown : w.ownsRow B e size v n xs)
    (ad : Addr) (m c : Nat) (news : List Value) (hx : a.eval x = .slice (some ad) m c) (hl : news.length = m * size) (hnews : ∀ j u, news[j]? = some u → w.cell? (ad.add j) = some u) (h1 : ∀ u ∈ news, u.oneCell' = true)
    (hm : 0 < m) (h63 : n + m ≤ maxLen) (hbytes : (n + m) * bytes ≤ 140737488355328) (hB : B ≤ w.heap.size) (H : Nat) (hH : w.heap.size = H)
    (h : ∀ g cap w', w'.ownsRow B e size (.slice (some ⟨g, 0, none⟩) (n + m) cap) (n + m) (xs ++ news) → w.grownBy w' v.ownBlock → (v.ownBlock = some g ∨ g = H) → wpListIn (Fence.wide.inRound l) n' P ops Q rest (a.put o.dst (.slice (some ⟨g, 0, none⟩) (n + m) cap)) w') :
    wpListIn (Fence.wide.inRound l) n' P ops Q (o :: rest) a w :=
  wpListIn_plain hgd fun K hK => operIn_any (by rw [ho]; intro c hc; cases hc)
    (wp_append_lies w s x t ho B e i z size bytes ht hi hz hsize hby hzs hsz v n xs hs hown ad m c news hx hl hnews h1 hm h63 hbytes hB H hH (fun g cap w' h1 h2 h3 _ => hK _ _ (h g cap w' h1 h2 h3)))
theorem grownBy_al {w w2 : World} {ob : Obj} {row : Option Nat} (h : (w.alloc ob).grownBy w2 row) : w.grownBy w2 row :=
  ⟨h.os, h.tape, h.output, by have := h.size; simp at this; omega, fun k hk hn => (h.block k (by simp; omega) hn).trans (Below.heap_alloc w ob k hk)⟩
/-- One step more. -/
theorem cj_out {B0 : Nat} {W w3 : World} {vo : Value} {pre : List St} {x : St} {gg cap : Nat} (hb : Bxd W B0 vo) (hn : vo.ownBlock ≠ some B0) (ho : w3.ownsRow B0 109 2 (.slice (some ⟨gg, 0, none⟩) (pre.length + 1) cap) (pre.length + 1) (stC pre ++ [.int .i64 (x.k : Int), .int .u8 (x.c.toNat : Int)])) (hg : W.grownBy w3 vo.ownBlock) (hat : vo.ownBlock = some gg ∨ W.heap.size ≤ gg) :
    CJ B0 (pre ++ [x]) (fun k => k = B0 ∨ (Value.slice (some ⟨gg, 0, none⟩) (pre.length + 1) cap).ownBlock = some k) (w3.setCell ⟨B0, 0, none⟩ (.slice (some ⟨gg, 0, none⟩) (pre.length + 1) cap)) ∧
    Moves (fun k => k = B0 ∨ vo.ownBlock = some k) W (fun k => k = B0 ∨ (Value.slice (some ⟨gg, 0, none⟩) (pre.length + 1) cap).ownBlock = some k) (w3.setCell ⟨B0, 0, none⟩ (.slice (some ⟨gg, 0, none⟩) (pre.length + 1) cap)) := by
  have hl := hb.lt
  have hv : ∀ x, (Value.slice (some ⟨gg, 0, none⟩) (pre.length + 1) cap).ownBlock = some x → x = gg := fun x hx => by
    have : some gg = some x := hx
    injection this with this; exact this.symm
  have hgn : gg ≠ B0 := by
    rcases hat with e | e
    · intro c; rw [c] at e; exact hn e
    · omega
  have m1 := hb.block (W' := w3) (hg.block B0 hl (fun e => hn e.symm))
  refine ⟨⟨_, m1.set _, ?_, fun c => hgn (hv B0 c).symm, rfl⟩, ?_⟩
  · rw [stC_snoc, List.length_append]
    exact own_stays ho (fun x hx => by rw [hv x hx]; exact Below.heap_setCell _ _ _ _ hgn)
  · refine ⟨hg.os, hg.tape, hg.output, by simpa using hg.size, fun k hk no => ?_, fun k hk c => ?_⟩
    · exact (Below.heap_setCell _ _ _ _ (fun e => no (.inl e))).trans (hg.block k hk (fun e => no (.inr e.symm)))
    · rcases c with c | c
      · exact .inl c
      · have := hv k c
        rcases hat with e | e
        · exact .inr (this ▸ e)
        · omega

set_option maxRecDepth 100000 in
set_option maxHeartbeats 4000000 in
theorem appendSeq_any {w : World} {aw : Option Addr} {g cap Bs : Nat} {l : List Pt} (hp : Pin w aw g cap l) (hT : Tab w) (hBs : w.cell? ⟨Bs, 0, none⟩ = some (.slice aw l.length cap)) (hbl : Bs < w.heap.size) (hpk : ∀ p ∈ l, pk p ≠ 0) (hst : (stL l).length ≤ 600) :
    Calls Tryd.prog 98 #[.slice none 0 0, .func (.func 96) #[] #[.pointer (some ⟨Bs, 0, none⟩)]] w fun e w' => ∃ v, e = .returned v ∧ w'.ownsRow w.heap.size 109 2 v (stL l).length (stC (stL l)) ∧ Below w.heap.size w w' := by
  have H := hide hp
  have hHT := hide hT
  have hC := hide hBs
  clear hp hT hBs
  have hdep : Fence.wide.depth = none := rfl
  refine (callsIn_wide (n := 6)).1 ?_
  refine callsIn_of_wp_marks Tryd.func98 rfl trivial ?_ rfl
  simp only [Tryd.ntmps98, List.size_toArray, List.length_cons, List.length_nil, Nat.reduceAdd, Nat.reduceSub, Array.replicate_succ, Array.replicate_zero, List.push_toArray, List.append_toArray, List.nil_append, List.cons_append]
  gi_wp2
  obtain ⟨W2, hW2⟩ : ∃ W2, W2 = w.alloc (.cells #[.slice none 0 0] 113) := ⟨_, rfl⟩
  have b0 : Bxd W2 w.heap.size (.slice none 0 0) := by rw [hW2]; exact bxd_new w _ _
  have hB2 : Below w.heap.size w W2 := by rw [hW2]; exact (Below.refl _ _).alloc (Nat.le_refl _) _
  have hs2 : W2.heap.size = w.heap.size + 1 := by rw [hW2]; simp
  rw [← hW2]
  clear hW2
  have pin2 := H.out.later hB2
  have tab2 := hHT.out.below hB2
  have cs2 := (World.cell?_of_block (a := ⟨Bs, 0, none⟩) (hB2.block _ hbl)).trans hC.out
  have ltT := hHT.out.lt
  have ltg := H.out.lt
  have hJ := cJ_held w.heap.size
  refine wpIn_range rfl (enters_of Tryd.func96 (by kernel_rfl) rfl) (steps_iter pin2 tab2 cs2 hpk) (fun _ => rfl)
    (J := CJ w.heap.size) (Jx := fun _ _ _ _ => False) (O := fun k => k = w.heap.size ∨ (Value.slice none 0 0).ownBlock = some k) hJ (fun _ => no_held) (Nat.le_refl _)
    (by
      rintro k (rfl | rfl | rfl)
      · exact ⟨by omega, rfl, fun c => c.elim (fun c => by omega) (fun c => by cases c)⟩
      · exact ⟨by omega, rfl, fun c => c.elim (fun c => by omega) (fun c => by cases c)⟩
      · exact ⟨by omega, rfl, fun c => c.elim (fun c => by omega) (fun c => by cases c)⟩)
    ⟨_, b0, World.ownsRow_nil _ _ _ _, (fun c => by cases c), rfl⟩
    (xAx_held hJ (fun x Bx => { tmps := #[.slice none 0 0, .func (.func 96) #[] #[.pointer (some ⟨Bs, 0, none⟩)], .pointer (some ⟨w.heap.size, 0, none⟩), undef, .slice none 0 0, .pointer (some ⟨Bx, 0, none⟩), .func (.func 96) #[] #[.pointer (some ⟨Bs, 0, none⟩)], .agg #[.int .i64 (x.k : Int), .int .u8 (x.c.toNat : Int)], undef, undef, undef, undef, undef], defers := [] }))
    ?assigned ?round ?done ?stop
  case assigned =>
    rintro l1 pre x O W K hj hx hK
    have hbx := box2_new W (.int .i64 (x.k : Int)) (.int .u8 (x.c.toNat : Int))
    simp only [stE, stV]
    gi_wp2
    exact hK _ _ _ ((Moves.refl _ _).alloc _) ⟨O, W.heap.size, hJ.up hj ((Below.refl _ _).alloc (Nat.le_refl _) _), fun _ => Iff.rfl, fun c => absurd (hJ.lt hj _ c) (by omega), hbx _, rfl⟩
  case round =>
    rintro l1 pre x a' O W ⟨O1, Bx, ⟨vo, hb, ho, hn, rfl⟩, hB, hnB, hbx, rfl⟩ hl1 hnl hx
    have hlen : pre.length ≤ 600 := by have := pre_len hx; simp at this; omega
    obtain ⟨u0, hu0, hz0, hz1, hz2⟩ := info_parts Tryd.infoStep
    have e0 := hb.cell
    have f0 := hb.fz
    have lt0 := hb.lt
    obtain ⟨c0, c1⟩ := hbx.cells
    have HB := hide hB
    have HO := hide ho
    have HN := hide hn
    have HBX := hide hb
    have MV : Hid (∀ O' W', Moves (fun k => k = w.heap.size ∨ vo.ownBlock = some k) W O' W' → Moves O W O' W') := hide (fun O' W' m => m.wider (fun k _ c => (HB.out k).2 (.inl c)) (fun k hk c => (HB.out k).2 (.inl (m.own k hk c))))
    clear hB hx hnB hbx hnl hl1 hb ho
    gi_wp2_with (gi_at_builtin; refine listIn_app _ rfl _ _ 113 rfl w.heap.size 109 u0 _ 2 16 Tryd.underlying113 hu0 hz0 hz1 hz2 rfl (by omega) vo pre.length (stC pre) rfl (HO.out.alloc _) ⟨W.heap.size, 0, none⟩ 1 1 [.int .i64 (x.k : Int), .int .u8 (x.c.toNat : Int)] rfl rfl (World.news_of_block (cs := #[.int .i64 (x.k : Int), .int .u8 (x.c.toNat : Int)]) (t := 109) (fr := (0, 0)) (heap_alloc_new W _)) (by simp [Value.oneCell']) (by omega) (by unfold maxLen; omega) (by omega) (by simp; omega) (W.heap.size + 1) (by simp) ?_; intro gg cap' w3 hown1 hgrow hat; have hcz := (hgrow.cell_far ⟨w.heap.size, 0, none⟩ (by simp; omega) (Ne.symm hn)).trans (World.cell?_of_block (Below.heap_alloc W _ _ lt0) |>.trans e0); have hfz := (hgrow.frozen_far ⟨w.heap.size, 0, none⟩ (by simp; omega) (Ne.symm hn)).trans (World.frozen?_of_block (Below.heap_alloc W _ _ lt0) |>.trans f0))
    obtain ⟨A1, A2⟩ := cj_out HBX.out HN.out hown1 (grownBy_al hgrow) (hat.imp id (fun e => by omega))
    exact ⟨_, MV.out _ _ A2, A1⟩
  case done =>
    rintro D O' W hD hnD ⟨vo, hb, ho, hn, rfl⟩ mv hK
    have e0 := hb.cell
    have hfin : Hid (Below w.heap.size w (W.putObj D (.deferred none))) := hide (by
      have h1 : Below w.heap.size w W := hB2.trans (mv.below (by omega) (fun k hk c => c.elim (fun c => by omega) (fun c => by cases c)))
      exact h1.trans ⟨rfl, rfl, rfl, by simp, fun k hk => World.putObj_heap_other (by omega)⟩)
    have HO := hide (own_stays (w2 := W.putObj D (.deferred none)) ho (fun x hx => World.putObj_heap_other (fun e => hnD (.inr (e ▸ hx)))))
    clear hb ho hn hnD mv
    gi_wp2
    refine ⟨by simp, .inl ⟨_, _, rfl, run_takeDeferred hK, ?_⟩⟩
    refine ⟨vo, ?_, vo, rfl, HO.out, hfin.out⟩
    simp [results, Tryd.f98, go_sem]
  case stop => exact fun _ _ _ _ _ _ _ _ h => h.elim

set_option maxRecDepth 100000 in
set_option maxHeartbeats 1000000 in
theorem collect_any {w : World} {aw : Option Addr} {g cap Bs : Nat} {l : List Pt} (hp : Pin w aw g cap l) (hT : Tab w) (hBs : w.cell? ⟨Bs, 0, none⟩ = some (.slice aw l.length cap)) (hbl : Bs < w.heap.size) (hpk : ∀ p ∈ l, pk p ≠ 0) (hst : (stL l).length ≤ 600) :
    Calls Tryd.prog 72 #[.func (.func 96) #[] #[.pointer (some ⟨Bs, 0, none⟩)]] w fun e w' => ∃ v, e = .returned v ∧ w'.ownsRow w.heap.size 109 2 v (stL l).length (stC (stL l)) ∧ Below w.heap.size w w' := by
  have A := hide (appendSeq_any hp hT hBs hbl hpk hst)
  clear hp hT hBs hpk
  go_enter Tryd.func72, Tryd.ntmps72
  go_wp2_with fail
  refine A.out.mono ?_
  rintro e w1 ⟨v, rfl, ho, hb⟩
  obtain ⟨a0, c0, rfl, -, -⟩ := own_shp ho
  go_wp2
  go_ret
  exact ⟨_, rfl, ho, hb⟩
end Go.Proofs.YtkjioadmebkaoabDoor

namespace Go.Proofs.YtkjioadmebkaoabDoor
open Go.RowKit
open Doc1

theorem stC_at (L : List St) (i : Nat) (h : i < L.length) : (stC L)[i * 2]? = some (.int .i64 (L[i].k : Int)) ∧ (stC L)[i * 2 + 1]? = some (.int .u8 (L[i].c.toNat : Int)) := by
  induction L generalizing i with
  | nil => simp at h
  | cons x L ih =>
    have e : stC (x :: L) = [.int .i64 (x.k : Int), .int .u8 (x.c.toNat : Int)] ++ stC L := by simp [stC]
    rw [e]
    cases i with
    | zero => simp
    | succ i =>
      have := ih i (by simpa using h)
      rw [List.getElem?_append_right (by simp; omega), List.getElem?_append_right (by simp; omega)]
      simp only [List.length_cons, List.length_nil, Nat.zero_add, List.getElem_cons_succ]
      rw [show (i + 1) * 2 - (1 + 1) = i * 2 by omega, show (i + 1) * 2 + 1 - (1 + 1) = i * 2 + 1 by omega]
      exact this
/-- The row of the other change's steps, cell by cell. -/
theorem steps_row {W : World} {vS : Value} {ys : List St} (h : W.ownsRow 0 109 2 vS ys.length (stC ys)) (hp : 0 < ys.length) : ∃ g cap, vS = .slice (some ⟨g, 0, none⟩) ys.length cap ∧ ys.length ≤ cap ∧ cap ≤ maxLen ∧ ∀ i (hi : i < ys.length), W.cell? ⟨g, i * 2, none⟩ = some (.int .i64 (ys[i].k : Int)) ∧ W.cell? ⟨g, i * 2 + 1, none⟩ = some (.int .u8 (ys[i].c.toNat : Int)) := by
  obtain ⟨g, cap, hv, h1, h2, -, -, h4, -⟩ := own_cat h hp
  exact ⟨g, cap, hv, h1, h2, fun i hi => ⟨h4 _ _ (stC_at ys i hi).1, h4 _ _ (stC_at ys i hi).2⟩⟩
end Go.Proofs.YtkjioadmebkaoabDoor
