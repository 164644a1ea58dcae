/- Rows of atoms within a region that draws its order. -/
import Derived.Test.YtnhooalibadeeabDoorSqA1
import Derived.Deep.AppendLies
set_option linter.unusedVariables false
namespace Go.Proofs.YtnhooalibadeeabDoor
open Go.RowKit
open Doc1

theorem new_at {w : World} {k : Nat} {x : Obj} (h : k = w.heap.size) : (w.alloc x).heap[k]? = some x := by subst h; exact heap_alloc_new w x
theorem keep_al {w : World} {k : Nat} {x y : Obj} (h : w.heap[k]? = some x) : (w.alloc y).heap[k]? = some x := by rw [Below.heap_alloc _ _ _ (Array.getElem?_eq_some_iff.1 h).1]; exact h
theorem grown_keep {w w' : World} {r : Option Nat} (h : w.grownBy w' r) : ∀ k x, w.heap[k]? = some x → r ≠ some k → w'.heap[k]? = some x := fun k x hx hr => (h.block k (Array.getElem?_eq_some_iff.1 hx).1 (fun c => hr c.symm)).trans hx
theorem own_at {W : World} {B e : Nat} (h : W.heap[e]? = some (.cells #[] 47)) (hB : B ≤ e) : AmOwn W B (.slice (some ⟨e, 0, none⟩) 0 0) [] :=
  ⟨rfl, .inr ⟨e, 0, #[], rfl, hB, h, Nat.le_refl _, Nat.zero_le _, rfl, rfl⟩⟩
theorem am_at {W : World} {m : Nat} {x : Am} (h : W.heap[m]? = some (.cells #[.int .i64 x.time, .int .i64 x.actor, .int .i64 x.above, .int .i64 x.maker, .string x.byte, .bool x.gone] 47)) : AmIn W (some ⟨m, 0, none⟩) 1 [x] :=
  (show AmOwn W 0 (.slice (some ⟨m, 0, none⟩) 1 1) [x] from ⟨rfl, .inr ⟨m, 1, _, rfl, Nat.zero_le _, h, Nat.le_refl _, by unfold maxLen; omega, rfl, rfl⟩⟩).inn.elim fun a ⟨c, e, h⟩ => by cases e; exact h
theorem own_other {w : World} {B b n sz : Nat} {e T : TypeId} {v : Value} {xs : List Value} {cs : Array Value} {fr : Nat × Nat} (h : w.ownsRow B e sz v n xs) (hb : w.heap[b]? = some (.cells cs T fr)) (hT : T ≠ e) : v.ownBlock ≠ some b := by
  rcases h.2 with ⟨rfl, _⟩ | ⟨g, cap, cur, rfl, _, hg, _⟩
  · simp [Value.ownBlock]
  · intro c
    have : g = b := Option.some.inj c
    subst this
    rw [hg] at hb
    injection hb with hb
    injection hb with _ h2 _
    exact hT h2.symm
theorem keep_seq {w w' : World} {B : Nat} {v : Value} {l : List Am} (hown : AmOwn w B v l) (hg : w.grownBy w' v.ownBlock) : ∀ (k : Nat) (cs : Array Value) (fr : Nat × Nat), w.heap[k]? = some (Obj.cells cs 28 fr) → w'.heap[k]? = some (Obj.cells cs 28 fr) :=
  fun k cs fr hk => grown_keep hg k _ hk (own_other hown hk (by decide))
theorem grown_from {B : Nat} {w w1 w2 : World} {v : Value} {l : List Am} (hb : Below B w w1) (hB : B ≤ w1.heap.size) (hown : AmOwn w1 B v l) (hg : w1.grownBy w2 v.ownBlock) : Below B w w2 :=
  hb.grown hg hB (fun k e => (World.ownsRow.lt hown k e).1)

theorem wp_ams {ops : Array Oper} {o : Oper} {a : Act} {K : Act → World → Prop} {Q : Exit → Act → World → Prop} (w : World) (hgd : o.guard = none) (s x : Operand)
    (ho : o.op = .call { callee := .builtin .append, args := #[s, x], argTypes := #[26, 26] }) (B : Nat) (v0 : Value) (l0 : List Am) (own0 : AmOwn w B v0 l0) (ad : Option Addr) (cap : Nat) (l : List Am) (hl : l0.length + l.length ≤ 1000000)
    (hs : a.eval s = v0) (hx : a.eval x = .slice ad l.length cap) (hin : AmIn w ad cap l) (hB : B ≤ w.heap.size)
    (h : ∀ v' w', AmOwn w' B v' (l0 ++ l) → w.grownBy w' v0.ownBlock → K (a.put o.dst v') w') :
    if Region.wanted o (yielded ops a.tmps) = true then Oper.wp Tryd.prog o a w K Q else True := by
  have hw : Region.wanted o (yielded ops a.tmps) = true := by simp [Region.wanted, hgd]
  rw [if_pos hw]
  obtain ⟨i0, hi0, hz0, hz1, hz2⟩ := info_parts infoAm
  by_cases h0 : l = []
  · subst h0
    obtain ⟨a0, c0, rfl, hle, -⟩ := own_shp own0
    have hr := run_no_more w o.type i0 hi0 a0 l0.length c0 hle ad cap
    unfold Oper.wp
    simp [execOp, ho, resolve, invoke, builtin, hs, hx, hr, Result.andThen]
    exact h _ _ (by rw [List.append_nil]; exact own0) (grown_self _ _)
  · obtain ⟨g, rfl, hg, hc⟩ := hin.ad h0
    have hp := List.length_pos_iff.2 h0
    have hnews : ∀ j u, (encAm l)[j]? = some u → w.cell? ((⟨g, 0, none⟩ : Addr).add j) = some u := fun j u hu => by
      rw [addr0]
      exact hc j u hu
    have hone : ∀ u ∈ encAm l, u.oneCell' = true := fun u hu => by
      unfold encAm at hu
      obtain ⟨b, -, hb2⟩ := List.mem_flatMap.1 hu
      simp [amC] at hb2
      rcases hb2 with rfl | rfl | rfl | rfl | rfl | rfl <;> rfl
    exact wp_append_lies w s x 26 ho B 47 i0 (.agg #[.int .i64 0, .int .i64 0, .int .i64 0, .int .i64 0, .string ⟨#[]⟩, .bool false]) 6 56 Tryd.underlying26 hi0 hz0 hz1 hz2 rfl (by decide) _ _ _ hs own0 ⟨g, 0, none⟩ l.length cap (encAm l) hx (encAm_len l) hnews hone hp (by unfold maxLen; omega) (by omega) hB w.heap.size rfl
      (fun g2 cap2 w' h1 h2 _ _ => h _ w' (by unfold AmOwn; rw [encAm_app, List.length_append]; exact h1) h2)
theorem step_ams {ops : Array Oper} {o : Oper} {a : Act} {K : Act → World → Prop} {Q : Exit → Act → World → Prop} {E : Prop} {w : World} (hgd : o.guard = none) (s x : Operand)
    (ho : o.op = .call { callee := .builtin .append, args := #[s, x], argTypes := #[26, 26] }) (B : Nat) (v0 : Value) (l0 : List Am) (ad : Option Addr) (cap : Nat) (l : List Am) (hl : l0.length + l.length ≤ 1000000)
    (hs : a.eval s = v0) (hx : a.eval x = .slice ad l.length cap) (own0 : AmOwn w B v0 l0) (hin : AmIn w ad cap l) (hB : B ≤ w.heap.size)
    (h : ∀ v' w', AmOwn w' B v' (l0 ++ l) → w.grownBy w' v0.ownBlock → K (a.put o.dst v') w') :
    if Region.wanted o (yielded ops a.tmps) = true then Oper.wp Tryd.prog o a w K Q else E := by
  have := wp_ams (ops := ops) (Q := Q) w hgd s x ho B v0 l0 own0 ad cap l hl hs hx hin hB h
  have hw : Region.wanted o (yielded ops a.tmps) = true := by simp [Region.wanted, hgd]
  rw [if_pos hw] at this ⊢
  exact this
theorem put_fin {wc w : World} {B o : Nat} {v : Value} {l : List Am} (hO : w.heap[o]? = some (Obj.cells #[.slice none 0 0] 28)) (hV : AmOwn w B v l) (hB : Below B wc w) (hle : B ≤ o) :
    CellR (w.setCell ⟨o, 0, none⟩ v) o v ∧ AmOwn (w.setCell ⟨o, 0, none⟩ v) B v l ∧ Below B wc (w.setCell ⟨o, 0, none⟩ v) :=
  ⟨CellR.put (show CellR w o _ from hO) v, hV.kept (row := some o) (grown_set (grown_self _ _) 0 _) (Or.inr (own_other hV hO (by decide))), hB.setCell (p := ⟨o, 0, none⟩) hle _⟩
end Go.Proofs.YtnhooalibadeeabDoor
