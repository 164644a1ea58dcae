/- So many noughts put behind a row of ints. -/
import Derived.Lib.AppendStr
import Derived.Test.YtojlnnlcbpjdlabDoorMoveSZ
set_option linter.unusedVariables false
namespace Go.Proofs.YtojlnnlcbpjdlabDoor
open Go Go.RowKit

def ns (m : Nat) : List Value := List.replicate m (Value.int .i64 0)
theorem ns_cells (m : Nat) : Builtin.zeroCells (Value.int .i64 0).cells m = (ns m).toArray := by
  apply Array.ext
  · simp [Builtin.zeroCells, ns, Value.cells]
  · intro i h1 h2
    simp [Builtin.zeroCells, ns, Value.cells, Nat.mod_one]
theorem ns_len (m : Nat) : (ns m).length = m := by simp [ns]
/-- A row that is laid anew, with room behind it, is owned. -/
theorem fresh_owns {w : World} {base c n m : Nat} {e : TypeId} {xs ys zs : List Value} (hb : base ≤ w.heap.size) (h1 : xs.length = n) (h2 : ys.length = m) (h3 : n + m + zs.length = c) (h4 : c ≤ maxLen) :
    (w.drew.alloc (.cells (xs ++ (ys ++ zs)).toArray e)).ownsRow base e 1 (.slice (some ⟨w.heap.size, 0, none⟩) (n + m) c) (n + m) (xs ++ ys) := by
  refine ⟨by simp; omega, .inr ⟨_, c, _, rfl, hb, heap_alloc_new w.drew _, by omega, h4, by simp; omega, ?_⟩⟩
  rw [Nat.mul_one, ← List.append_assoc]
  exact List.take_left' (by simp; omega)
/-- A row with room is owned when the room is written. -/
theorem room_owns {w : World} {base c n m g : Nat} {e : TypeId} {cur : Array Value} {fz : Nat × Nat} {ys : List Value} (hb : base ≤ g) (hg : w.heap[g]? = some (.cells cur e (0, 0))) (h2 : ys.length = m) (h3 : n + m ≤ c) (h4 : c ≤ maxLen) (h5 : cur.size = c) :
    (w.setRow g (cur.toList.take n ++ ys ++ cur.toList.drop (n + m)).toArray).ownsRow base e 1 (.slice (some ⟨g, 0, none⟩) (n + m) c) (n + m) (cur.toList.take n ++ ys) := by
  refine ⟨by simp; omega, .inr ⟨g, c, _, rfl, hb, setRow_heap w g cur _ e _ hg, h3, h4, by simp; omega, ?_⟩⟩
  rw [Nat.mul_one]
  exact List.take_left' (by simp; omega)
theorem run_noughts {P : Program} (w : World) (base : Nat) (t k ty e : TypeId) (i : TypeInfo) (ht : P.underlying t = some (.slice e)) (hk : P.underlying k = some (.int .i64)) (hi : P.info? e = some i) (hz : i.zero = some (.int .i64 0)) (hsize : i.size = 1) (hby : i.bytes = 8)
    (v : Value) (n : Nat) (xs : List Value) (hown : w.ownsRow base e 1 v n xs) (m : Nat) (hn : n ≤ 1000000) (hm : m ≤ 1000000) (hbase : base ≤ w.heap.size) :
    ∃ v' w', (Builtin.append_ #[t, k] ty #[v, .int .i64 m]).run P w = .ok v' w' ∧ w'.ownsRow base e 1 v' (n + m) (xs ++ ns m) ∧ w.grownBy w' v.ownBlock := by
  have lx : xs.length = n := hown.1.trans (Nat.mul_one n)
  have lm := ns_len m
  have wm : IntKind.i64.wrap (m : Int) = m := by rw [IntKind.wrap_i64]; omega
  have b1 : ¬ ((m : Int) < 0) := by omega
  have b2 : ¬ (281474976710656 < (m : Int) * 8) := by omega
  have b3 : ¬ (9223372036854775807 < ((n : Int) + (m : Int))) := by omega
  have am : ∀ (x : Int) (W : World), (asInt (.int .i64 x)).run P W = .ok x W := fun x W => by simp [asInt, asIntOf]
  obtain ⟨b, cap, rfl, hlc, hlm⟩ := own_shp hown
  by_cases h0 : m = 0
  · subst h0
    refine ⟨.slice b n cap, w, ?_, by simpa [ns] using hown, grown_self _ _⟩
    have w0 : IntKind.i64.wrap 0 = 0 := by decide
    simp [Builtin.append_, run_underlying ht, run_underlying hk, sizeOf, typeInfo, hi, hsize, hby, Builtin.lenOf, am, w0, hlc]
    cases b <;> simp [storeCells]
  · have fits : ∀ old, old < n + m → ¬ (281474976710656 < Builtin.nextslicecap (n + m) old * 8) := fun old ho => by
      have := growslice_fits (need := n + m) (old := old) (bytes := 8) ho (by omega)
      omega
    have anew : ∀ old, old < n + m → ∀ (row : Option Nat), (w.drew.alloc (.cells (xs ++ (ns m ++ ns (grownCap w (n + m) old e - (n + m)))).toArray e)).ownsRow base e 1 (.slice (some ⟨w.heap.size, 0, none⟩) (n + m) (grownCap w (n + m) old e)) (n + m) (xs ++ ns m) ∧
        w.grownBy (w.drew.alloc (.cells (xs ++ (ns m ++ ns (grownCap w (n + m) old e - (n + m)))).toArray e)) row := fun old ho row => by
      have c1 := grownCap_ge w (n + m) old e
      have c2 := grownCap_le_maxLen w (n + m) old e (by unfold maxLen; omega)
      exact ⟨fresh_owns hbase lx lm (by rw [ns_len]; omega) c2, ⟨rfl, rfl, rfl, by simp, fun _ hl _ => heap_alloc_old w.drew _ hl⟩⟩
    by_cases hr : n + m ≤ cap
    · rcases hown.2 with ⟨c, n0⟩ | ⟨g, cap', cur, c, hbg, hg, -, -, hcs, hxs⟩
      · injection c with _ _ c; omega
      · injection c with c1 _ c2
        subst c1 c2
        rw [Nat.mul_one] at hcs hxs
        have put := run_storeCells_at P g n e (ns m) 0 cur w hg (by rw [lm]; omega) (fun u hu => by rw [List.eq_of_mem_replicate hu]; rfl)
        simp only [Nat.add_zero, lm] at put
        have own := room_owns (fz := (0, 0)) hbg hg lm hr hlm hcs
        rw [hxs] at own put
        refine ⟨.slice (some ⟨g, 0, none⟩) (n + m) cap, _, ?_, own, ⟨rfl, rfl, rfl, by simp, fun j _ hj => setRow_other w g j _ (fun e => hj (by rw [e]; rfl))⟩⟩
        simp [Builtin.append_, run_underlying ht, run_underlying hk, sizeOf, typeInfo, zeroValue, hi, hz, hsize, hby, Builtin.lenOf, am, wm, b1, b2, hr, h0, ns_cells, Addr.add_lit, put]
    · obtain ⟨own, gr⟩ := anew cap (by omega) (Value.slice b n cap).ownBlock
      refine ⟨_, _, ?_, own, gr⟩
      have f8 := fits cap (by omega)
      cases b with
      | none =>
        have e0 : n = 0 ∧ cap = 0 := by
          rcases hown.2 with ⟨c, n0⟩ | ⟨g, cap', cur, c, -⟩
          · injection c with _ _ c; exact ⟨n0, c⟩
          · injection c with c; cases c
        obtain ⟨rfl, rfl⟩ := e0
        obtain rfl := List.eq_nil_of_length_eq_zero lx
        have b4 : ¬ (9223372036854775807 < (m : Int)) := by omega
        rw [Nat.zero_add] at f8
        simp [Builtin.append_, run_underlying ht, run_underlying hk, sizeOf, typeInfo, zeroValue, hi, hz, hsize, hby, Builtin.lenOf, Builtin.firstCells, am, wm, b1, b2, h0, b4, f8, Question.forced, newRow, grownCap, ns_cells]
      | some a =>
        have old : ∀ j u, xs[j]? = some u → w.cell? (a.add j) = some u := by
          rcases hown.2 with ⟨c, -⟩ | ⟨g, cap', cur, c, -⟩
          · injection c with c; cases c
          · injection c with c; injection c with c; subst c; exact fun j u hu => hown.cells rfl j u hu
        have read := run_firstCells_some (P := P) w.drew 1 n a n cap xs (by omega) (by simpa using old)
        simp [Builtin.append_, run_underlying ht, run_underlying hk, sizeOf, typeInfo, zeroValue, hi, hz, hsize, hby, Builtin.lenOf, am, wm, b1, b2, hr, h0, b3, f8, Question.forced, read, newRow, grownCap, ns_cells]
theorem wpList_noughts {P : Program} (w : World) {ops : Array Oper} {rest : List Oper} {o : Oper} {a : Act} {Q : Exit → Act → World → Prop} (hgd : o.guard = none) (sl x : Operand) (t k : TypeId)
    (ho : o.op = .call { callee := .builtin .append, args := #[sl, x], argTypes := #[t, k] }) (base : Nat) (e : TypeId) (i : TypeInfo)
    (ht : P.underlying t = some (.slice e)) (hk : P.underlying k = some (.int .i64)) (hi : P.info? e = some i) (hz : i.zero = some (.int .i64 0)) (hsize : i.size = 1) (hby : i.bytes = 8)
    (v : Value) (n : Nat) (xs : List Value) (hs : a.eval sl = v) (hown : w.ownsRow base e 1 v n xs) (m : Nat) (hx : a.eval x = .int .i64 m) (hn : n ≤ 1000000) (hm : m ≤ 1000000) (hbase : base ≤ w.heap.size)
    (h : ∀ v' w', w'.ownsRow base e 1 v' (n + m) (xs ++ ns m) → w.grownBy w' v.ownBlock → wpList P ops Q rest (a.put o.dst v') w') : wpList P ops Q (o :: rest) a w := by
  obtain ⟨v', w', hr, h2, h3⟩ := run_noughts (P := P) w base t k o.type e i ht hk hi hz hsize hby v n xs hown m hn hm hbase
  refine wpList_plain hgd fun K hK => ?_
  unfold Oper.wp execOp
  simp only [ho, resolve, invoke, builtin, Sem.run_bind, Sem.run_pure, Result.andThen_ok, List.map_toArray, List.map_cons, List.map_nil, hs, hx, hr]
  exact hK _ _ (h v' w' h2 h3)
end Go.Proofs.YtojlnnlcbpjdlabDoor
