/- How a row of parts is cleared from a place on. -/
import Derived.Test.YtknilofnelhgmabDoorSpW2
namespace Go.Proofs.YtknilofnelhgmabDoor
open Go.RowKit
open Doc1

theorem Tryd.infoPt : (Tryd.prog.info? 45).map (fun i => (i.zero, i.size, i.bytes)) = some (some (.agg #[.int .i64 0, .string ⟨#[]⟩, .string ⟨#[]⟩]), 3, 40) := by kernel_rfl
/-- What is cleared: the cells ahead stay. -/
theorem run_clear_row {w : World} {g i n cap : Nat} {cs : List Value} {ty : TypeId} (h : RowC w g cs) (hn : 0 < n) (hl : i * 3 + n * 3 ≤ cs.length) :
    ∃ cs' : List Value, cs'.length = cs.length ∧ cs'.take (i * 3) = cs.take (i * 3) ∧ (Builtin.clear_ #[22] ty #[.slice (some ⟨g, i * 3, none⟩) n cap]).run Tryd.prog w = .ok (.tuple #[]) (w.setRow g cs'.toArray) := by
  obtain ⟨i0, hi0, hz0, hz1, hz2⟩ := info_parts Tryd.infoPt
  obtain ⟨Z, hZ⟩ : ∃ Z, Z = (Builtin.zeroCells (Value.agg #[.int .i64 0, .string ⟨#[]⟩, .string ⟨#[]⟩]).cells n).toList := ⟨_, rfl⟩
  have zl : Z.length = n * 3 := by rw [hZ]; simp [Builtin.zeroCells, Value.cells]
  have z1 : ∀ v ∈ Z, v.oneCell' = true := by
    intro v hv
    rw [hZ] at hv
    simp only [Builtin.zeroCells, Value.cells, Array.toList_map, List.mem_map] at hv
    obtain ⟨j, -, rfl⟩ := hv
    have : j % 3 = 0 ∨ j % 3 = 1 ∨ j % 3 = 2 := by omega
    rcases this with e | e | e <;> simp [e, Value.oneCell']
  have hst := run_storeCells_at Tryd.prog g (i * 3) 45 Z 0 cs.toArray w h (by simp; omega) z1
  refine ⟨cs.take (i * 3) ++ Z ++ cs.drop (i * 3 + Z.length), by simp; omega, ?_, ?_⟩
  · rw [List.append_assoc, List.take_left' (by rw [List.length_take]; omega)]
  · obtain ⟨m, rfl⟩ : ∃ m, n = m + 1 := ⟨n - 1, by omega⟩
    simp only [Nat.add_zero] at hst
    unfold Builtin.clear_
    simp [run_underlying Tryd.underlying22, zeroValue, typeInfo, hi0, hz0, ← hZ, hst]
theorem wpList_clear {ops : Array Oper} {rest : List Oper} {o : Oper} {a : Act} {w : World} {Q : Exit → Act → World → Prop} (hgd : o.guard = none) (s : Operand)
    (ho : o.op = .call { callee := .builtin .clear, args := #[s], argTypes := #[22] }) {g i n cap : Nat} {cs : List Value} (hs : a.eval s = .slice (some ⟨g, i * 3, none⟩) n cap) (hr : RowC w g cs) (hn : 0 < n) (hl : i * 3 + n * 3 ≤ cs.length)
    (h : ∀ cs' : List Value, cs'.length = cs.length → cs'.take (i * 3) = cs.take (i * 3) → wpList Tryd.prog ops Q rest (a.put o.dst (.tuple #[])) (w.setRow g cs'.toArray)) : wpList Tryd.prog ops Q (o :: rest) a w := by
  refine wpList_plain hgd fun K hK => ?_
  obtain ⟨cs', h1, h2, h3⟩ := run_clear_row (ty := o.type) (cap := cap) hr hn hl
  unfold Oper.wp execOp
  simp only [ho, resolve, invoke, builtin, Sem.run_bind, Sem.run_pure, Result.andThen_ok, List.map_toArray, List.map_cons, List.map_nil, hs, h3]
  exact hK _ _ (h cs' h1 h2)
theorem RowC.setRow {w : World} {g : Nat} {cs cs' : List Value} (h : RowC w g cs) : RowC (w.setRow g cs'.toArray) g cs' := setRow_heap w g _ _ _ _ h
theorem Moves.setRow {A B : Nat → Prop} {W X : World} (h : Moves A W B X) {g : Nat} (hg : g < W.heap.size → A g) (cs : Array Value) : Moves A W B (X.setRow g cs) :=
  ⟨h.os, h.tape, h.output, Nat.le_trans h.size (by simp), fun k hk hn => (setRow_other X g k cs (fun e => hn (by subst e; exact hg hk))).trans (h.same k hk hn), h.own⟩

end Go.Proofs.YtknilofnelhgmabDoor
