/- Atoms that are put behind a row of one's own. -/
import Derived.Test.YtnhooalibadeeabDoorSqIn
import Derived.Test.YtnhooalibadeeabDoorFrm
import Derived.Test.YtnhooalibadeeabDoorAppB
import Derived.Test.YtnhooalibadeeabDoorShelf
set_option linter.unusedVariables false
namespace Go.Proofs.YtnhooalibadeeabDoor
open Go.RowKit
open Doc1

theorem infoAm : (Tryd.prog.info? 47).map (fun i => (i.zero, i.size, i.bytes)) = some (some (.agg #[.int .i64 0, .int .i64 0, .int .i64 0, .int .i64 0, .string ⟨#[]⟩, .bool false]), 6, 56) := by kernel_rfl
theorem sizeSeqI : (Tryd.prog.info? 28).map (·.size) = some 1 := by kernel_rfl
theorem own_newA (w : World) (e : TypeId) (cs : Array Value) (n size : Nat) (hn : cs.size = n * size) (hl : n ≤ 1000000) : (w.alloc (.cells cs e)).ownsRow w.heap.size e size (.slice (some ⟨w.heap.size, 0, none⟩) n n) n cs.toList :=
  ⟨by rw [Array.length_toList]; exact hn, .inr ⟨w.heap.size, n, cs, rfl, Nat.le_refl _, heap_alloc_new w _, Nat.le_refl _, by unfold maxLen; omega, hn, List.take_of_length_le (by rw [Array.length_toList]; omega)⟩⟩
theorem AmIn.one (w : World) (x : Am) : AmIn (w.alloc (.cells #[.int .i64 x.time, .int .i64 x.actor, .int .i64 x.above, .int .i64 x.maker, .string x.byte, .bool x.gone] 47)) (some ⟨w.heap.size, 0, none⟩) 1 [x] :=
  (show AmOwn _ w.heap.size _ [x] from own_newA w 47 #[.int .i64 x.time, .int .i64 x.actor, .int .i64 x.above, .int .i64 x.maker, .string x.byte, .bool x.gone] 1 6 rfl (by omega)).inn.elim fun a ⟨c, e, h⟩ => by cases e; exact h

set_option maxHeartbeats 400000 in
theorem clone_A (s : ByteArray) (w : World) (hs : s.size ≤ 10000000) :
    Calls Tryd.prog 53 #[.string s] w fun e w' => e = .returned (.string s) ∧ Below w.heap.size w w' := by
  have H := hide (Tryd.stringslite_Clone s w (by omega))
  go_enter Tryd.func53, Tryd.ntmps53
  go_wp2_with (go_at_call 74; refine H.out.mono ?_; rintro e w' ⟨rfl, hb⟩)
  go_ret
  exact ⟨rfl, hb⟩

theorem run_no_more (w : World) (ty : TypeId) (i : TypeInfo) (hi : Tryd.prog.info? 47 = some i) (a0 : Option Addr) (n c : Nat) (hn : n ≤ c) (ad : Option Addr) (cap : Nat) : (Builtin.append_ #[26, 26] ty #[.slice a0 n c, .slice ad 0 cap]).run Tryd.prog w = .ok (.slice a0 n c) w := by
  cases a0 <;> cases ad <;> simp [Builtin.append_, run_underlying Tryd.underlying26, sizeOf, typeInfo, hi, Builtin.lenOf, Builtin.firstCells, storeCells, loadCells, loadCellsFrom, hn]

/-- A row put behind one of one's own. -/
theorem append_ams {ops : Array Oper} {rest : List Oper} {o : Oper} {a : Act} {Q : Exit → Act → World → Prop} (w : World) (hgd : o.guard = none) (s x : Operand)
    (ho : o.op = .call { callee := .builtin .append, args := #[s, x], argTypes := #[26, 26] }) (B : Nat) (v0 : Value) (l0 : List Am) (own0 : AmOwn w B v0 l0) (ad : Option Addr) (cap : Nat) (l : List Am) (hl : l0.length + l.length ≤ 1000000)
    (hs : a.eval s = v0) (hx : a.eval x = .slice ad l.length cap) (hin : AmIn w ad cap l) (hB : B ≤ w.heap.size)
    (h : ∀ v' w', AmOwn w' B v' (l0 ++ l) → w.grownBy w' v0.ownBlock → (v'.ownBlock = v0.ownBlock ∨ ∀ y, v'.ownBlock = some y → w.heap.size ≤ y) → wpList Tryd.prog ops Q rest (a.put o.dst v') w') :
    wpList Tryd.prog ops Q (o :: rest) a w := by
  obtain ⟨i0, hi0, hz0, hz1, hz2⟩ := info_parts infoAm
  by_cases h0 : l = []
  · subst h0
    obtain ⟨a0, c0, rfl, hle, -⟩ := own_shp own0
    refine wpList_plain hgd fun K hK => ?_
    have hr := run_no_more w o.type i0 hi0 a0 l0.length c0 hle ad cap
    unfold Oper.wp
    simp [execOp, ho, resolve, invoke, builtin, hs, hx, hr, Result.andThen]
    exact hK _ _ (h _ _ (by rw [List.append_nil]; exact own0) (grown_self _ _) (.inl rfl))
  · obtain ⟨g, rfl, hg, hc⟩ := hin.ad h0
    have hp := List.length_pos_iff.2 h0
    have hnews : ∀ j u, (encAm l)[j]? = some u → w.cell? ((⟨g, 0, none⟩ : Addr).add j) = some u := fun j u hu => by
      rw [addr0]
      exact hc j u hu
    have hone : ∀ u ∈ encAm l, u.oneCell' = true := fun u hu => by
      unfold encAm at hu
      obtain ⟨b, -, hb2⟩ := List.mem_flatMap.1 hu
      simp [amC] at hb2
      rcases hb2 with rfl | rfl | rfl | rfl | rfl | rfl <;> rfl
    refine wpList_append_loc _ hgd _ _ 26 ho B 47 i0 (.agg #[.int .i64 0, .int .i64 0, .int .i64 0, .int .i64 0, .string ⟨#[]⟩, .bool false]) 6 56 Tryd.underlying26 hi0 hz0 hz1 hz2 rfl (by decide) _ _ _ hs own0 ⟨g, 0, none⟩ l.length cap (encAm l) hx (encAm_len l) hnews hone (by unfold maxLen; omega) (by omega) hB ?_ hp
    intro v3 w3 own3 grow3 loc3
    exact h v3 w3 (by unfold AmOwn; rw [encAm_app, List.length_append]; exact own3) grow3 loc3
end Go.Proofs.YtnhooalibadeeabDoor
