/- Those that are not gone: slices.DeleteFunc over a row of numbers of one's own; shownOf. -/
import Derived.Test.YtnhooalibadeeaaDoorSqO2
import Derived.Laws.MakeOwn
set_option linter.unusedVariables false
namespace Go.Proofs.YtnhooalibadeeaaDoor
open Go.RowKit
open Doc1

/-- The atom with a number is gone. -/
def gnN (l : List Am) (j : Nat) : Bool := match l[j]? with
  | some x => x.gone
  | none => false
theorem gnN_at {l : List Am} {j : Nat} (hj : j < l.length) : gnN l j = l[j].gone := by unfold gnN; rw [List.getElem?_eq_getElem hj]
def shw (l : List Am) (o : List Nat) : List Nat := o.filter (fun x => !gnN l x)
theorem shw_take {l : List Am} {o : List Nat} {k : Nat} (hk : k < o.length) : shw l (o.take (k + 1)) = shw l (o.take k) ++ (if gnN l o[k] then [] else [o[k]]) := by
  unfold shw
  rw [List.take_succ_eq_append_getElem hk, List.filter_append]
  cases h : gnN l o[k] <;> simp [h]
theorem shw_le (l : List Am) (o : List Nat) : (shw l o).length ≤ o.length := List.length_filter_le _ _

set_option maxRecDepth 100000 in
set_option maxHeartbeats 1000000 in
theorem shown1_any {w : World} {g cap : Nat} {l : List Am} (hc : CLs w g (encAm l)) (bl : Nat) (hl : w.heap[bl]? = some (.cells #[.slice (some ⟨g, 0, none⟩) l.length cap] 23)) (k : Nat) (hk : k < l.length) :
    Calls Tryd.prog 74 #[.int .i64 (k : Int), .pointer (some ⟨bl, 0, none⟩)] w fun e w' => e = .returned (.bool (gnN l k)) ∧ w' = w := by
  have c5 := (hc.amat k hk).2.2.2.2.2
  have k0 : w.cell? ⟨bl, 0, none⟩ = some (.slice (some ⟨g, 0, none⟩) l.length cap) := by rw [cell_of_row _ bl 0 _ _ (0, 0) hl]; rfl
  rw [gnN_at hk]
  obtain ⟨y, hy⟩ : ∃ y, y = l[k].gone := ⟨_, rfl⟩
  rw [← hy] at c5 ⊢
  have qk1 : (0 : Int) ≤ (k : Int) := by omega
  have qk2 : (k : Int) < (l.length : Int) := by omega
  clear hy hc hl
  go_enter Tryd.func74, Tryd.ntmps74
  go_wp2
  go_ret
  exact ⟨rfl, rfl⟩

set_option maxRecDepth 100000 in
set_option maxHeartbeats 2000000 in
theorem indexG_any {w : World} {B : Nat} {l : List Am} (bl : Nat) (hC : ∀ k, k < l.length → Calls Tryd.prog 74 #[.int .i64 (k : Int), .pointer (some ⟨bl, 0, none⟩)] w fun e w' => e = .returned (.bool (gnN l k)) ∧ w' = w) {v : Value} {o : List Nat} (hv : IOwn w B v (oI o)) (ho : ∀ j ∈ o, j < l.length) (hol : o.length ≤ 1000000) :
    Calls Tryd.prog 77 #[v, .func (.func 74) #[] #[.pointer (some ⟨bl, 0, none⟩)]] w fun e w' => e = .returned (.int .i64 (fidx (gnN l) o)) ∧ w' = w := by
  obtain ⟨R, hR⟩ : ∃ R, R = fidx (gnN l) o := ⟨_, rfl⟩
  rw [← hR]
  have HR := hide hR
  have C := hide hC
  obtain ⟨av, cv, rfl, hle, hmx⟩ := own_shp hv
  have HV : Hid (∀ k (hk : k < o.length), ∃ gv, av = some ⟨gv, 0, none⟩ ∧ w.cell? ⟨gv, k, none⟩ = some (.int .i64 ((o[k] : Nat) : Int))) := hide (fun k hk => by
    obtain ⟨gv, cap2, e, -, -, -, h3, h4, -⟩ := own_cat hv (by rw [oI_len]; omega)
    cases e
    refine ⟨gv, rfl, h4 k _ ?_⟩
    rw [ints_at (oI o) (by rw [oI_len]; exact hk), oI_at])
  have HO := hide ho
  rw [oI_len] at hle ⊢
  unfold maxLen at hmx
  clear hR hC ho hv
  go_enter Tryd.func77, Tryd.ntmps77
  go_wp2
  go_loopw [8] (fun i wr => ∃ k : Nat, k ≤ o.length ∧ i = .int .i64 k ∧ Hid (∀ j ∈ o.take k, gnN l j = false) ∧ wr = w) (fun i _ => o.length - (intOf i).toNat)
  case atStart => exact ⟨0, by omega, rfl, hide (by simp), rfl⟩
  case round =>
    obtain ⟨k, hk, rfl, hno, hw⟩ := hrel
    subst hw
    by_cases hlt : k < o.length
    · obtain ⟨gv, rfl, c0⟩ := HV.out k hlt
      have N := hide (C.out o[k] (HO.out _ (List.getElem_mem hlt)))
      obtain ⟨j, hj⟩ : ∃ j, j = o[k] := ⟨_, rfl⟩
      rw [← hj] at N c0
      have HJ := hide hj
      clear hj
      cases hp : gnN l j with
      | true =>
        rw [hp] at N
        have HP := hide hp
        clear hp
        go_wp2_with (go_at_call 74; refine N.out.mono ?_; rintro e w2 ⟨rfl, hw2⟩; replace hw2 := hw2.symm; subst hw2)
        go_ret
        refine ⟨ret_i2 ?_, rfl⟩
        rw [HR.out, fidx_some hlt hno.out (by rw [← HJ.out]; exact HP.out)]
      | false =>
        have HY : Hid (∀ i ∈ o.take (k + 1), gnN l i = false) := hide (by
          rw [List.take_succ_eq_append_getElem hlt]
          intro p hq
          rcases List.mem_append.1 hq with c | c
          · exact hno.out p c
          · simp at c; subst c; rw [← HJ.out]; exact hp)
        rw [hp] at N
        clear hp
        go_wp2_with (go_at_call 74; refine N.out.mono ?_; rintro e w2 ⟨rfl, hw2⟩; replace hw2 := hw2.symm; subst hw2)
        exact ⟨⟨k + 1, by omega, by go_num, HY, by trivial⟩, by simp [intOf]; omega⟩
    · obtain rfl : k = o.length := by omega
      have hall := hno.out
      rw [List.take_length] at hall
      have HA := hide hall
      clear hall
      go_wp2
      go_ret
      refine ⟨ret_i2 ?_, rfl⟩
      rw [HR.out, fidx_none HA.out]

/-- A row of numbers, whole. -/
def RowI (w : World) (g : Nat) (cs : List Value) : Prop := w.heap[g]? = some (.cells cs.toArray 3 (0, 0))
theorem RowI.set {w : World} {g : Nat} {cs : List Value} (h : RowI w g cs) (j : Nat) (v : Value) : RowI (w.setCell ⟨g, j, none⟩ v) g (cs.set j v) := by
  have := cell_put h j v
  unfold RowI
  rw [this]
  simp
theorem RowI.cell {w : World} {g : Nat} {cs : List Value} (h : RowI w g cs) (j : Nat) : w.cell? ⟨g, j, none⟩ = cs[j]? := by
  rw [cell_of_row w g j _ _ (0, 0) h]
  simp
theorem RowI.setRow {w : World} {g : Nat} {cs cs' : List Value} (h : RowI w g cs) : RowI (w.setRow g cs'.toArray) g cs' := setRow_heap w g _ _ _ _ h
theorem run_clear_ints {w : World} {g i n cap : Nat} {cs : List Value} {ty : TypeId} (h : RowI w g cs) (hn : 0 < n) (hl : i + n ≤ cs.length) :
    ∃ cs' : List Value, cs'.length = cs.length ∧ cs'.take i = cs.take i ∧ (Builtin.clear_ #[43] ty #[.slice (some ⟨g, i, none⟩) n cap]).run Tryd.prog w = .ok (.tuple #[]) (w.setRow g cs'.toArray) := by
  have hinfo : (Tryd.prog.info? 3).map (fun i => (i.zero, i.size, i.bytes)) = some (some (.int .i64 0), 1, 8) := by kernel_rfl
  obtain ⟨i0, hi0, hz0, hz1, hz2⟩ := info_parts hinfo
  obtain ⟨Z, hZ⟩ : ∃ Z, Z = (Builtin.zeroCells (Value.int .i64 0).cells n).toList := ⟨_, rfl⟩
  have zl : Z.length = n := by rw [hZ]; simp [Builtin.zeroCells, Value.cells]
  have z1 : ∀ v ∈ Z, v.oneCell' = true := by
    intro v hv
    rw [hZ] at hv
    simp only [Builtin.zeroCells, Value.cells, Array.toList_map, List.mem_map] at hv
    obtain ⟨j, -, rfl⟩ := hv
    have : j % 1 = 0 := by omega
    simp [this, Value.oneCell']
  have hst := run_storeCells_at Tryd.prog g i 3 Z 0 cs.toArray w h (by simp; omega) z1
  refine ⟨cs.take i ++ Z ++ cs.drop (i + Z.length), by simp; omega, ?_, ?_⟩
  · rw [List.append_assoc, List.take_left' (by rw [List.length_take]; omega)]
  · obtain ⟨m, rfl⟩ : ∃ m, n = m + 1 := ⟨n - 1, by omega⟩
    simp only [Nat.add_zero] at hst
    unfold Builtin.clear_
    simp [run_underlying Tryd.underlying43, zeroValue, typeInfo, hi0, hz0, ← hZ, hst]
theorem wpList_clear_ints {ops : Array Oper} {rest : List Oper} {o : Oper} {a : Act} {w : World} {Q : Exit → Act → World → Prop} (hgd : o.guard = none) (s : Operand)
    (ho : o.op = .call { callee := .builtin .clear, args := #[s], argTypes := #[43] }) {g i n cap : Nat} {cs : List Value} (hs : a.eval s = .slice (some ⟨g, i, none⟩) n cap) (hr : RowI w g cs) (hn : 0 < n) (hl : i + n ≤ cs.length)
    (h : ∀ cs' : List Value, cs'.length = cs.length → cs'.take i = cs.take i → wpList Tryd.prog ops Q rest (a.put o.dst (.tuple #[])) (w.setRow g cs'.toArray)) : wpList Tryd.prog ops Q (o :: rest) a w := by
  refine wpList_plain hgd fun K hK => ?_
  obtain ⟨cs', h1, h2, h3⟩ := run_clear_ints (ty := o.type) (cap := cap) hr hn hl
  unfold Oper.wp execOp
  simp only [ho, resolve, invoke, builtin, Sem.run_bind, Sem.run_pure, Result.andThen_ok, List.map_toArray, List.map_cons, List.map_nil, hs, h3]
  exact hK _ _ (h cs' h1 h2)
end Go.Proofs.YtnhooalibadeeaaDoor
