/- The contracts of impl.isNothing and of slices.IndexFunc over parts. The contract of slices.DeleteFunc over parts. How a row of parts is cleared from a place on. The contract of slices.DeleteFunc over parts. -/
import Derived.Test.YtfiefklhhchebabDoorSpSM
import Derived.Test.YtfiefklhhchebabDoorOpW78
import Derived.Laws.CopyRow
namespace Go.Proofs.YtfiefklhhchebabDoor
open Go.RowKit
open Doc1

set_option maxRecDepth 100000 in
set_option maxHeartbeats 2000000 in
theorem isNothing_any (p : Pt) (w : World) : Calls Tryd.prog 41 #[.agg #[.int .i64 p.keep, .string p.put, .string p.drop]] w fun e w' => e = .returned (.bool (decide (nth p))) ∧ Below w.heap.size w w' := by
  have e0 : p.put.toList = p.put.data.toList := ByteArray.toList_eq _
  have e1 : p.drop.toList = p.drop.data.toList := ByteArray.toList_eq _
  obtain ⟨y0, y1, y2⟩ := cells3_new' w (.int .i64 p.keep) (.string p.put) (.string p.drop)
  go_enter Tryd.func41, Tryd.ntmps41
  go_wp2
  all_goals
    go_ret
    refine ⟨?_, (Below.refl _ _).alloc (Nat.le_refl _) _⟩
    simp_all [nth]

set_option maxRecDepth 100000 in
set_option maxHeartbeats 2000000 in
theorem indexFunc_any {w : World} {g cap : Nat} {l : List Pt} (h : Pin w (some ⟨g, 0, none⟩) g cap l) :
    Calls Tryd.prog 50 #[.slice (some ⟨g, 0, none⟩) l.length cap, .func (.func 41) #[] #[]] w fun e w' => Below w.heap.size w w' ∧
      ((e = .returned (.int .i64 (-1)) ∧ ∀ p ∈ l, ¬ nth p) ∨ ∃ k : Nat, ∃ hk : k < l.length, e = .returned (.int .i64 (k : Int)) ∧ (∀ p ∈ l.take k, ¬ nth p) ∧ nth l[k]) := by
  have hcp := h.cap
  have hln := h.len
  have H := hide h
  clear h
  go_enter Tryd.func50, Tryd.ntmps50
  go_wp2
  go_loopw [8] (fun i wr => ∃ k : Nat, k ≤ l.length ∧ i = .int .i64 k ∧ Hid (∀ p ∈ l.take k, ¬ nth p) ∧ Below w.heap.size w wr) (fun i _ => l.length - (intOf i).toNat)
  case atStart => exact ⟨0, by omega, rfl, hide (by simp), Below.refl _ _⟩
  case round =>
    obtain ⟨k, hk, rfl, hno, hbel⟩ := hrel
    by_cases hlt : k < l.length
    · obtain ⟨c0, c1, c2⟩ := (H.out.later hbel).at'.ptat k hlt
      have N := hide (isNothing_any l[k] wr)
      by_cases hn : nth l[k]
      · rw [decide_eq_true hn] at N
        have HN := hide hn
        clear hn
        go_wp2_with (go_at_call 41; refine N.out.mono ?_; rintro e w2 ⟨rfl, hb2⟩)
        go_ret
        exact ⟨hbel.trans (hb2.mono hbel.size), .inr ⟨k, hlt, rfl, hno.out, HN.out⟩⟩
      · rw [decide_eq_false hn] at N
        have HY : Hid (∀ p ∈ l.take (k + 1), ¬ nth p) := hide (by
          rw [List.take_succ_eq_append_getElem hlt]
          intro p hp
          rcases List.mem_append.1 hp with c | c
          · exact hno.out p c
          · simp at c; subst c; exact hn)
        clear hn
        go_wp2_with (go_at_call 41; refine N.out.mono ?_; rintro e w2 ⟨rfl, hb2⟩)
        refine ⟨⟨k + 1, by omega, by go_num, HY, hbel.trans (hb2.mono hbel.size)⟩, by simp [intOf]; omega⟩
    · obtain rfl : k = l.length := by omega
      have hall := hno.out
      rw [List.take_length] at hall
      have HA := hide hall
      clear hall
      go_wp2
      go_ret
      exact ⟨hbel, .inl ⟨rfl, HA.out⟩⟩
end Go.Proofs.YtfiefklhhchebabDoor

namespace Go.Proofs.YtfiefklhhchebabDoor
open Go.RowKit
open Doc1

/-- A row that holds these cells, and nothing else. -/
def RowC (w : World) (g : Nat) (cs : List Value) : Prop := w.heap[g]? = some (.cells cs.toArray 54 (0, 0))
theorem RowC.lt {w : World} {g : Nat} {cs : List Value} (h : RowC w g cs) : g < w.heap.size := (Array.getElem?_eq_some_iff.1 h).1
theorem RowC.cls {w : World} {g : Nat} {cs : List Value} (h : RowC w g cs) : CLs w g cs := fun j u hu => by
  unfold World.cell?
  rw [show w.heap[g]? = _ from h]
  simpa using hu
theorem RowC.fz {w : World} {g : Nat} {cs : List Value} (h : RowC w g cs) (j : Nat) : w.frozen? ⟨g, j, none⟩ = false := by
  unfold World.frozen?
  rw [show w.heap[g]? = _ from h]
  simp
theorem RowC.set {w : World} {g : Nat} {cs : List Value} (h : RowC w g cs) (j : Nat) (v : Value) : RowC (w.setCell ⟨g, j, none⟩ v) g (cs.set j v) := by
  have hl := h.lt
  unfold RowC at *
  show (w.heap.modify g _)[g]? = _
  rw [Array.getElem?_eq_getElem (by rw [Array.size_modify]; exact hl), Array.getElem_modify_self]
  have e : w.heap[g] = .cells cs.toArray 54 (0, 0) := by rw [Array.getElem?_eq_getElem hl] at h; exact Option.some.inj h
  rw [e]
  simp
theorem RowC.up {w w1 : World} {g : Nat} {cs : List Value} (h : RowC w g cs) (hb : Below w.heap.size w w1) : RowC w1 g cs := (hb.block g h.lt).trans h
def flt0 (l : List Pt) : List Pt := l.filter (fun p => decide (¬ nth p))
theorem flt_take {l : List Pt} {k : Nat} (hk : k < l.length) : flt0 (l.take (k + 1)) = flt0 (l.take k) ++ (if nth l[k] then [] else [l[k]]) := by
  unfold flt0
  rw [List.take_succ_eq_append_getElem hk, List.filter_append]
  by_cases h : nth l[k] <;> simp [h]
theorem set3 {cs : List Value} {o : Nat} {a b c : Value} (h : o + 3 ≤ cs.length) : (((cs.set o a).set (o + 1) b).set (o + 2) c).take (o + 3) = cs.take o ++ [a, b, c] := by
  apply List.ext_getElem?
  intro j
  by_cases hj : j < o + 3
  · rw [List.getElem?_take_of_lt hj]
    by_cases h1 : j < o
    · rw [List.getElem?_append_left (by rw [List.length_take]; omega), List.getElem?_take_of_lt h1, List.getElem?_set_ne (by omega), List.getElem?_set_ne (by omega), List.getElem?_set_ne (by omega)]
    · rw [List.getElem?_append_right (by rw [List.length_take]; omega), List.length_take, Nat.min_eq_left (by omega)]
      have : j = o ∨ j = o + 1 ∨ j = o + 2 := by omega
      rcases this with rfl | rfl | rfl
      · rw [List.getElem?_set_ne (by omega), List.getElem?_set_ne (by omega), List.getElem?_set_self (by omega)]; simp
      · rw [List.getElem?_set_ne (by omega), List.getElem?_set_self (by simp; omega)]; simp
      · rw [List.getElem?_set_self (by simp; omega)]; simp
  · rw [List.getElem?_eq_none (by rw [List.length_take]; omega), List.getElem?_eq_none (by simp; omega)]
theorem drop3 {cs : List Value} {o m : Nat} {a b c : Value} (h : o + 3 ≤ m) : (((cs.set o a).set (o + 1) b).set (o + 2) c).drop m = cs.drop m := by
  rw [List.drop_set_of_lt (by omega), List.drop_set_of_lt (by omega), List.drop_set_of_lt (by omega)]
/-- How the row stands between two rounds: i parts are kept of the first j. -/
structure DelAt (l : List Pt) (z : List Value) (w : World) (g i j : Nat) (wr : World) : Prop where
  le : i ≤ j ∧ j ≤ l.length
  row : ∃ cs, RowC wr g cs ∧ cs.length = l.length * 3 + z.length ∧ cs.take (i * 3) = encP (flt0 (l.take j)) ∧ cs.drop (j * 3) = (encP l ++ z).drop (j * 3)
  len : i = (flt0 (l.take j)).length
  mv : Moves (fun k => k = g) w (fun k => k = g) wr
theorem DelAt.part {l : List Pt} {z : List Value} {w wr : World} {g i j : Nat} (h : DelAt l z w g i j wr) (hj : j < l.length) : wr.cell? ⟨g, j * 3, none⟩ = some (.int .i64 l[j].keep) ∧ wr.cell? ⟨g, j * 3 + 1, none⟩ = some (.string l[j].put) ∧ wr.cell? ⟨g, j * 3 + 2, none⟩ = some (.string l[j].drop) := by
  obtain ⟨cs, hr, hl, -, hd⟩ := h.row
  have he := encP_at l j hj
  have key : ∀ m, m < 3 → cs[j * 3 + m]? = (encP l)[j * 3 + m]? := fun m hm => by
    have := congrArg (fun x : List Value => x[m]?) hd
    simp only [List.getElem?_drop] at this
    rw [this, List.getElem?_append_left (by rw [encP_len]; omega)]
  exact ⟨hr.cls _ _ ((key 0 (by omega)).trans he.1), hr.cls _ _ ((key 1 (by omega)).trans he.2.1), hr.cls _ _ ((key 2 (by omega)).trans he.2.2)⟩
theorem DelAt.skip {l : List Pt} {z : List Value} {w wr w2 : World} {g i j : Nat} (h : DelAt l z w g i j wr) (hj : j < l.length) (hn : nth l[j]) (hb : Below wr.heap.size wr w2) : DelAt l z w g i (j + 1) w2 := by
  obtain ⟨cs, hr, hl, ht, hd⟩ := h.row
  have e : flt0 (l.take (j + 1)) = flt0 (l.take j) := by rw [flt_take hj, if_pos hn, List.append_nil]
  refine ⟨⟨by have := h.le.1; omega, hj⟩, ⟨cs, hr.up hb, hl, by rw [e]; exact ht, ?_⟩, by rw [e]; exact h.len, h.mv.trans (moves_up hb)⟩
  rw [show (j + 1) * 3 = j * 3 + 3 by omega, ← List.drop_drop, hd, List.drop_drop]
theorem DelAt.take {l : List Pt} {z : List Value} {w wr w2 : World} {g i j : Nat} (h : DelAt l z w g i j wr) (hj : j < l.length) (hij : i < j) (hn : ¬ nth l[j]) (hb : Below wr.heap.size wr w2) :
    DelAt l z w g (i + 1) (j + 1) (((w2.setCell ⟨g, i * 3, none⟩ (.int .i64 l[j].keep)).setCell ⟨g, i * 3 + 1, none⟩ (.string l[j].put)).setCell ⟨g, i * 3 + 2, none⟩ (.string l[j].drop)) := by
  obtain ⟨cs, hr, hl, ht, hd⟩ := h.row
  have e : flt0 (l.take (j + 1)) = flt0 (l.take j) ++ [l[j]] := by rw [flt_take hj, if_neg hn]
  refine ⟨⟨by omega, hj⟩, ⟨((cs.set (i * 3) (.int .i64 l[j].keep)).set (i * 3 + 1) (.string l[j].put)).set (i * 3 + 2) (.string l[j].drop), (((hr.up hb).set _ _).set _ _).set _ _, by simp [hl], ?_, ?_⟩, ?_, ?_⟩
  · rw [show (i + 1) * 3 = i * 3 + 3 by omega, set3 (by omega), ht, e, encP_snoc]
  · rw [drop3 (by omega), show (j + 1) * 3 = j * 3 + 3 by omega, ← List.drop_drop, hd, List.drop_drop]
  · rw [e, List.length_append, ← h.len]; rfl
  · exact ((((h.mv.trans (moves_up hb)).setCell (fun _ => rfl) _).setCell (fun _ => rfl) _).setCell (fun _ => rfl) _)
end Go.Proofs.YtfiefklhhchebabDoor

namespace Go.Proofs.YtfiefklhhchebabDoor
open Go.RowKit
open Doc1

theorem Tryd.infoPt : (Tryd.prog.info? 54).map (fun i => (i.zero, i.size, i.bytes)) = some (some (.agg #[.int .i64 0, .string ⟨#[]⟩, .string ⟨#[]⟩]), 3, 40) := by kernel_rfl
/-- What is cleared: the cells ahead stay. -/
theorem run_clear_row {w : World} {g i n cap : Nat} {cs : List Value} {ty : TypeId} (h : RowC w g cs) (hn : 0 < n) (hl : i * 3 + n * 3 ≤ cs.length) :
    ∃ cs' : List Value, cs'.length = cs.length ∧ cs'.take (i * 3) = cs.take (i * 3) ∧ (Builtin.clear_ #[28] ty #[.slice (some ⟨g, i * 3, none⟩) n cap]).run Tryd.prog w = .ok (.tuple #[]) (w.setRow g cs'.toArray) := by
  obtain ⟨i0, hi0, hz0, hz1, hz2⟩ := info_parts Tryd.infoPt
  obtain ⟨Z, hZ⟩ : ∃ Z, Z = (Builtin.zeroCells (Value.agg #[.int .i64 0, .string ⟨#[]⟩, .string ⟨#[]⟩]).cells n).toList := ⟨_, rfl⟩
  have zl : Z.length = n * 3 := by rw [hZ]; simp [Builtin.zeroCells, Value.cells]
  have z1 : ∀ v ∈ Z, v.oneCell' = true := by
    intro v hv
    rw [hZ] at hv
    simp only [Builtin.zeroCells, Value.cells, Array.toList_map, List.mem_map] at hv
    obtain ⟨j, -, rfl⟩ := hv
    have : j % 3 = 0 ∨ j % 3 = 1 ∨ j % 3 = 2 := by omega
    rcases this with e | e | e <;> simp [e, Value.oneCell']
  have hst := run_storeCells_at Tryd.prog g (i * 3) 54 Z 0 cs.toArray w h (by simp; omega) z1
  refine ⟨cs.take (i * 3) ++ Z ++ cs.drop (i * 3 + Z.length), by simp; omega, ?_, ?_⟩
  · rw [List.append_assoc, List.take_left' (by rw [List.length_take]; omega)]
  · obtain ⟨m, rfl⟩ : ∃ m, n = m + 1 := ⟨n - 1, by omega⟩
    simp only [Nat.add_zero] at hst
    unfold Builtin.clear_
    simp [run_underlying Tryd.underlying28, zeroValue, typeInfo, hi0, hz0, ← hZ, hst]
theorem wpList_clear {ops : Array Oper} {rest : List Oper} {o : Oper} {a : Act} {w : World} {Q : Exit → Act → World → Prop} (hgd : o.guard = none) (s : Operand)
    (ho : o.op = .call { callee := .builtin .clear, args := #[s], argTypes := #[28] }) {g i n cap : Nat} {cs : List Value} (hs : a.eval s = .slice (some ⟨g, i * 3, none⟩) n cap) (hr : RowC w g cs) (hn : 0 < n) (hl : i * 3 + n * 3 ≤ cs.length)
    (h : ∀ cs' : List Value, cs'.length = cs.length → cs'.take (i * 3) = cs.take (i * 3) → wpList Tryd.prog ops Q rest (a.put o.dst (.tuple #[])) (w.setRow g cs'.toArray)) : wpList Tryd.prog ops Q (o :: rest) a w := by
  refine wpList_plain hgd fun K hK => ?_
  obtain ⟨cs', h1, h2, h3⟩ := run_clear_row (ty := o.type) (cap := cap) hr hn hl
  unfold Oper.wp execOp
  simp only [ho, resolve, invoke, builtin, Sem.run_bind, Sem.run_pure, Result.andThen_ok, List.map_toArray, List.map_cons, List.map_nil, hs, h3]
  exact hK _ _ (h cs' h1 h2)
theorem RowC.setRow {w : World} {g : Nat} {cs cs' : List Value} (h : RowC w g cs) : RowC (w.setRow g cs'.toArray) g cs' := setRow_heap w g _ _ _ _ h
theorem Moves.setRow {A B : Nat → Prop} {W X : World} (h : Moves A W B X) {g : Nat} (hg : g < W.heap.size → A g) (cs : Array Value) : Moves A W B (X.setRow g cs) :=
  ⟨h.os, h.tape, h.output, Nat.le_trans h.size (by simp), fun k hk hn => (setRow_other X g k cs (fun e => hn (by subst e; exact hg hk))).trans (h.same k hk hn), h.own⟩

end Go.Proofs.YtfiefklhhchebabDoor

namespace Go.Proofs.YtfiefklhhchebabDoor
open Go.RowKit
open Doc1

set_option maxRecDepth 100000 in
set_option maxHeartbeats 4000000 in
theorem deleteFunc_any {w : World} {g cap : Nat} {l : List Pt} {z : List Value} (h : Pin w (some ⟨g, 0, none⟩) g cap l) (hr : RowC w g (encP l ++ z)) :
    Calls Tryd.prog 40 #[.slice (some ⟨g, 0, none⟩) l.length cap, .func (.func 41) #[] #[]] w fun e w' => e = .returned (.slice (some ⟨g, 0, none⟩) (flt0 l).length cap) ∧ Pin w' (some ⟨g, 0, none⟩) g cap (flt0 l) ∧ Moves (fun k => k = g) w (fun k => k = g) w' := by
  have X := hide (indexFunc_any h)
  have hln := h.len
  have hcap := h.cap
  have H := hide h
  have HR := hide hr
  clear h hr
  go_enter Tryd.func40, Tryd.ntmps40
  go_wp2_with fail
  refine X.out.mono ?_
  rintro e w1 ⟨hb1, ⟨rfl, hall⟩ | ⟨k, hk, rfl, hno, hn⟩⟩
  · have e : flt0 l = l := List.filter_eq_self.2 (fun p hp => by simpa using hall p hp)
    have HE := hide e
    clear e hall
    go_wp2
    go_ret
    rw [HE.out]
    exact ⟨rfl, H.out.later hb1, moves_up hb1⟩
  · have D0 : DelAt l z w g k (k + 1) w1 := by
      have e : flt0 (l.take k) = l.take k := List.filter_eq_self.2 (fun p hp => by simpa using hno p hp)
      have e2 : flt0 (l.take (k + 1)) = l.take k := by rw [flt_take hk, if_pos hn, List.append_nil, e]
      refine ⟨⟨by omega, hk⟩, ⟨encP l ++ z, HR.out.up hb1, by rw [List.length_append, encP_len], ?_, rfl⟩, by rw [e2, List.length_take]; omega, moves_up hb1⟩
      rw [e2]
      have : encP l = encP (l.take k) ++ encP (l.drop k) := by rw [← encP_app, List.take_append_drop]
      rw [this, List.append_assoc, List.take_left' (by rw [encP_len, List.length_take]; omega)]
    have HD := hide D0
    clear D0 hno hn X
    go_wp2_with fail
    go_loopw [5, 6] (fun a b wr => ∃ i j : Nat, a = .int .i64 i ∧ b = .int .i64 j ∧ i < j ∧ Hid (DelAt l z w g i j wr)) (fun _ b _ => l.length - (intOf b).toNat)
    case atStart => exact ⟨k, k + 1, rfl, by simp, by omega, HD⟩
    case round =>
      obtain ⟨i, j, rfl, rfl, hij, HDr⟩ := hrel
      have hjl := HDr.out.le.2
      by_cases hlt : j < l.length
      · obtain ⟨c0, c1, c2⟩ := HDr.out.part hlt
        have N := hide (fun o => isNothing_any l[j] (wr.alloc o))
        obtain ⟨y0, y1, y2⟩ := cells3_new' wr (.int .i64 l[j].keep) (.string l[j].put) (.string l[j].drop)
        have hB : Hid (∀ o w2, Below (wr.alloc o).heap.size (wr.alloc o) w2 → Below wr.heap.size wr w2) := hide (fun o w2 hb => ((Below.refl _ _).alloc (Nat.le_refl _) _).trans (hb.mono (by simp)))
        have ji : (j : Int) < (l.length : Int) := by omega
        have j0 : (0 : Int) ≤ (j : Int) := by omega
        by_cases hn : nth l[j]
        · rw [decide_eq_true hn] at N
          have HN := hide hn
          clear hn
          go_wp2_with (go_at_call 41; refine (N.out _).mono ?_; rintro e w2 ⟨rfl, hb2⟩)
          go_roundw
          case rel =>
            iterate 23 apply Exists.intro
            refine ⟨?_, rfl⟩
            exact ⟨i, j + 1, rfl, by go_num, by omega, hide (HDr.out.skip hlt HN.out (hB.out _ _ hb2))⟩
          case measure => simp [intOf]; omega
        · rw [decide_eq_false hn] at N
          have HN := hide hn
          clear hn
          have il : (i : Int) < (l.length : Int) := by omega
          have i0 : (0 : Int) ≤ (i : Int) := by omega
          have HT := hide (fun w2 hb => HDr.out.take hlt hij HN.out (w2 := w2) hb)
          have RR : Hid (∀ w2, Below wr.heap.size wr w2 → ∃ cs, RowC w2 g cs ∧ cs.length = l.length * 3 + z.length) := hide (fun w2 hb => by obtain ⟨cs, hr, hl, -, -⟩ := HDr.out.row; exact ⟨cs, hr.up hb, hl⟩)
          go_wp2_with (go_at_call 41; refine (N.out _).mono ?_; rintro e w2 ⟨rfl, hb2⟩; have z0 := (World.cell?_of_block (a := ⟨wr.heap.size, 0, none⟩) (hb2.block _ (by simp))).trans (y0 _); have z1 := (World.cell?_of_block (a := ⟨wr.heap.size, 1, none⟩) (hb2.block _ (by simp))).trans (y1 _); have z2 := (World.cell?_of_block (a := ⟨wr.heap.size, 2, none⟩) (hb2.block _ (by simp))).trans (y2 _); obtain ⟨cs, hrc, hcl⟩ := RR.out w2 (hB.out _ _ hb2); have q0 := hrc.cls (i * 3) _ (List.getElem?_eq_getElem (by omega)); have f0 := hrc.fz (i * 3); have q1 := (hrc.set (i * 3) (.int .i64 l[j].keep)).cls (i * 3 + 1) _ (List.getElem?_eq_getElem (by simp; omega)); have f1 := (hrc.set (i * 3) (.int .i64 l[j].keep)).fz (i * 3 + 1); have q2 := ((hrc.set (i * 3) (.int .i64 l[j].keep)).set (i * 3 + 1) (.string l[j].put)).cls (i * 3 + 2) _ (List.getElem?_eq_getElem (by simp; omega)); have f2 := ((hrc.set (i * 3) (.int .i64 l[j].keep)).set (i * 3 + 1) (.string l[j].put)).fz (i * 3 + 2))
          go_roundw
          case rel =>
            iterate 23 apply Exists.intro
            refine ⟨?_, rfl⟩
            exact ⟨i + 1, j + 1, by go_num, by go_num, by omega, hide (HT.out _ (hB.out _ _ hb2))⟩
          case measure => simp [intOf]; omega
      · obtain rfl : j = l.length := by omega
        obtain ⟨cs, hrc, hcl, htk, -⟩ := HDr.out.row
        have hli := hide HDr.out.len
        have hmv := hide HDr.out.mv
        have HC := hide (And.intro hcl htk)
        have i1 : (i : Int) ≤ (l.length : Int) := by omega
        have i0 : (0 : Int) ≤ (i : Int) := by omega
        rw [List.take_length] at hli HC
        have hil : i < l.length := by omega
        clear HDr htk hjl
        go_wp2_with (refine wpList_clear (by rfl) _ (by rfl) (g := g) (i := i) (n := l.length - i) (cs := cs) (by rfl) hrc (by omega) (by omega) ?_)
        intro cs' k1 k2
        go_wp2
        go_ret
        have e1 : cs'.take (i * 3) = encP (flt0 l) := k2.trans HC.out.2
        have hsub : (flt0 l).length ≤ l.length := List.length_filter_le _ _
        have HRR := (RowC.setRow (cs' := cs') hrc)
        refine ⟨by rw [← hli.out]; rfl, ⟨⟨Nat.le_trans hsub hcap.1, hcap.2⟩, fun m hm => ?_, Nat.le_trans hsub hln, fun m u hu => ?_, HRR.lt, fun _ => rfl⟩, hmv.out.setRow (fun _ => rfl) _⟩
        · obtain ⟨m', hm', e⟩ := List.mem_iff_getElem.1 ((List.mem_filter.1 (List.getElem_mem hm)).1)
          rw [show (flt0 l)[m] = l[m'] from e.symm]
          exact H.out.sz m' hm'
        · refine HRR.cls m u ?_
          rw [← e1] at hu
          rw [List.getElem?_take] at hu
          split at hu
          · exact hu
          · cases hu
end Go.Proofs.YtfiefklhhchebabDoor
