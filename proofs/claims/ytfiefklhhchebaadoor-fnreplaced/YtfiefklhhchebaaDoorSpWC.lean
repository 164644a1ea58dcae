/- The contracts of impl.isNothing and of slices.IndexFunc over parts. The contract of slices.DeleteFunc over parts. How a row of parts is cleared from a place on. The contract of slices.DeleteFunc over parts. The contract of impl.spliceAll at one splice. The contract of impl.SpliceOp. -/
import Derived.Test.YtfiefklhhchebaaDoorSpSM
import Derived.Test.YtfiefklhhchebaaDoorOpW78
import Derived.Laws.CopyRow
import Derived.Deep.RegionLaw
import Derived.Deep.AppendLies
import Derived.Deep.CutRange
namespace Go.Proofs.YtfiefklhhchebaaDoor
open Go.RowKit
open Doc1

set_option maxRecDepth 100000 in
set_option maxHeartbeats 2000000 in
theorem isNothing_any (p : Pt) (w : World) : Calls Tryd.prog 59 #[.agg #[.int .i64 p.keep, .string p.put, .string p.drop]] w fun e w' => e = .returned (.bool (decide (nth p))) ∧ Below w.heap.size w w' := by
  have e0 : p.put.toList = p.put.data.toList := ByteArray.toList_eq _
  have e1 : p.drop.toList = p.drop.data.toList := ByteArray.toList_eq _
  obtain ⟨y0, y1, y2⟩ := cells3_new' w (.int .i64 p.keep) (.string p.put) (.string p.drop)
  go_enter Tryd.func59, Tryd.ntmps59
  go_wp2
  all_goals
    go_ret
    refine ⟨?_, (Below.refl _ _).alloc (Nat.le_refl _) _⟩
    simp_all [nth]

set_option maxRecDepth 100000 in
set_option maxHeartbeats 2000000 in
theorem indexFunc_any {w : World} {g cap : Nat} {l : List Pt} (h : Pin w (some ⟨g, 0, none⟩) g cap l) :
    Calls Tryd.prog 71 #[.slice (some ⟨g, 0, none⟩) l.length cap, .func (.func 59) #[] #[]] w fun e w' => Below w.heap.size w w' ∧
      ((e = .returned (.int .i64 (-1)) ∧ ∀ p ∈ l, ¬ nth p) ∨ ∃ k : Nat, ∃ hk : k < l.length, e = .returned (.int .i64 (k : Int)) ∧ (∀ p ∈ l.take k, ¬ nth p) ∧ nth l[k]) := by
  have hcp := h.cap
  have hln := h.len
  have H := hide h
  clear h
  go_enter Tryd.func71, Tryd.ntmps71
  go_wp2
  go_loopw [8] (fun i wr => ∃ k : Nat, k ≤ l.length ∧ i = .int .i64 k ∧ Hid (∀ p ∈ l.take k, ¬ nth p) ∧ Below w.heap.size w wr) (fun i _ => l.length - (intOf i).toNat)
  case atStart => exact ⟨0, by omega, rfl, hide (by simp), Below.refl _ _⟩
  case round =>
    obtain ⟨k, hk, rfl, hno, hbel⟩ := hrel
    by_cases hlt : k < l.length
    · obtain ⟨c0, c1, c2⟩ := (H.out.later hbel).at'.ptat k hlt
      have N := hide (isNothing_any l[k] wr)
      by_cases hn : nth l[k]
      · rw [decide_eq_true hn] at N
        have HN := hide hn
        clear hn
        go_wp2_with (go_at_call 59; refine N.out.mono ?_; rintro e w2 ⟨rfl, hb2⟩)
        go_ret
        exact ⟨hbel.trans (hb2.mono hbel.size), .inr ⟨k, hlt, rfl, hno.out, HN.out⟩⟩
      · rw [decide_eq_false hn] at N
        have HY : Hid (∀ p ∈ l.take (k + 1), ¬ nth p) := hide (by
          rw [List.take_succ_eq_append_getElem hlt]
          intro p hp
          rcases List.mem_append.1 hp with c | c
          · exact hno.out p c
          · simp at c; subst c; exact hn)
        clear hn
        go_wp2_with (go_at_call 59; refine N.out.mono ?_; rintro e w2 ⟨rfl, hb2⟩)
        refine ⟨⟨k + 1, by omega, by go_num, HY, hbel.trans (hb2.mono hbel.size)⟩, by simp [intOf]; omega⟩
    · obtain rfl : k = l.length := by omega
      have hall := hno.out
      rw [List.take_length] at hall
      have HA := hide hall
      clear hall
      go_wp2
      go_ret
      exact ⟨hbel, .inl ⟨rfl, HA.out⟩⟩
end Go.Proofs.YtfiefklhhchebaaDoor

namespace Go.Proofs.YtfiefklhhchebaaDoor
open Go.RowKit
open Doc1

/-- A row that holds these cells, and nothing else. -/
def RowC (w : World) (g : Nat) (cs : List Value) : Prop := w.heap[g]? = some (.cells cs.toArray 74 (0, 0))
theorem RowC.lt {w : World} {g : Nat} {cs : List Value} (h : RowC w g cs) : g < w.heap.size := (Array.getElem?_eq_some_iff.1 h).1
theorem RowC.cls {w : World} {g : Nat} {cs : List Value} (h : RowC w g cs) : CLs w g cs := fun j u hu => by
  unfold World.cell?
  rw [show w.heap[g]? = _ from h]
  simpa using hu
theorem RowC.fz {w : World} {g : Nat} {cs : List Value} (h : RowC w g cs) (j : Nat) : w.frozen? ⟨g, j, none⟩ = false := by
  unfold World.frozen?
  rw [show w.heap[g]? = _ from h]
  simp
theorem RowC.set {w : World} {g : Nat} {cs : List Value} (h : RowC w g cs) (j : Nat) (v : Value) : RowC (w.setCell ⟨g, j, none⟩ v) g (cs.set j v) := by
  have hl := h.lt
  unfold RowC at *
  show (w.heap.modify g _)[g]? = _
  rw [Array.getElem?_eq_getElem (by rw [Array.size_modify]; exact hl), Array.getElem_modify_self]
  have e : w.heap[g] = .cells cs.toArray 74 (0, 0) := by rw [Array.getElem?_eq_getElem hl] at h; exact Option.some.inj h
  rw [e]
  simp
theorem RowC.up {w w1 : World} {g : Nat} {cs : List Value} (h : RowC w g cs) (hb : Below w.heap.size w w1) : RowC w1 g cs := (hb.block g h.lt).trans h
def flt0 (l : List Pt) : List Pt := l.filter (fun p => decide (¬ nth p))
theorem flt_take {l : List Pt} {k : Nat} (hk : k < l.length) : flt0 (l.take (k + 1)) = flt0 (l.take k) ++ (if nth l[k] then [] else [l[k]]) := by
  unfold flt0
  rw [List.take_succ_eq_append_getElem hk, List.filter_append]
  by_cases h : nth l[k] <;> simp [h]
theorem set3 {cs : List Value} {o : Nat} {a b c : Value} (h : o + 3 ≤ cs.length) : (((cs.set o a).set (o + 1) b).set (o + 2) c).take (o + 3) = cs.take o ++ [a, b, c] := by
  apply List.ext_getElem?
  intro j
  by_cases hj : j < o + 3
  · rw [List.getElem?_take_of_lt hj]
    by_cases h1 : j < o
    · rw [List.getElem?_append_left (by rw [List.length_take]; omega), List.getElem?_take_of_lt h1, List.getElem?_set_ne (by omega), List.getElem?_set_ne (by omega), List.getElem?_set_ne (by omega)]
    · rw [List.getElem?_append_right (by rw [List.length_take]; omega), List.length_take, Nat.min_eq_left (by omega)]
      have : j = o ∨ j = o + 1 ∨ j = o + 2 := by omega
      rcases this with rfl | rfl | rfl
      · rw [List.getElem?_set_ne (by omega), List.getElem?_set_ne (by omega), List.getElem?_set_self (by omega)]; simp
      · rw [List.getElem?_set_ne (by omega), List.getElem?_set_self (by simp; omega)]; simp
      · rw [List.getElem?_set_self (by simp; omega)]; simp
  · rw [List.getElem?_eq_none (by rw [List.length_take]; omega), List.getElem?_eq_none (by simp; omega)]
theorem drop3 {cs : List Value} {o m : Nat} {a b c : Value} (h : o + 3 ≤ m) : (((cs.set o a).set (o + 1) b).set (o + 2) c).drop m = cs.drop m := by
  rw [List.drop_set_of_lt (by omega), List.drop_set_of_lt (by omega), List.drop_set_of_lt (by omega)]
/-- How the row stands between two rounds: i parts are kept of the first j. -/
structure DelAt (l : List Pt) (z : List Value) (w : World) (g i j : Nat) (wr : World) : Prop where
  le : i ≤ j ∧ j ≤ l.length
  row : ∃ cs, RowC wr g cs ∧ cs.length = l.length * 3 + z.length ∧ cs.take (i * 3) = encP (flt0 (l.take j)) ∧ cs.drop (j * 3) = (encP l ++ z).drop (j * 3)
  len : i = (flt0 (l.take j)).length
  mv : Moves (fun k => k = g) w (fun k => k = g) wr
theorem DelAt.part {l : List Pt} {z : List Value} {w wr : World} {g i j : Nat} (h : DelAt l z w g i j wr) (hj : j < l.length) : wr.cell? ⟨g, j * 3, none⟩ = some (.int .i64 l[j].keep) ∧ wr.cell? ⟨g, j * 3 + 1, none⟩ = some (.string l[j].put) ∧ wr.cell? ⟨g, j * 3 + 2, none⟩ = some (.string l[j].drop) := by
  obtain ⟨cs, hr, hl, -, hd⟩ := h.row
  have he := encP_at l j hj
  have key : ∀ m, m < 3 → cs[j * 3 + m]? = (encP l)[j * 3 + m]? := fun m hm => by
    have := congrArg (fun x : List Value => x[m]?) hd
    simp only [List.getElem?_drop] at this
    rw [this, List.getElem?_append_left (by rw [encP_len]; omega)]
  exact ⟨hr.cls _ _ ((key 0 (by omega)).trans he.1), hr.cls _ _ ((key 1 (by omega)).trans he.2.1), hr.cls _ _ ((key 2 (by omega)).trans he.2.2)⟩
theorem DelAt.skip {l : List Pt} {z : List Value} {w wr w2 : World} {g i j : Nat} (h : DelAt l z w g i j wr) (hj : j < l.length) (hn : nth l[j]) (hb : Below wr.heap.size wr w2) : DelAt l z w g i (j + 1) w2 := by
  obtain ⟨cs, hr, hl, ht, hd⟩ := h.row
  have e : flt0 (l.take (j + 1)) = flt0 (l.take j) := by rw [flt_take hj, if_pos hn, List.append_nil]
  refine ⟨⟨by have := h.le.1; omega, hj⟩, ⟨cs, hr.up hb, hl, by rw [e]; exact ht, ?_⟩, by rw [e]; exact h.len, h.mv.trans (moves_up hb)⟩
  rw [show (j + 1) * 3 = j * 3 + 3 by omega, ← List.drop_drop, hd, List.drop_drop]
theorem DelAt.take {l : List Pt} {z : List Value} {w wr w2 : World} {g i j : Nat} (h : DelAt l z w g i j wr) (hj : j < l.length) (hij : i < j) (hn : ¬ nth l[j]) (hb : Below wr.heap.size wr w2) :
    DelAt l z w g (i + 1) (j + 1) (((w2.setCell ⟨g, i * 3, none⟩ (.int .i64 l[j].keep)).setCell ⟨g, i * 3 + 1, none⟩ (.string l[j].put)).setCell ⟨g, i * 3 + 2, none⟩ (.string l[j].drop)) := by
  obtain ⟨cs, hr, hl, ht, hd⟩ := h.row
  have e : flt0 (l.take (j + 1)) = flt0 (l.take j) ++ [l[j]] := by rw [flt_take hj, if_neg hn]
  refine ⟨⟨by omega, hj⟩, ⟨((cs.set (i * 3) (.int .i64 l[j].keep)).set (i * 3 + 1) (.string l[j].put)).set (i * 3 + 2) (.string l[j].drop), (((hr.up hb).set _ _).set _ _).set _ _, by simp [hl], ?_, ?_⟩, ?_, ?_⟩
  · rw [show (i + 1) * 3 = i * 3 + 3 by omega, set3 (by omega), ht, e, encP_snoc]
  · rw [drop3 (by omega), show (j + 1) * 3 = j * 3 + 3 by omega, ← List.drop_drop, hd, List.drop_drop]
  · rw [e, List.length_append, ← h.len]; rfl
  · exact ((((h.mv.trans (moves_up hb)).setCell (fun _ => rfl) _).setCell (fun _ => rfl) _).setCell (fun _ => rfl) _)
end Go.Proofs.YtfiefklhhchebaaDoor

namespace Go.Proofs.YtfiefklhhchebaaDoor
open Go.RowKit
open Doc1

theorem Tryd.infoPt : (Tryd.prog.info? 74).map (fun i => (i.zero, i.size, i.bytes)) = some (some (.agg #[.int .i64 0, .string ⟨#[]⟩, .string ⟨#[]⟩]), 3, 40) := by kernel_rfl
/-- What is cleared: the cells ahead stay. -/
theorem run_clear_row {w : World} {g i n cap : Nat} {cs : List Value} {ty : TypeId} (h : RowC w g cs) (hn : 0 < n) (hl : i * 3 + n * 3 ≤ cs.length) :
    ∃ cs' : List Value, cs'.length = cs.length ∧ cs'.take (i * 3) = cs.take (i * 3) ∧ (Builtin.clear_ #[39] ty #[.slice (some ⟨g, i * 3, none⟩) n cap]).run Tryd.prog w = .ok (.tuple #[]) (w.setRow g cs'.toArray) := by
  obtain ⟨i0, hi0, hz0, hz1, hz2⟩ := info_parts Tryd.infoPt
  obtain ⟨Z, hZ⟩ : ∃ Z, Z = (Builtin.zeroCells (Value.agg #[.int .i64 0, .string ⟨#[]⟩, .string ⟨#[]⟩]).cells n).toList := ⟨_, rfl⟩
  have zl : Z.length = n * 3 := by rw [hZ]; simp [Builtin.zeroCells, Value.cells]
  have z1 : ∀ v ∈ Z, v.oneCell' = true := by
    intro v hv
    rw [hZ] at hv
    simp only [Builtin.zeroCells, Value.cells, Array.toList_map, List.mem_map] at hv
    obtain ⟨j, -, rfl⟩ := hv
    have : j % 3 = 0 ∨ j % 3 = 1 ∨ j % 3 = 2 := by omega
    rcases this with e | e | e <;> simp [e, Value.oneCell']
  have hst := run_storeCells_at Tryd.prog g (i * 3) 74 Z 0 cs.toArray w h (by simp; omega) z1
  refine ⟨cs.take (i * 3) ++ Z ++ cs.drop (i * 3 + Z.length), by simp; omega, ?_, ?_⟩
  · rw [List.append_assoc, List.take_left' (by rw [List.length_take]; omega)]
  · obtain ⟨m, rfl⟩ : ∃ m, n = m + 1 := ⟨n - 1, by omega⟩
    simp only [Nat.add_zero] at hst
    unfold Builtin.clear_
    simp [run_underlying Tryd.underlying39, zeroValue, typeInfo, hi0, hz0, ← hZ, hst]
theorem wpList_clear {ops : Array Oper} {rest : List Oper} {o : Oper} {a : Act} {w : World} {Q : Exit → Act → World → Prop} (hgd : o.guard = none) (s : Operand)
    (ho : o.op = .call { callee := .builtin .clear, args := #[s], argTypes := #[39] }) {g i n cap : Nat} {cs : List Value} (hs : a.eval s = .slice (some ⟨g, i * 3, none⟩) n cap) (hr : RowC w g cs) (hn : 0 < n) (hl : i * 3 + n * 3 ≤ cs.length)
    (h : ∀ cs' : List Value, cs'.length = cs.length → cs'.take (i * 3) = cs.take (i * 3) → wpList Tryd.prog ops Q rest (a.put o.dst (.tuple #[])) (w.setRow g cs'.toArray)) : wpList Tryd.prog ops Q (o :: rest) a w := by
  refine wpList_plain hgd fun K hK => ?_
  obtain ⟨cs', h1, h2, h3⟩ := run_clear_row (ty := o.type) (cap := cap) hr hn hl
  unfold Oper.wp execOp
  simp only [ho, resolve, invoke, builtin, Sem.run_bind, Sem.run_pure, Result.andThen_ok, List.map_toArray, List.map_cons, List.map_nil, hs, h3]
  exact hK _ _ (h cs' h1 h2)
theorem RowC.setRow {w : World} {g : Nat} {cs cs' : List Value} (h : RowC w g cs) : RowC (w.setRow g cs'.toArray) g cs' := setRow_heap w g _ _ _ _ h
theorem Moves.setRow {A B : Nat → Prop} {W X : World} (h : Moves A W B X) {g : Nat} (hg : g < W.heap.size → A g) (cs : Array Value) : Moves A W B (X.setRow g cs) :=
  ⟨h.os, h.tape, h.output, Nat.le_trans h.size (by simp), fun k hk hn => (setRow_other X g k cs (fun e => hn (by subst e; exact hg hk))).trans (h.same k hk hn), h.own⟩

end Go.Proofs.YtfiefklhhchebaaDoor

namespace Go.Proofs.YtfiefklhhchebaaDoor
open Go.RowKit
open Doc1

set_option maxRecDepth 100000 in
set_option maxHeartbeats 4000000 in
theorem deleteFunc_any {w : World} {g cap : Nat} {l : List Pt} {z : List Value} (h : Pin w (some ⟨g, 0, none⟩) g cap l) (hr : RowC w g (encP l ++ z)) :
    Calls Tryd.prog 58 #[.slice (some ⟨g, 0, none⟩) l.length cap, .func (.func 59) #[] #[]] w fun e w' => e = .returned (.slice (some ⟨g, 0, none⟩) (flt0 l).length cap) ∧ Pin w' (some ⟨g, 0, none⟩) g cap (flt0 l) ∧ Moves (fun k => k = g) w (fun k => k = g) w' := by
  have X := hide (indexFunc_any h)
  have hln := h.len
  have hcap := h.cap
  have H := hide h
  have HR := hide hr
  clear h hr
  go_enter Tryd.func58, Tryd.ntmps58
  go_wp2_with fail
  refine X.out.mono ?_
  rintro e w1 ⟨hb1, ⟨rfl, hall⟩ | ⟨k, hk, rfl, hno, hn⟩⟩
  · have e : flt0 l = l := List.filter_eq_self.2 (fun p hp => by simpa using hall p hp)
    have HE := hide e
    clear e hall
    go_wp2
    go_ret
    rw [HE.out]
    exact ⟨rfl, H.out.later hb1, moves_up hb1⟩
  · have D0 : DelAt l z w g k (k + 1) w1 := by
      have e : flt0 (l.take k) = l.take k := List.filter_eq_self.2 (fun p hp => by simpa using hno p hp)
      have e2 : flt0 (l.take (k + 1)) = l.take k := by rw [flt_take hk, if_pos hn, List.append_nil, e]
      refine ⟨⟨by omega, hk⟩, ⟨encP l ++ z, HR.out.up hb1, by rw [List.length_append, encP_len], ?_, rfl⟩, by rw [e2, List.length_take]; omega, moves_up hb1⟩
      rw [e2]
      have : encP l = encP (l.take k) ++ encP (l.drop k) := by rw [← encP_app, List.take_append_drop]
      rw [this, List.append_assoc, List.take_left' (by rw [encP_len, List.length_take]; omega)]
    have HD := hide D0
    clear D0 hno hn X
    go_wp2_with fail
    go_loopw [5, 6] (fun a b wr => ∃ i j : Nat, a = .int .i64 i ∧ b = .int .i64 j ∧ i < j ∧ Hid (DelAt l z w g i j wr)) (fun _ b _ => l.length - (intOf b).toNat)
    case atStart => exact ⟨k, k + 1, rfl, by simp, by omega, HD⟩
    case round =>
      obtain ⟨i, j, rfl, rfl, hij, HDr⟩ := hrel
      have hjl := HDr.out.le.2
      by_cases hlt : j < l.length
      · obtain ⟨c0, c1, c2⟩ := HDr.out.part hlt
        have N := hide (fun o => isNothing_any l[j] (wr.alloc o))
        obtain ⟨y0, y1, y2⟩ := cells3_new' wr (.int .i64 l[j].keep) (.string l[j].put) (.string l[j].drop)
        have hB : Hid (∀ o w2, Below (wr.alloc o).heap.size (wr.alloc o) w2 → Below wr.heap.size wr w2) := hide (fun o w2 hb => ((Below.refl _ _).alloc (Nat.le_refl _) _).trans (hb.mono (by simp)))
        have ji : (j : Int) < (l.length : Int) := by omega
        have j0 : (0 : Int) ≤ (j : Int) := by omega
        by_cases hn : nth l[j]
        · rw [decide_eq_true hn] at N
          have HN := hide hn
          clear hn
          go_wp2_with (go_at_call 59; refine (N.out _).mono ?_; rintro e w2 ⟨rfl, hb2⟩)
          go_roundw
          case rel =>
            iterate 23 apply Exists.intro
            refine ⟨?_, rfl⟩
            exact ⟨i, j + 1, rfl, by go_num, by omega, hide (HDr.out.skip hlt HN.out (hB.out _ _ hb2))⟩
          case measure => simp [intOf]; omega
        · rw [decide_eq_false hn] at N
          have HN := hide hn
          clear hn
          have il : (i : Int) < (l.length : Int) := by omega
          have i0 : (0 : Int) ≤ (i : Int) := by omega
          have HT := hide (fun w2 hb => HDr.out.take hlt hij HN.out (w2 := w2) hb)
          have RR : Hid (∀ w2, Below wr.heap.size wr w2 → ∃ cs, RowC w2 g cs ∧ cs.length = l.length * 3 + z.length) := hide (fun w2 hb => by obtain ⟨cs, hr, hl, -, -⟩ := HDr.out.row; exact ⟨cs, hr.up hb, hl⟩)
          go_wp2_with (go_at_call 59; refine (N.out _).mono ?_; rintro e w2 ⟨rfl, hb2⟩; have z0 := (World.cell?_of_block (a := ⟨wr.heap.size, 0, none⟩) (hb2.block _ (by simp))).trans (y0 _); have z1 := (World.cell?_of_block (a := ⟨wr.heap.size, 1, none⟩) (hb2.block _ (by simp))).trans (y1 _); have z2 := (World.cell?_of_block (a := ⟨wr.heap.size, 2, none⟩) (hb2.block _ (by simp))).trans (y2 _); obtain ⟨cs, hrc, hcl⟩ := RR.out w2 (hB.out _ _ hb2); have q0 := hrc.cls (i * 3) _ (List.getElem?_eq_getElem (by omega)); have f0 := hrc.fz (i * 3); have q1 := (hrc.set (i * 3) (.int .i64 l[j].keep)).cls (i * 3 + 1) _ (List.getElem?_eq_getElem (by simp; omega)); have f1 := (hrc.set (i * 3) (.int .i64 l[j].keep)).fz (i * 3 + 1); have q2 := ((hrc.set (i * 3) (.int .i64 l[j].keep)).set (i * 3 + 1) (.string l[j].put)).cls (i * 3 + 2) _ (List.getElem?_eq_getElem (by simp; omega)); have f2 := ((hrc.set (i * 3) (.int .i64 l[j].keep)).set (i * 3 + 1) (.string l[j].put)).fz (i * 3 + 2))
          go_roundw
          case rel =>
            iterate 23 apply Exists.intro
            refine ⟨?_, rfl⟩
            exact ⟨i + 1, j + 1, by go_num, by go_num, by omega, hide (HT.out _ (hB.out _ _ hb2))⟩
          case measure => simp [intOf]; omega
      · obtain rfl : j = l.length := by omega
        obtain ⟨cs, hrc, hcl, htk, -⟩ := HDr.out.row
        have hli := hide HDr.out.len
        have hmv := hide HDr.out.mv
        have HC := hide (And.intro hcl htk)
        have i1 : (i : Int) ≤ (l.length : Int) := by omega
        have i0 : (0 : Int) ≤ (i : Int) := by omega
        rw [List.take_length] at hli HC
        have hil : i < l.length := by omega
        clear HDr htk hjl
        go_wp2_with (refine wpList_clear (by rfl) _ (by rfl) (g := g) (i := i) (n := l.length - i) (cs := cs) (by rfl) hrc (by omega) (by omega) ?_)
        intro cs' k1 k2
        go_wp2
        go_ret
        have e1 : cs'.take (i * 3) = encP (flt0 l) := k2.trans HC.out.2
        have hsub : (flt0 l).length ≤ l.length := List.length_filter_le _ _
        have HRR := (RowC.setRow (cs' := cs') hrc)
        refine ⟨by rw [← hli.out]; rfl, ⟨⟨Nat.le_trans hsub hcap.1, hcap.2⟩, fun m hm => ?_, Nat.le_trans hsub hln, fun m u hu => ?_, HRR.lt, fun _ => rfl⟩, hmv.out.setRow (fun _ => rfl) _⟩
        · obtain ⟨m', hm', e⟩ := List.mem_iff_getElem.1 ((List.mem_filter.1 (List.getElem_mem hm)).1)
          rw [show (flt0 l)[m] = l[m'] from e.symm]
          exact H.out.sz m' hm'
        · refine HRR.cls m u ?_
          rw [← e1] at hu
          rw [List.getElem?_take] at hu
          split at hu
          · exact hu
          · cases hu
end Go.Proofs.YtfiefklhhchebaaDoor

namespace Go.Proofs.YtfiefklhhchebaaDoor
open Go.RowKit
open Doc1

theorem flt0_spN (s put : ByteArray) (a b : Nat) : flt0 (spL s put a b) = spN s put a b := rfl
theorem spL_sz (s put : ByteArray) (a b : Nat) (hs : s.size ≤ 1048576) (hp : put.size ≤ 1048576) : ∀ i (hi : i < (spL s put a b).length), (spL s put a b)[i].put.size ≤ 1048576 ∧ (spL s put a b)[i].drop.size ≤ 1048576 := by
  have he : (s.extract a b).size ≤ 1048576 := by rw [ByteArray.size_extract]; omega
  intro i hi
  have hm := List.getElem_mem hi
  simp only [spL, List.mem_cons, List.not_mem_nil, or_false] at hm
  have e0 : (⟨#[]⟩ : ByteArray).size ≤ 1048576 := by decide
  rcases hm with e | e | e | e <;> rw [show (spL s put a b)[i] = _ from e]
  · exact ⟨e0, e0⟩
  · exact ⟨hp, e0⟩
  · exact ⟨e0, he⟩
  · exact ⟨e0, e0⟩
/-- A row of one's own that holds parts: its block, with what lies behind them. -/
theorem own_rowC {w : World} {B : Nat} {v : Value} {l : List Pt} (h : POwn w B v l) (h0 : 0 < l.length) : ∃ g cap z, v = .slice (some ⟨g, 0, none⟩) l.length cap ∧ B ≤ g ∧ l.length ≤ cap ∧ cap ≤ maxLen ∧ RowC w g (encP l ++ z) := by
  rcases h.2 with ⟨-, e⟩ | ⟨g, cap, cur, rfl, hb, hh, hle, hm, hz, ht⟩
  · omega
  · refine ⟨g, cap, cur.toList.drop (l.length * 3), rfl, hb, hle, hm, ?_⟩
    unfold RowC
    rw [← ht, List.take_append_drop, Array.toArray_toList]
    exact hh

/-- The parts of one splice, but for the last one. -/
def sp3 (s put : ByteArray) (a b : Nat) : List Value := [.int .i64 (a : Int), .string ⟨#[]⟩, .string ⟨#[]⟩, .int .i64 0, .string put, .string ⟨#[]⟩, .int .i64 0, .string ⟨#[]⟩, .string (s.extract a b)]
theorem sp3_all (s put : ByteArray) (a b : Nat) (h : b ≤ s.size) : encP (spL s put a b) = sp3 s put a b ++ [.int .i64 ((s.size : Int) - (b : Int)), .string ⟨#[]⟩, .string ⟨#[]⟩] := by
  have e : ((s.size - b : Nat) : Int) = (s.size : Int) - (b : Int) := by omega
  rw [← e]
  rfl
theorem sp3_one (s put : ByteArray) (a b : Nat) : ∀ u ∈ sp3 s put a b, u.oneCell' = true := by simp [sp3, Value.oneCell']

theorem spl_grown {w wb w2 : World} {o : Obj} {x : Value} (h : Below w.heap.size w wb) (hs : wb.heap.size = w.heap.size + 1) (hy : wb.cell? ⟨w.heap.size, 1, none⟩ = some x) (hg : (wb.alloc o).drew.grownBy w2 (Value.slice none 0 0).ownBlock) :
    Below w.heap.size w w2 ∧ w2.cell? ⟨w.heap.size, 1, none⟩ = some x := by
  have hsz : (wb.alloc o).heap.size = wb.heap.size + 1 := by simp
  refine ⟨((h.alloc (by omega) o).drew).grown hg (by show _ ≤ (wb.alloc o).heap.size; omega) (fun k e => by cases e), ?_⟩
  refine (World.cell?_of_block (a := ⟨w.heap.size, 1, none⟩) ?_).trans hy
  exact (hg.block w.heap.size (by show _ < (wb.alloc o).heap.size; omega) (fun e => by cases e)).trans (Below.heap_alloc wb o _ (by omega))

set_option maxRecDepth 100000 in
set_option maxHeartbeats 4000000 in
theorem spliceAll_one {w : World} {gs : Nat} (s put : ByteArray) (m n : Nat) (hmn : m ≤ n) (hns : n ≤ s.size) (hls : s.size ≤ 1048576) (hlp : put.size ≤ 1048576)
    (c0 : w.cell? ⟨gs, 0, none⟩ = some (.int .i64 (m : Int))) (c1 : w.cell? ⟨gs, 1, none⟩ = some (.int .i64 (n : Int))) (c2 : w.cell? ⟨gs, 2, none⟩ = some (.string put)) (hT : Tab w) :
    Calls Tryd.prog 45 #[.string s, .slice (some ⟨gs, 0, none⟩) 1 1] w fun e w' => ∃ v, e = .returned (.tuple #[v, .bool (goodO (spN s put m n))]) ∧ POwn w' w.heap.size v (norO (spN s put m n)) ∧ Below w.heap.size w w' := by
  obtain ⟨i0, hi0, hz0, hz1, hz2⟩ := info_parts Tryd.infoPart
  have mi : (m : Int) ≤ (n : Int) := by omega
  have ni : (n : Int) ≤ (s.size : Int) := by omega
  have m0 : (0 : Int) ≤ (m : Int) := by omega
  have HT := hide hT
  have HSZ := hide (spL_sz s put m n hls hlp)
  have HAL := hide (sp3_all s put m n hns)
  have hln : s.size ≤ 9000000 := by omega
  have hwm : IntKind.i64.wrap (m : Int) = (m : Int) := by
    simp only [IntKind.wrap, IntKind.signed, IntKind.bits]
    simp
    omega
  clear hT
  go_enter Tryd.func45, Tryd.ntmps45
  go_wp2
  go_loopw [6, 7, 12] (fun op at' i wr => (op = .slice none 0 0 ∧ at' = .int .i64 0 ∧ i = .int .i64 0 ∧ wr = w) ∨ (at' = .int .i64 (n : Int) ∧ i = .int .i64 1 ∧ Hid (wr.ownsRow w.heap.size 74 3 op 3 (sp3 s put m n) ∧ Below w.heap.size w wr))) (fun _ _ i _ => 1 - (intOf i).toNat)
  case atStart => exact .inl ⟨rfl, rfl, rfl, rfl⟩
  case round =>
    rcases hrel with ⟨rfl, rfl, rfl, rfl⟩ | ⟨rfl, rfl, HO⟩
    · obtain ⟨y0, y1, y2⟩ := cells3_new' wr (.int .i64 (m : Int)) (.int .i64 (n : Int)) (.string put)
      go_wp2_with fail
      obtain ⟨wb, hwb⟩ : ∃ wb, wb = wr.alloc (.cells #[.int .i64 (m : Int), .int .i64 (n : Int), .string put] 66) := ⟨_, rfl⟩
      rw [← hwb]
      replace y0 := y0 66
      replace y1 := y1 66
      replace y2 := y2 66
      rw [← hwb] at y0 y1 y2
      have hbb : Below wr.heap.size wr wb := by rw [hwb]; exact (Below.refl _ _).alloc (Nat.le_refl _) _
      have hsb : wb.heap.size = wr.heap.size + 1 := by rw [hwb]; simp
      have HSB := hide hsb
      have HBB := hide hbb
      clear hwb hsb hbb
      go_cut [6, 12] from 12 to 36 (fun op i wx => i = .int .i64 0 ∧ Hid (wx.ownsRow wr.heap.size 74 3 op 3 (sp3 s put m n) ∧ Below wr.heap.size wr wx) ∧ wx.cell? ⟨wr.heap.size, 1, none⟩ = some (.int .i64 (n : Int)))
      case first =>
        go_region_law
          ((refine step_append_lies _ (by rfl) _ _ _ (by rfl) wr.heap.size 74 i0 _ 3 40 Tryd.underlying39 hi0 hz0 hz1 hz2 rfl (by omega) (.slice none 0 0) 0 [] (by rfl) (World.ownsRow_nil _ _ _ _)
              ⟨wb.heap.size, 0, none⟩ 3 3 (sp3 s put m n) (by rfl) (by rfl) (World.news_of_block (cs := (sp3 s put m n).toArray) (t := 74) (fr := (0, 0)) (by first | exact heap_alloc_new wb _ | (rw [hwm]; exact heap_alloc_new wb _))) (sp3_one s put m n)
              (by omega) (by unfold maxLen; omega) (by omega) (by have := HBB.out.size; simp; omega) (wb.heap.size + 1) (by simp) ?_; intro gg cap w2 hown1 hgrow hat hlt))
        all_goals
          have hq : Below wr.heap.size wr w2 ∧ w2.cell? ⟨wr.heap.size, 1, none⟩ = some (.int .i64 (n : Int)) := spl_grown HBB.out HSB.out y1 hgrow
          go_wp2_with fail
          go_meet
          case rel => exact ⟨rfl, hide ⟨hown1, hq.1⟩, hq.2⟩
      case rest =>
        obtain ⟨rfl, HQ, yy⟩ := hcut
        go_wp2
        go_roundw
        case rel => exact .inr ⟨rfl, by go_num, HQ⟩
        case measure => simp [intOf]
    · obtain ⟨hown, hbel⟩ := HO.out
      have hsz := hbel.size
      go_wp2_with (at_builtin; refine wpList_append_loc _ rfl _ _ 39 rfl w.heap.size 74 i0 (.agg #[.int .i64 0, .string ⟨#[]⟩, .string ⟨#[]⟩]) 3 40 Tryd.underlying39 hi0 hz0 hz1 hz2 rfl (by decide) _ 3 (sp3 s put m n) rfl (hown.alloc _) ⟨wr.heap.size, 0, none⟩ 1 1 [.int .i64 ((s.size : Int) - (n : Int)), .string ⟨#[]⟩, .string ⟨#[]⟩] rfl rfl (cell3_at _ _ rfl _ _ _ _) (by intro u hu; simp at hu; rcases hu with rfl | rfl | rfl <;> rfl) (by unfold maxLen; omega) (by omega) (by simp; omega) ?_; intro v2 w2 hown2 hgrow2 hloc2)
      have hb2 := below_append hbel hown hsz hgrow2
      have ho : POwn w2 w.heap.size v2 (spL s put m n) := by unfold POwn; rw [HAL.out]; exact hown2
      obtain ⟨g, cap, z, rfl, hg, hle, hm, hr⟩ := own_rowC ho (by simp [spL])
      have pin : Pin w2 (some ⟨g, 0, none⟩) g cap (spL s put m n) := ⟨⟨hle, hm⟩, HSZ.out, by simp [spL], fun j u hu => hr.cls j u (by rw [List.getElem?_append_left (List.getElem?_eq_some_iff.1 hu).1]; exact hu), hr.lt, fun _ => rfl⟩
      have D := hide (deleteFunc_any pin hr)
      have HB2 := hide hb2
      clear hown hbel HO hown2 hgrow2 hloc2 ho hle hm hr pin hb2
      go_wp2_with fail
      refine D.out.mono ?_
      rintro e w3 ⟨rfl, hpin, hmv⟩
      have hb3 := HB2.out.trans (hmv.below HB2.out.size (fun k hk e => by omega))
      have N := hide (normalI hpin (HT.out.below hb3))
      have HB3 := hide hb3
      clear hmv hpin hb3 D
      go_wp2_with fail
      refine N.out.mono ?_
      rintro e w4 ⟨v4, rfl, o4, hb4⟩
      go_wp2
      go_ret2
      exact ⟨_, rfl, POwn.mono o4 HB3.out.size, HB3.out.trans (hb4.mono HB3.out.size)⟩
end Go.Proofs.YtfiefklhhchebaaDoor

namespace Go.Proofs.YtfiefklhhchebaaDoor
open Go.RowKit
open Doc1

theorem keepL_good {n : Nat} (h : n ≤ 300) : goodO (keepL (n : Int)) = true := by
  unfold keepL
  split
  · rename_i h1
    have hp : ∀ p ∈ [(⟨(n : Int), ⟨#[]⟩, ⟨#[]⟩⟩ : Pt)], pk p ≠ 0 := fun p hm => by
      rw [List.mem_singleton] at hm
      subst hm
      unfold pk
      rw [if_pos ⟨rfl, rfl, h1⟩]
      omega
    unfold goodO
    rw [all_gpS hp]
    have e0 : (⟨#[]⟩ : ByteArray).size = 0 := rfl
    simp [tkL, mkL, tk1, mk1, e0]
    omega
  · rfl

end Go.Proofs.YtfiefklhhchebaaDoor
