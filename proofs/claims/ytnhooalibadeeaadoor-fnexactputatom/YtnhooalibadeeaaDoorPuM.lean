/- Atoms that are put behind a row of one's own. The program's seqOf: a sequence in memory of its own. An atom that is dropped: the mathematics, and the program's DropAtom. Rows of atoms put together: slices.Grow and slices.Concat. An atom that is put: the mathematics. The program's PutAtom. Rows of atoms within a region that draws its order. The model's PutAtom. The walk of the exact law of PutAtom. -/
import Derived.Test.YtnhooalibadeeaaDoorSqIn
import Derived.Test.YtnhooalibadeeaaDoorFrm
import Derived.Test.YtnhooalibadeeaaDoorAppB
import Derived.Test.YtnhooalibadeeaaDoorShelf
import Derived.Test.YtnhooalibadeeaaDoorSqW5
import Derived.Test.YtnhooalibadeeaaDoorSeq3
import Derived.Test.YtnhooalibadeeaaDoorSqO6
import Derived.Deep.Cut
import Derived.Deep.CutRange
import Derived.Deep.RegionHeld3
import Derived.Lib.AppendZerosOnto
import Derived.Deep.AppendLies
import Derived.Test.YtnhooalibadeeaaDoorSqT1
import Derived.Test.YtnhooalibadeeaaDoorSqS2
import Derived.Test.YtnhooalibadeeaaDoorSeqLaw
set_option linter.unusedVariables false
namespace Go.Proofs.YtnhooalibadeeaaDoor
open Go.RowKit
open Doc1

theorem infoAm : (Tryd.prog.info? 67).map (fun i => (i.zero, i.size, i.bytes)) = some (some (.agg #[.int .i64 0, .int .i64 0, .int .i64 0, .int .i64 0, .string ⟨#[]⟩, .bool false]), 6, 56) := by kernel_rfl
theorem sizeSeqI : (Tryd.prog.info? 25).map (·.size) = some 1 := by kernel_rfl
theorem own_newA (w : World) (e : TypeId) (cs : Array Value) (n size : Nat) (hn : cs.size = n * size) (hl : n ≤ 1000000) : (w.alloc (.cells cs e)).ownsRow w.heap.size e size (.slice (some ⟨w.heap.size, 0, none⟩) n n) n cs.toList :=
  ⟨by rw [Array.length_toList]; exact hn, .inr ⟨w.heap.size, n, cs, rfl, Nat.le_refl _, heap_alloc_new w _, Nat.le_refl _, by unfold maxLen; omega, hn, List.take_of_length_le (by rw [Array.length_toList]; omega)⟩⟩
theorem AmIn.one (w : World) (x : Am) : AmIn (w.alloc (.cells #[.int .i64 x.time, .int .i64 x.actor, .int .i64 x.above, .int .i64 x.maker, .string x.byte, .bool x.gone] 67)) (some ⟨w.heap.size, 0, none⟩) 1 [x] :=
  (show AmOwn _ w.heap.size _ [x] from own_newA w 67 #[.int .i64 x.time, .int .i64 x.actor, .int .i64 x.above, .int .i64 x.maker, .string x.byte, .bool x.gone] 1 6 rfl (by omega)).inn.elim fun a ⟨c, e, h⟩ => by cases e; exact h

set_option maxHeartbeats 400000 in
theorem clone_A (s : ByteArray) (w : World) (hs : s.size ≤ 10000000) :
    Calls Tryd.prog 70 #[.string s] w fun e w' => e = .returned (.string s) ∧ Below w.heap.size w w' := by
  have H := hide (Tryd.stringslite_Clone s w (by omega))
  go_enter Tryd.func70, Tryd.ntmps70
  go_wp2_with (go_at_call 99; refine H.out.mono ?_; rintro e w' ⟨rfl, hb⟩)
  go_ret
  exact ⟨rfl, hb⟩

theorem run_no_more (w : World) (ty : TypeId) (i : TypeInfo) (hi : Tryd.prog.info? 67 = some i) (a0 : Option Addr) (n c : Nat) (hn : n ≤ c) (ad : Option Addr) (cap : Nat) : (Builtin.append_ #[23, 23] ty #[.slice a0 n c, .slice ad 0 cap]).run Tryd.prog w = .ok (.slice a0 n c) w := by
  cases a0 <;> cases ad <;> simp [Builtin.append_, run_underlying Tryd.underlying23, sizeOf, typeInfo, hi, Builtin.lenOf, Builtin.firstCells, storeCells, loadCells, loadCellsFrom, hn]

/-- A row put behind one of one's own. -/
theorem append_ams {ops : Array Oper} {rest : List Oper} {o : Oper} {a : Act} {Q : Exit → Act → World → Prop} (w : World) (hgd : o.guard = none) (s x : Operand)
    (ho : o.op = .call { callee := .builtin .append, args := #[s, x], argTypes := #[23, 23] }) (B : Nat) (v0 : Value) (l0 : List Am) (own0 : AmOwn w B v0 l0) (ad : Option Addr) (cap : Nat) (l : List Am) (hl : l0.length + l.length ≤ 1000000)
    (hs : a.eval s = v0) (hx : a.eval x = .slice ad l.length cap) (hin : AmIn w ad cap l) (hB : B ≤ w.heap.size)
    (h : ∀ v' w', AmOwn w' B v' (l0 ++ l) → w.grownBy w' v0.ownBlock → (v'.ownBlock = v0.ownBlock ∨ ∀ y, v'.ownBlock = some y → w.heap.size ≤ y) → wpList Tryd.prog ops Q rest (a.put o.dst v') w') :
    wpList Tryd.prog ops Q (o :: rest) a w := by
  obtain ⟨i0, hi0, hz0, hz1, hz2⟩ := info_parts infoAm
  by_cases h0 : l = []
  · subst h0
    obtain ⟨a0, c0, rfl, hle, -⟩ := own_shp own0
    refine wpList_plain hgd fun K hK => ?_
    have hr := run_no_more w o.type i0 hi0 a0 l0.length c0 hle ad cap
    unfold Oper.wp
    simp [execOp, ho, resolve, invoke, builtin, hs, hx, hr, Result.andThen]
    exact hK _ _ (h _ _ (by rw [List.append_nil]; exact own0) (grown_self _ _) (.inl rfl))
  · obtain ⟨g, rfl, hg, hc⟩ := hin.ad h0
    have hp := List.length_pos_iff.2 h0
    have hnews : ∀ j u, (encAm l)[j]? = some u → w.cell? ((⟨g, 0, none⟩ : Addr).add j) = some u := fun j u hu => by
      rw [addr0]
      exact hc j u hu
    have hone : ∀ u ∈ encAm l, u.oneCell' = true := fun u hu => by
      unfold encAm at hu
      obtain ⟨b, -, hb2⟩ := List.mem_flatMap.1 hu
      simp [amC] at hb2
      rcases hb2 with rfl | rfl | rfl | rfl | rfl | rfl <;> rfl
    refine wpList_append_loc _ hgd _ _ 23 ho B 67 i0 (.agg #[.int .i64 0, .int .i64 0, .int .i64 0, .int .i64 0, .string ⟨#[]⟩, .bool false]) 6 56 Tryd.underlying23 hi0 hz0 hz1 hz2 rfl (by decide) _ _ _ hs own0 ⟨g, 0, none⟩ l.length cap (encAm l) hx (encAm_len l) hnews hone (by unfold maxLen; omega) (by omega) hB ?_ hp
    intro v3 w3 own3 grow3 loc3
    exact h v3 w3 (by unfold AmOwn; rw [encAm_app, List.length_append]; exact own3) grow3 loc3
end Go.Proofs.YtnhooalibadeeaaDoor

set_option linter.unusedVariables false
namespace Go.Proofs.YtnhooalibadeeaaDoor
open Go.RowKit
open Doc1

def sqR (l : List Am) : List Am := if goodQ l = true then l else []
theorem sqR_len (l : List Am) : (sqR l).length ≤ 80 := by
  unfold sqR
  split
  · exact good_len (by assumption)
  · simp

/-- Between two rounds: the box that holds the row that is built. -/
structure SO (l : List Am) (w2 : World) (O k : Nat) (v : Value) (wr : World) : Prop where
  box : CellR wr O v
  own : AmOwn wr (O + 1) v (l.take k)
  bel : Below O w2 wr
theorem SO.lt {l : List Am} {w2 : World} {O k : Nat} {v : Value} {wr : World} (h : SO l w2 O k v wr) : O < wr.heap.size := h.box.lt
theorem set_keepA {w : World} {B : Nat} {v : Value} {l : List Am} (h : AmOwn w B v l) {g : Nat} (hg : w.heap.size ≤ g) {w1 : World} (hb : Below w.heap.size w w1) (j : Nat) (x : Value) : AmOwn (w1.setCell ⟨g, j, none⟩ x) B v l :=
  (own_below h hb).kept (row := some g) (grown_set (grown_self _ _) j _) (by
    cases hv : v.ownBlock with
    | none => exact Or.inl rfl
    | some b => exact Or.inr (fun e => by have := (World.ownsRow.lt h b hv).2; cases e; omega))
/-- What a round leaves. -/
theorem SO.next {l : List Am} {w2 : World} {O k : Nat} {v : Value} {wr : World} (h : SO l w2 O k v wr) (hk : k < l.length) (hO : O ≤ w2.heap.size) {wd w5 : World} {v5 : Value} (hd : AmOwn wd (O + 1) v (l.take k)) (hbx : CellR wd O v) (hbd : Below O w2 wd)
    (o5 : AmOwn w5 (O + 1) v5 (l.take k ++ [l[k]])) (g5 : (wd.alloc (.cells #[.int .i64 l[k].time, .int .i64 l[k].actor, .int .i64 l[k].above, .int .i64 l[k].maker, .string l[k].byte, .bool l[k].gone] 67)).grownBy w5 v.ownBlock) :
    CellR w5 O v ∧ SO l w2 O (k + 1) v5 (w5.setCell ⟨O, 0, none⟩ v5) := by
  have hlo : ∀ y, v.ownBlock = some y → O + 1 ≤ y := fun y hy => (World.ownsRow.lt hd y hy).1
  have e5 : CellR w5 O v := by
    unfold CellR
    rw [g5.block O (by have := hbx.lt; simp; omega) (fun c => by have := hlo O c.symm; omega), Below.heap_alloc _ _ _ hbx.lt]
    exact hbx
  refine ⟨e5, e5.put _, ?_, ?_⟩
  · rw [List.take_succ_eq_append_getElem hk]
    exact own_aside o5 (by omega) _ _
  · exact ((hbd.alloc (by have := hbd.size; omega) _).grown g5 (by have := hbd.size; simp; omega) (fun y hy => by have := hlo y hy; omega)).setCell (p := ⟨O, 0, none⟩) (Nat.le_refl _) _

set_option maxRecDepth 100000 in
set_option maxHeartbeats 2000000 in
theorem seqOf_any {w : World} {a : Option Addr} {cap : Nat} {l : List Am} (h : SIn w a cap l) (hT : Tab w) :
    Calls Tryd.prog 42 #[.slice a l.length cap] w fun e w' => ∃ v, e = .returned (.tuple #[.agg #[v], .bool (goodQ l)]) ∧ AmOwn w' w.heap.size v (sqR l) ∧ Below w.heap.size w w' := by
  have hb0 : Below w.heap.size w (w.alloc (.cells #[.slice none 0 0] 25)) := (Below.refl _ _).alloc (Nat.le_refl _) _
  have hk0 : CellR (w.alloc (.cells #[.slice none 0 0] 25)) w.heap.size (.slice none 0 0) := CellR.new _ _
  obtain ⟨w0, hw0⟩ : ∃ w0, w0 = w.alloc (.cells #[.slice none 0 0] 25) := ⟨_, rfl⟩
  rw [← hw0] at hb0 hk0
  have HB0 := hide hb0
  have HK0 := hide hk0
  have H := hide h
  have G := hide (goodSeqI (h.later hb0) (hT.below hb0))
  clear h hT hb0 hk0
  cases hq : goodQ l with
  | false =>
    have HR : Hid (sqR l = []) := hide (by unfold sqR; rw [if_neg (by rw [hq]; simp)])
    rw [HR.out]
    rw [hq] at G
    clear hq
    go_enter Tryd.func42, Tryd.ntmps42
    go_wp2_with fail
    rw [← hw0]
    clear hw0
    refine G.out.mono ?_
    rintro e w1 ⟨rfl, hb1⟩
    have HK1 := hide (HK0.out.later hb1)
    have HB1 := hide (HB0.out.trans (hb1.mono HB0.out.size))
    have k1 := HK1.out.cell
    have f1 := HK1.out.fz
    clear hb1
    go_wp2
    refine bodyPost_ret (results_cell_tmp rfl _ _ w.heap.size 25 _ (0, 0) _ (.bool false) rfl rfl (HK1.out.put _) Tryd.underlying25 rfl sizeSeqI) rfl ?_
    exact ⟨_, rfl, World.ownsRow_nil _ _ _ _, HB1.out.setCell (p := ⟨w.heap.size, 0, none⟩) (Nat.le_refl _) _⟩
  | true =>
    have HR : Hid (sqR l = l) := hide (by unfold sqR; rw [if_pos hq])
    have hln := good_len hq
    have HX : Hid (∀ k (hk : k < l.length), l[k].byte.size ≤ 10000000) := hide (fun k hk => by have := good_at hq hk; have h1 := this.1; unfold isOk at h1; simp at h1; omega)
    rw [HR.out]
    rw [hq] at G
    clear hq
    go_enter Tryd.func42, Tryd.ntmps42
    go_wp2_with fail
    rw [← hw0]
    clear hw0
    refine G.out.mono ?_
    rintro e w1 ⟨rfl, hb1⟩
    have HK1 := hide (HK0.out.later hb1)
    have HB1 := hide (HB0.out.trans (hb1.mono HB0.out.size))
    obtain ⟨w2, hw2⟩ : ∃ w2, w2 = w1.alloc (.cells #[.slice none 0 0] 25) := ⟨_, rfl⟩
    have hb2 : Below w1.heap.size w1 w2 := by rw [hw2]; exact (Below.refl _ _).alloc (Nat.le_refl _) _
    have R0 : Hid (SO l w2 w1.heap.size 0 (.slice none 0 0) w2) := hide ⟨by rw [hw2]; exact CellR.new _ _, World.ownsRow_nil _ _ _ _, Below.refl _ _⟩
    have HK2 := hide (HK1.out.later hb2)
    have HB2 := hide (HB1.out.trans (hb2.mono HB1.out.size))
    have HS2 := hide hb2.size
    have hO : w.heap.size < w1.heap.size := HK1.out.lt
    clear hb1 hb2
    go_wp2
    rw [← hw2]
    clear hw2
    go_loopw [14] (fun i wr => ∃ k : Nat, k ≤ l.length ∧ i = .int .i64 k ∧ ∃ v, Hid (SO l w2 w1.heap.size k v wr)) (fun i _ => l.length - (intOf i).toNat)
    case atStart => exact ⟨0, by omega, rfl, _, R0⟩
    case round =>
      obtain ⟨k, hk, rfl, v, HT⟩ := hrel
      clear R0
      have HBW := hide (HB2.out.trans (HT.out.bel.mono (Nat.le_of_lt hO)))
      by_cases hlt : k < l.length
      · obtain ⟨av, cv, hv, -⟩ := own_shp HT.out.own
        rw [List.length_take, Nat.min_eq_left (by omega)] at hv
        subst hv
        obtain ⟨g, rfl, hg, hc⟩ := (H.out.later HBW.out).inn.ad (by intro c; rw [c] at hlt; simp at hlt)
        obtain ⟨c0, c1, c2, c3, c4, c5⟩ := hc.amat k hlt
        have hxs := HX.out k hlt
        obtain ⟨wb, hwb⟩ : ∃ wb, wb = wr.alloc (.cells #[.int .i64 l[k].time, .int .i64 l[k].actor, .int .i64 l[k].above, .int .i64 l[k].maker, .string l[k].byte, .bool l[k].gone] 67) := ⟨_, rfl⟩
        have hbb : Below wr.heap.size wr wb := by rw [hwb]; exact (Below.refl _ _).alloc (Nat.le_refl _) _
        have BX : Hid (BxA wb wr.heap.size l[k]) := hide (by rw [hwb]; exact BxA.new _ _)
        have CL := hide (clone_A l[k].byte wb hxs)
        have HBB := hide hbb
        clear hc hbb
        have NX := hide (fun (wd w5 : World) (v5 : Value) a1 a2 a3 a4 a5 => HT.out.next hlt HS2.out (wd := wd) (w5 := w5) (v5 := v5) a1 a2 a3 a4 a5)
        have HLK : Hid ((l.take k).length + 1 ≤ 1000000) := hide (by rw [List.length_take]; omega)
        have bx0 := BX.out.cells.2.2.2.2.1
        rw [hwb] at bx0
        go_wp2_with fail
        rw [← hwb]
        clear hwb c0 c1 c2 c3 c4 c5 bx0
        refine CL.out.mono ?_
        rintro e wc ⟨rfl, hbc⟩
        have BXc := hide (BX.out.later hbc)
        have HBC := hide (HBB.out.trans (hbc.mono HBB.out.size))
        obtain ⟨wd, hwd⟩ : ∃ wd, wd = wc.setCell ⟨wr.heap.size, 4, none⟩ (.string l[k].byte) := ⟨_, rfl⟩
        have hlo := HT.out.lt
        have BXd : Hid (BxA wd wr.heap.size l[k]) := hide (by rw [hwd]; unfold BxA; rw [cell_put BXc.out]; rfl)
        have OWd : Hid (AmOwn wd (w1.heap.size + 1) (.slice av k cv) (l.take k)) := hide (by rw [hwd]; exact set_keepA HT.out.own (Nat.le_refl _) HBC.out _ _)
        have CRd : Hid (CellR wd w1.heap.size (.slice av k cv)) := hide (by rw [hwd]; exact (HT.out.box.later HBC.out).other1 (by omega) _ _)
        have HBd : Hid (Below w1.heap.size w2 wd) := hide (by rw [hwd]; exact (HT.out.bel.trans (HBC.out.mono (Nat.le_of_lt hlo))).setCell (p := ⟨wr.heap.size, 4, none⟩) (Nat.le_of_lt hlo) _)
        have HSd : Hid (w1.heap.size + 1 ≤ wc.heap.size) := hide (by have := CRd.out.lt; rw [hwd] at this; simp [World.setCell] at this; omega)
        have HAI : Hid (AmIn (wd.alloc (.cells #[.int .i64 l[k].time, .int .i64 l[k].actor, .int .i64 l[k].above, .int .i64 l[k].maker, .string l[k].byte, .bool l[k].gone] 67)) (some ⟨wc.heap.size, 0, none⟩) 1 [l[k]]) := hide (by have := AmIn.one wd l[k]; rwa [show wd.heap.size = wc.heap.size by rw [hwd]; simp [World.setCell]] at this)
        obtain ⟨d0, d1, d2, d3, d4, d5⟩ := BXd.out.cells
        have e4 := BXc.out.cells.2.2.2.2.1
        have e5 := frozen_of_row BXc.out 4
        have e6 := (HT.out.box.later HBC.out).cell
        have n1 : ¬ wr.heap.size = w1.heap.size := by omega
        have n2 : ¬ w1.heap.size = wr.heap.size := by omega
        obtain ⟨b0, b1, b2, b3, -, b5⟩ := BXc.out.cells
        clear hbc BX HBB CL
        subst hwd
        go_wp2_with (at_builtin; go_loud (refine append_ams _ rfl _ _ rfl (w1.heap.size + 1) _ (l.take k) (OWd.out.alloc _) _ 1 [l[k]] HLK.out rfl rfl HAI.out (by have := HSd.out; simp; omega) ?_); intro v5 w5 own5 grow5 _; obtain ⟨y1, y2⟩ := NX.out _ w5 v5 OWd.out CRd.out HBd.out own5 grow5; have N5 := hide y2; have k5 := y1.cell; have f5 := y1.fz; obtain ⟨a5, c5, he5, -⟩ := own_shp own5; rw [show (l.take k ++ [l[k]]).length = k + 1 by simp; omega] at he5; subst he5; clear own5 grow5 y1 y2)
        exact ⟨⟨k + 1, by omega, by go_num, _, N5⟩, by simp [intOf]; omega⟩
      · obtain rfl : k = l.length := by omega
        have hkk : CellR wr w.heap.size (.slice none 0 0) := by
          unfold CellR
          rw [HT.out.bel.block w.heap.size hO]
          exact HK2.out
        have HKR := hide hkk
        have k1 := hkk.cell
        have f1 := hkk.fz
        have k2 := HT.out.box.cell
        have HO : Hid (AmOwn wr (w1.heap.size + 1) v l) := hide (by have := HT.out.own; rw [List.take_length] at this; exact this)
        obtain ⟨a5, c5, rfl, -⟩ := own_shp HO.out
        clear hkk HT
        go_wp2
        refine bodyPost_ret (results_cell_tmp rfl _ _ w.heap.size 25 _ (0, 0) _ (.bool true) rfl rfl (HKR.out.put _) Tryd.underlying25 rfl sizeSeqI) rfl ?_
        exact ⟨_, rfl, AmOwn.mono (own_aside HO.out (by omega) _ _) (by omega), HBW.out.setCell (p := ⟨w.heap.size, 0, none⟩) (Nat.le_refl _) _⟩
end Go.Proofs.YtnhooalibadeeaaDoor

set_option linter.unusedVariables false
namespace Go.Proofs.YtnhooalibadeeaaDoor
open Go.RowKit
open Doc1

/-- An atom is gone. -/
def dropL (l : List Am) (j : Nat) : List Am := if h : j < l.length then l.set j { l[j] with gone := true } else l
theorem dropL_len (l : List Am) (j : Nat) : (dropL l j).length = l.length := by
  unfold dropL
  split
  · rw [List.length_set]
  · rfl
theorem encAm_gone : ∀ (l : List Am) (j : Nat) (hj : j < l.length), (encAm l).set (j * 6 + 5) (.bool true) = encAm (l.set j { l[j] with gone := true })
  | x :: l, 0, _ => by simp [encAm, amC]
  | x :: l, j + 1, hj => by
    have ih := encAm_gone l j (by simpa using hj)
    have e : ∀ (y : Am) (t : List Am), encAm (y :: t) = [.int .i64 y.time, .int .i64 y.actor, .int .i64 y.above, .int .i64 y.maker, .string y.byte, .bool y.gone] ++ encAm t := fun y t => by simp [encAm, amC]
    rw [e, List.set_cons_succ, e, List.getElem_cons_succ, ← ih, show (j + 1) * 6 + 5 = j * 6 + 5 + 6 by omega]
    simp
theorem AmOwn.gone {w : World} {B g cap : Nat} {l : List Am} (h : AmOwn w B (.slice (some ⟨g, 0, none⟩) l.length cap) l) {j : Nat} (hj : j < l.length) :
    AmOwn (w.setCell ⟨g, j * 6 + 5, none⟩ (.bool true)) B (.slice (some ⟨g, 0, none⟩) l.length cap) (dropL l j) := by
  have := (h.stored (j * 6 + 5) (.bool true)).1
  rw [encAm_gone l j hj] at this
  unfold AmOwn
  rw [dropL_len]
  unfold dropL
  rw [dif_pos hj]
  exact this
noncomputable def drB (l : List Am) (p : Int) : Bool := goodQ l && (decide (0 ≤ p) && decide (p < ((shL l).length : Int)))
noncomputable def drL (l : List Am) (p : Int) : List Am := if drB l p = true then dropL l ((shL l).getD p.toNat 0) else []
theorem drL_len (l : List Am) (p : Int) : (drL l p).length ≤ 80 := by
  unfold drL
  split
  · rename_i h
    rw [dropL_len]
    unfold drB at h
    simp only [Bool.and_eq_true] at h
    exact good_len h.1
  · simp

set_option maxRecDepth 100000 in
set_option maxHeartbeats 2000000 in
theorem dropAtomI {w : World} {a : Option Addr} {cap : Nat} {l : List Am} (h : SIn w a cap l) (hT : Tab w) (p : Int) :
    Calls Tryd.prog 21 #[.agg #[.slice a l.length cap], .int .i64 p] w fun e w' => ∃ v, e = .returned (.tuple #[.agg #[v], .bool (drB l p)]) ∧ AmOwn w' w.heap.size v (drL l p) ∧ Below w.heap.size w w' := by
  obtain ⟨hs0, hb0, hk0, hk1⟩ := boxesS2 w (.slice a l.length cap) (.slice none 0 0)
  obtain ⟨w0, hw0⟩ : ∃ w0, w0 = (w.alloc (.cells #[.slice a l.length cap] 25)).alloc (.cells #[.slice none 0 0] 25) := ⟨_, rfl⟩
  rw [← hw0] at hs0 hb0 hk0 hk1
  have HB0 := hide hb0
  have HK0 := hide hk0
  have HK1 := hide hk1
  have HS0 := hide hs0
  have S := hide (seqOf_any (h.later hb0) (hT.below hb0))
  have k0 := hk0.cell
  have H := hide h
  clear h hT hb0 hk0 hk1 hs0
  cases hq : goodQ l with
  | false =>
    have HR : Hid (drL l p = [] ∧ drB l p = false) := hide (by have : drB l p = false := by unfold drB; rw [hq]; rfl
                                                               exact ⟨by unfold drL; rw [if_neg (by rw [this]; simp)], this⟩)
    rw [HR.out.1, HR.out.2]
    rw [hq] at S
    clear hq
    go_enter Tryd.func21, Tryd.ntmps21
    rw [hw0] at k0
    go_wp2_with fail
    rw [← hw0] at k0 ⊢
    clear hw0 k0
    refine S.out.mono ?_
    rintro e w1 ⟨v1, rfl, o1, hb1⟩
    obtain ⟨a1, c1, rfl, -⟩ := own_shp o1
    have hb2 : Below w1.heap.size w1 (w1.alloc (.cells #[.slice a1 (sqR l).length c1] 25)) := (Below.refl _ _).alloc (Nat.le_refl _) _
    have HK2 := hide ((HK1.out.later hb1).later hb2)
    have HB1 := hide (HB0.out.trans ((hb1.trans (hb2.mono hb1.size)).mono HB0.out.size))
    have k1 := HK2.out.cell
    have f1 := HK2.out.fz
    clear hb1 hb2 o1
    go_wp2
    refine bodyPost_ret (results_cell_tmp rfl _ _ (w.heap.size + 1) 25 _ (0, 0) _ (.bool false) rfl rfl (HK2.out.put _) Tryd.underlying25 rfl sizeSeqI) rfl ?_
    exact ⟨_, rfl, World.ownsRow_nil _ _ _ _, HB1.out.setCell (p := ⟨w.heap.size + 1, 0, none⟩) (Nat.le_succ _) _⟩
  | true =>
    have SQ : Hid (sqR l = l) := hide (by unfold sqR; rw [if_pos hq])
    have hln := good_len hq
    have O := hide (fun (w' : World) (a1 : Option Addr) (c1 : Nat) (hi : AmIn w' a1 c1 l) => shownOf_any hi hq)
    have HM : Hid (∀ j ∈ shL l, j < l.length) := hide (fun j hj => ordL_mem hq j (List.mem_filter.1 hj).1)
    have hol : (shL l).length ≤ 80 := by have h1 := shw_le l (ordL l); have h2 := ordL_len hq; have h3 := good_len hq; unfold shL; omega
    have HD : Hid (drB l p = (decide (0 ≤ p) && decide (p < ((shL l).length : Int)))) := hide (by unfold drB; rw [hq]; rfl)
    have HN : Hid (drB l p = false → drL l p = []) := hide (fun c => by unfold drL; rw [if_neg (by rw [c]; simp)])
    have HY : Hid (∀ (m : Nat) (hm : m < (shL l).length), p = (m : Int) → drL l p = dropL l (shL l)[m]) := hide (fun m hm e => by
      unfold drL
      rw [if_pos (by unfold drB; rw [hq, e]; simp; exact hm), e, Int.toNat_natCast, List.getD_eq_getElem?_getD, List.getElem?_eq_getElem hm]
      rfl)
    rw [SQ.out, hq] at S
    obtain ⟨R, hR⟩ : ∃ R, R = drL l p := ⟨_, rfl⟩
    obtain ⟨D, hDD⟩ : ∃ D, D = drB l p := ⟨_, rfl⟩
    rw [← hR] at HN
    simp only [← hR] at HY
    rw [← hDD] at HD HN
    rw [← hR, ← hDD]
    clear hq hR hDD SQ
    generalize shL l = o at O HM hol HD HY
    go_enter Tryd.func21, Tryd.ntmps21
    rw [hw0] at k0
    go_wp2_with fail
    rw [← hw0] at k0 ⊢
    clear hw0 k0
    refine S.out.mono ?_
    rintro e w1 ⟨v1, rfl, o1, hb1⟩
    obtain ⟨a1, c1, rfl, -⟩ := own_shp o1
    obtain ⟨w2, hw2⟩ : ∃ w2, w2 = w1.alloc (.cells #[.slice a1 l.length c1] 25) := ⟨_, rfl⟩
    have hb2 : Below w1.heap.size w1 w2 := by rw [hw2]; exact (Below.refl _ _).alloc (Nat.le_refl _) _
    have hx2 : CellR w2 w1.heap.size (.slice a1 l.length c1) := by rw [hw2]; exact CellR.new _ _
    have HX2 := hide hx2
    have HK2 := hide ((HK1.out.later hb1).later hb2)
    have HB2 := hide (HB0.out.trans ((hb1.trans (hb2.mono hb1.size)).mono HB0.out.size))
    have o2 := own_below o1 hb2
    have HO2 : Hid (AmOwn w2 w0.heap.size (.slice a1 l.length c1) l) := hide o2
    have HL1 : Hid (∀ y, (Value.slice a1 l.length c1).ownBlock = some y → y < w1.heap.size) := hide (fun y hy => (World.ownsRow.lt o1 y hy).2)
    have HIN : Hid (AmIn w2 a1 c1 l) := hide (by obtain ⟨a', c', e', hi⟩ := AmOwn.inn (show AmOwn w2 w0.heap.size _ l from o2); cases e'; exact hi)
    have S2 := hide (O.out w2 a1 c1 HIN.out)
    have HS12 : Hid (w0.heap.size ≤ w1.heap.size ∧ w2.heap.size = w1.heap.size + 1) := hide ⟨hb1.size, by rw [hw2]; simp⟩
    have k2 := hx2.cell
    clear hb1 hb2 hx2 o1 o2 O
    rw [hw2] at k2
    go_wp2_with fail
    rw [← hw2] at k2 ⊢
    clear hw2 k2
    refine S2.out.mono ?_
    rintro e w3 ⟨v2, rfl, o3, hb3⟩
    have HV : Hid (∀ m (hm : m < o.length), ∃ g2 c2, v2 = .slice (some ⟨g2, 0, none⟩) o.length c2 ∧ w2.heap.size ≤ g2 ∧ w3.cell? ⟨g2, m, none⟩ = some (.int .i64 ((o[m] : Nat) : Int))) := hide (fun m hm => by
      obtain ⟨g2, c2, e, -, -, h2, h3, h4, -⟩ := own_cat o3 (by rw [oI_len]; omega)
      rw [oI_len] at e
      refine ⟨g2, c2, e, h2, h4 m _ ?_⟩
      rw [ints_at (oI o) (by rw [oI_len]; exact hm), oI_at])
    obtain ⟨a2, c2, he2, -, hm2⟩ := own_shp o3
    rw [oI_len] at he2
    subst he2
    have HX3 := hide (HX2.out.later hb3)
    have HK3 := hide (HK2.out.later hb3)
    have HB3 := hide (HB2.out.trans (hb3.mono HB2.out.size))
    have HO3 : Hid (AmOwn w3 w0.heap.size (.slice a1 l.length c1) l) := hide (own_below HO2.out hb3)
    have k3 := HX3.out.cell
    have q3 := HK3.out.cell
    have f3 := HK3.out.fz
    clear o3 hb3 S2 HIN HO2 HX2 HK2
    by_cases h0 : p < 0
    · have hd : D = false := by rw [HD.out, decide_eq_false (by omega)]; rfl
      have HRD : Hid (D = false ∧ R = []) := hide ⟨hd, HN.out hd⟩
      clear HD HN HY hd
      go_wp2
      refine bodyPost_ret (results_cell_tmp rfl _ _ (w.heap.size + 1) 25 _ (0, 0) _ (.bool false) rfl rfl (HK3.out.put _) Tryd.underlying25 rfl sizeSeqI) rfl ?_
      rw [HRD.out.1, HRD.out.2]
      exact ⟨_, rfl, World.ownsRow_nil _ _ _ _, HB3.out.setCell (p := ⟨w.heap.size + 1, 0, none⟩) (Nat.le_succ _) _⟩
    · obtain ⟨m, rfl⟩ : ∃ m : Nat, p = (m : Int) := ⟨p.toNat, by omega⟩
      by_cases hlt : m < o.length
      · have hd : D = true := by rw [HD.out, decide_eq_true (by omega), decide_eq_true (by omega)]; rfl
        have HRD : Hid (D = true ∧ R = dropL l o[m]) := hide ⟨hd, HY.out m hlt rfl⟩
        have hjl := HM.out _ (List.getElem_mem hlt)
        obtain ⟨g2, cc, e2, hg2, c0⟩ := HV.out m hlt
        cases e2
        obtain ⟨g1, cc1, e1, -, -, hg1, hl1, hc1, hf1⟩ := own_cat HO3.out (by omega)
        cases e1
        obtain ⟨b5, e5⟩ : ∃ b5, w3.cell? ⟨g1, o[m] * 6 + 5, none⟩ = some b5 := ⟨_, (hc1.amat _ hjl).2.2.2.2.2⟩
        have e6 := hf1.fz (o[m] * 6 + 5)
        have HGO := hide (HO3.out.gone hjl)
        obtain ⟨j, hj⟩ : ∃ j, j = o[m] := ⟨_, rfl⟩
        rw [← hj] at c0 e6 HGO HRD
        rw [← hj] at e5
        have hjl' : j < l.length := by rw [hj]; exact hjl
        have HJ := hide hj
        have qj1 : (0 : Int) ≤ (j : Int) := by omega
        have qj2 : (j : Int) < (l.length : Int) := by omega
        have qm1 : (0 : Int) ≤ (m : Int) := by omega
        have qm2 : (m : Int) < (o.length : Int) := by omega
        clear HD HN HY hd hc1 hf1 hj hjl
        go_wp2
        go_region
        have hg1l := HL1.out g1 rfl
        have hs0 := HS0.out
        obtain ⟨w5, hw5⟩ : ∃ w5, w5 = (w3.setCell ⟨g1, j * 6 + 5, none⟩ (.bool true)).drew := ⟨_, rfl⟩
        have HX5 : Hid (CellR w5 w1.heap.size (.slice (some ⟨g1, 0, none⟩) l.length c1)) := hide (by rw [hw5]; exact HX3.out.other1 (by omega) _ _)
        have HK5 : Hid (CellR w5 (w.heap.size + 1) (.slice none 0 0)) := hide (by rw [hw5]; exact HK3.out.other1 (by omega) _ _)
        have HG5 : Hid (AmOwn w5 w0.heap.size (.slice (some ⟨g1, 0, none⟩) l.length c1) (dropL l j)) := hide (by rw [hw5]; exact HGO.out)
        have HB5 : Hid (Below w.heap.size w w5) := hide (by rw [hw5]; exact (HB3.out.setCell (p := ⟨g1, j * 6 + 5, none⟩) (by show w.heap.size ≤ g1; omega) _).drew)
        have k5 := HX5.out.cell
        have k6 := HK5.out.cell
        have k7 := HK5.out.fz
        clear k3 q3 f3 e5 e6 HGO HX3 HK3 c0
        rw [← hw5]
        clear hw5
        go_wp2
        refine bodyPost_ret (results_cell_tmp rfl _ _ (w.heap.size + 1) 25 _ (0, 0) _ (.bool true) rfl rfl (HK5.out.put _) Tryd.underlying25 rfl sizeSeqI) rfl ?_
        rw [HRD.out.1, HRD.out.2]
        exact ⟨_, rfl, AmOwn.mono (own_aside HG5.out (by omega) _ _) (by omega), HB5.out.setCell (p := ⟨w.heap.size + 1, 0, none⟩) (Nat.le_succ _) _⟩
      · have hd : D = false := by rw [HD.out, decide_eq_false (p := ((m : Int) < _)) (by omega), Bool.and_false]
        have HRD : Hid (D = false ∧ R = []) := hide ⟨hd, HN.out hd⟩
        clear HD HN HY hd
        go_wp2
        refine bodyPost_ret (results_cell_tmp rfl _ _ (w.heap.size + 1) 25 _ (0, 0) _ (.bool false) rfl rfl (HK3.out.put _) Tryd.underlying25 rfl sizeSeqI) rfl ?_
        rw [HRD.out.1, HRD.out.2]
        exact ⟨_, rfl, World.ownsRow_nil _ _ _ _, HB3.out.setCell (p := ⟨w.heap.size + 1, 0, none⟩) (Nat.le_succ _) _⟩
end Go.Proofs.YtnhooalibadeeaaDoor

set_option linter.unusedVariables false
namespace Go.Proofs.YtnhooalibadeeaaDoor
open Go.RowKit
open Doc1

set_option maxRecDepth 100000 in
set_option maxHeartbeats 2000000 in
theorem growA (n : Nat) (h0 : 0 < n) (hn : n ≤ 100000) (w : World) :
    Calls Tryd.prog 75 #[.slice none 0 0, .int .i64 (n : Int)] w fun e w' => ∃ v, e = .returned v ∧ AmOwn w' w.heap.size v [] ∧ Below w.heap.size w w' := by
  obtain ⟨i0, hi0, hz0, hz1, hz2⟩ := info_parts infoAm
  have hold : (Builtin.firstCells i0.size 0 (.slice none 0 0)).run Tryd.prog w.drew = .ok ([] : List Value).toArray w.drew := run_firstCells_none w.drew i0.size 0 0 0
  obtain ⟨G, hG⟩ : ∃ G, G = grownCap w (0 + n) 0 67 := ⟨_, rfl⟩
  have hGn : n ≤ G := by have := grownCap_ge w (0 + n) 0 67; omega
  have hGm : G ≤ maxLen := by rw [hG]; exact grownCap_le_maxLen w _ _ _ (by unfold maxLen; omega)
  have hrz : ∀ ty, ∃ cs : Array Value, cs.size = G * 6 ∧ (Builtin.append_ #[23, 3] ty #[.slice none 0 0, .int .i64 (n : Int)]).run Tryd.prog w = .ok (.slice (some ⟨w.heap.size, 0, none⟩) n G) (w.drew.alloc (.cells cs 67)) := fun ty => by
    have h := Lib.run_append_grow_zeros w 23 3 ty 67 i0 _ .i64 .i64 Tryd.underlying23 Tryd.underlying3 hi0 hz0 none 0 0 [] hold n h0 (by omega) (by omega) (by omega) (by rw [hz2]; omega) (by rw [hz2]; exact growslice_fits (need := 0 + n) (old := 0) (bytes := 56) (by omega) (by omega))
    rw [← hG, Nat.zero_add] at h
    refine ⟨_, ?_, h⟩
    simp [Builtin.zeroCells, Value.cells]
    omega
  have h3 : IntKind.i64.wrap ((n : Int) - 0) = (n : Int) := by rw [IntKind.wrap_i64]; omega
  have h4 : (0 : Int) < (n : Int) := by omega
  have HGM := hide (And.intro hGn hGm)
  unfold maxLen at hGm
  clear hold hG
  go_enter Tryd.func75, Tryd.ntmps75
  go_wp2_with (at_builtin; obtain ⟨cs, hcs, hr⟩ := hrz _; refine Lib.wpList_append_run _ rfl _ _ _ _ rfl _ _ rfl rfl _ _ hr ?_)
  go_ret
  refine ⟨_, rfl, ?_, ((Below.refl _ _).drew).alloc (Nat.le_refl _) _⟩
  exact ⟨rfl, .inr ⟨w.heap.size, G, cs, rfl, Nat.le_refl _, heap_alloc_new w.drew _, Nat.zero_le _, HGM.out.2, hcs, by simp [encAm]⟩⟩

set_option maxRecDepth 100000 in
set_option maxHeartbeats 2000000 in
theorem concatA {w : World} {gC : Nat} {a ax : Option Addr} {cap cx : Nat} {l m : List Am} (hl : AmIn w a cap l) (hm : AmIn w ax cx m) (hln : l.length ≤ 10000) (hm0 : 0 < m.length) (hmn : m.length ≤ 10000) (hg : gC < w.heap.size)
    (c0 : w.cell? ⟨gC, 0, none⟩ = some (.slice a l.length cap)) (c1 : w.cell? ⟨gC, 1, none⟩ = some (.slice ax m.length cx)) :
    Calls Tryd.prog 52 #[.slice (some ⟨gC, 0, none⟩) 2 2] w fun e w' => ∃ v, e = .returned v ∧ AmOwn w' w.heap.size v (l ++ m) ∧ Below w.heap.size w w' := by
  have HL := hide hl
  have HM := hide hm
  have hl1 := hl.le
  have hl2 := hl.mx
  have hm1 := hm.le
  have hm2 := hm.mx
  unfold maxLen at hl2 hm2
  have GR := hide (growA (l.length + m.length) (by omega) (by omega) w)
  have C0 : Hid (∀ w', Below w.heap.size w w' → w'.cell? ⟨gC, 0, none⟩ = some (.slice a l.length cap)) := hide (fun w' hb => (World.cell?_of_block (a := ⟨gC, 0, none⟩) (hb.block gC hg)).trans c0)
  have C1 : Hid (∀ w', Below w.heap.size w w' → w'.cell? ⟨gC, 1, none⟩ = some (.slice ax m.length cx)) := hide (fun w' hb => (World.cell?_of_block (a := ⟨gC, 1, none⟩) (hb.block gC hg)).trans c1)
  have ew0 : IntKind.i64.wrap ((0 : Int) + (l.length : Int)) = (l.length : Int) := by rw [IntKind.wrap_i64]; omega
  have ew1 : IntKind.i64.wrap ((l.length : Int) + (m.length : Int)) = ((l.length + m.length : Nat) : Int) := by rw [IntKind.wrap_i64]; omega
  clear hl hm
  go_enter Tryd.func52, Tryd.ntmps52
  go_wp2
  go_loopw [3, 11] (fun s i wr => ∃ k : Nat, k ≤ 2 ∧ i = .int .i64 k ∧ s = .int .i64 ((if k = 0 then 0 else if k = 1 then l.length else l.length + m.length : Nat) : Int) ∧ wr = w) (fun _ i _ => 2 - (intOf i).toNat)
  case atStart => exact ⟨0, by omega, rfl, rfl, rfl⟩
  case round =>
    obtain ⟨k, hk, rfl, rfl, hw⟩ := hrel
    replace hw := hw.symm
    subst hw
    by_cases hlt : k < 2
    · have hkk : k = 0 ∨ k = 1 := by omega
      rcases hkk with rfl | rfl
      · rw [if_pos rfl]
        go_wp2
        exact ⟨⟨1, by omega, by go_num, by first | rfl | trivial, by first | rfl | trivial⟩, by simp [intOf]⟩
      · rw [if_neg (by omega), if_pos rfl]
        go_wp2
        exact ⟨⟨2, by omega, by go_num, by first | rfl | trivial, by first | rfl | trivial⟩, by simp [intOf]⟩
    · obtain rfl : k = 2 := by omega
      rw [if_neg (by omega), if_neg (by omega)]
      obtain ⟨T, hT⟩ : ∃ T, T = l.length + m.length := ⟨_, rfl⟩
      rw [← hT] at GR ⊢
      clear hT ew0 ew1 c0 c1
      go_wp2_with fail
      refine GR.out.mono ?_
      rintro e w2 ⟨v, rfl, o2, hb2⟩
      obtain ⟨a2, c2, rfl, -, -⟩ := own_shp o2
      have R0 : Hid (AmOwn w2 w.heap.size (.slice a2 0 c2) [] ∧ Below w.heap.size w w2) := hide ⟨o2, hb2⟩
      clear o2 hb2
      go_wp2
      go_loopw [6, 27] (fun v i wx => ∃ k : Nat, k ≤ 2 ∧ i = .int .i64 k ∧ ∃ v0, v0 = v ∧ Hid (AmOwn wx w.heap.size v0 (if k = 0 then [] else if k = 1 then l else l ++ m) ∧ Below w.heap.size w wx)) (fun _ i _ => 2 - (intOf i).toNat)
      case atStart => exact ⟨0, by omega, rfl, _, rfl, R0⟩
      case round =>
        obtain ⟨k, hk, rfl, v, rfl, HR⟩ := hrel
        clear R0
        by_cases hlt : k < 2
        · have hkk : k = 0 ∨ k = 1 := by omega
          rcases hkk with rfl | rfl
          · rw [if_pos rfl] at HR
            obtain ⟨av, cv, hv, -⟩ := own_shp HR.out.1
            rw [List.length_nil] at hv
            subst hv
            have q0 := C0.out _ HR.out.2
            have HLx := hide (HL.out.later HR.out.2)
            go_wp2_with (at_builtin; go_loud (refine append_ams _ rfl _ _ rfl w.heap.size _ [] HR.out.1 a cap l (by simp; omega) rfl rfl HLx.out HR.out.2.size ?_); intro v5 w5 own5 grow5 _; have HR5 : Hid (AmOwn w5 w.heap.size v5 l ∧ Below w.heap.size w w5) := hide ⟨(by rw [List.nil_append] at own5; exact own5), grown_belowB HR.out.2 HR.out.2.size HR.out.1 grow5⟩; clear own5 grow5)
            exact ⟨⟨1, by omega, by go_num, _, rfl, HR5⟩, by simp [intOf]⟩
          · rw [if_neg (by omega), if_pos rfl] at HR
            obtain ⟨av, cv, rfl, -⟩ := own_shp HR.out.1
            have q0 := C1.out _ HR.out.2
            have HLx := hide (HM.out.later HR.out.2)
            go_wp2_with (at_builtin; go_loud (refine append_ams _ rfl _ _ rfl w.heap.size _ l HR.out.1 ax cx m (by omega) rfl rfl HLx.out HR.out.2.size ?_); intro v5 w5 own5 grow5 _; have HR5 : Hid (AmOwn w5 w.heap.size v5 (l ++ m) ∧ Below w.heap.size w w5) := hide ⟨own5, grown_belowB HR.out.2 HR.out.2.size HR.out.1 grow5⟩; clear own5 grow5)
            exact ⟨⟨2, by omega, by go_num, _, rfl, HR5⟩, by simp [intOf]⟩
        · obtain rfl : k = 2 := by omega
          rw [if_neg (by omega), if_neg (by omega)] at HR
          obtain ⟨av, cv, rfl, -⟩ := own_shp HR.out.1
          go_wp2
          go_ret
          exact ⟨_, rfl, HR.out.1, HR.out.2⟩
end Go.Proofs.YtnhooalibadeeaaDoor

set_option linter.unusedVariables false
namespace Go.Proofs.YtnhooalibadeeaaDoor
open Go.RowKit
open Doc1

def tmN (l : List Am) : Int := match l.getLast? with | some y => y.time + 1 | none => 1
def abN (l : List Am) (o : List Nat) (p : Int) : Int := if 0 < p then (match l[o.getD (p - 1).toNat 0]? with | some y => y.time | none => 0) else 0
def mkN (l : List Am) (o : List Nat) (p : Int) : Int := if 0 < p then (match l[o.getD (p - 1).toNat 0]? with | some y => y.actor | none => 0) else 0
theorem tmN_nil : tmN [] = 1 := rfl
theorem tmN_at {l : List Am} {q : Nat} (hq : l.length = q + 1) : tmN l = (l[q]'(by omega)).time + 1 := by
  unfold tmN
  rw [List.getLast?_eq_getElem?, show l.length - 1 = q by omega, List.getElem?_eq_getElem (by omega)]
theorem abN_zero (l : List Am) (o : List Nat) : abN l o 0 = 0 := rfl
theorem mkN_zero (l : List Am) (o : List Nat) : mkN l o 0 = 0 := rfl
theorem abN_at {l : List Am} {o : List Nat} {m : Nat} (hm : m < o.length) (hj : o[m] < l.length) : abN l o ((m : Int) + 1) = l[o[m]].time ∧ mkN l o ((m : Int) + 1) = l[o[m]].actor := by
  unfold abN mkN
  rw [if_pos (by omega), if_pos (by omega), show ((m : Int) + 1 - 1).toNat = m by omega, List.getD_eq_getElem?_getD, List.getElem?_eq_getElem hm, Option.getD_some, List.getElem?_eq_getElem hj]
  exact ⟨rfl, rfl⟩
/-- The atom that is put. -/
noncomputable def newAm (l : List Am) (ac p : Int) (b : ByteArray) : Am := ⟨tmN l, ac, abN l (shL l) p, mkN l (shL l) p, b, false⟩
noncomputable def ptB (l : List Am) (ac p : Int) (b : ByteArray) : Bool := goodQ l && (decide (0 ≤ p) && decide (p ≤ ((shL l).length : Int))) && goodQ (l ++ [newAm l ac p b])
noncomputable def ptL (l : List Am) (ac p : Int) (b : ByteArray) : List Am := if ptB l ac p b = true then l ++ [newAm l ac p b] else []
theorem pt_no {l : List Am} {ac p : Int} {b : ByteArray} (h : goodQ l = false ∨ ¬ (0 ≤ p ∧ p ≤ ((shL l).length : Int))) : ptB l ac p b = false ∧ ptL l ac p b = [] := by
  have e : ptB l ac p b = false := by
    unfold ptB
    rcases h with h | h
    · rw [h]; rfl
    · have : (decide (0 ≤ p) && decide (p ≤ ((shL l).length : Int))) = false := by
        rw [← Bool.decide_and]
        exact decide_eq_false h
      rw [this, Bool.and_false, Bool.false_and]
  exact ⟨e, by unfold ptL; rw [if_neg (by rw [e]; simp)]⟩
theorem pt_yes {l : List Am} {ac p : Int} {b : ByteArray} (h : goodQ l = true) (h2 : 0 ≤ p ∧ p ≤ ((shL l).length : Int)) : ptB l ac p b = goodQ (l ++ [newAm l ac p b]) ∧ ptL l ac p b = sqR (l ++ [newAm l ac p b]) := by
  have e : ptB l ac p b = goodQ (l ++ [newAm l ac p b]) := by
    unfold ptB
    have : (decide (0 ≤ p) && decide (p ≤ ((shL l).length : Int))) = true := by
      rw [← Bool.decide_and]
      exact decide_eq_true h2
    rw [h, this, Bool.and_self, Bool.true_and]
  refine ⟨e, ?_⟩
  unfold ptL sqR
  rw [e]
theorem ptL_len (l : List Am) (ac p : Int) (b : ByteArray) : (ptL l ac p b).length ≤ 80 := by
  unfold ptL
  split
  · rename_i h
    unfold ptB at h
    simp only [Bool.and_eq_true] at h
    exact good_len h.2
  · simp
/-- The new atom's writer is one. -/
theorem put_actor {l : List Am} {x : Am} (h : goodQ (l ++ [x]) = true) : 0 ≤ x.actor ∧ x.actor ≤ 9 := by
  have h1 := (good_at h (i := l.length) (by simp)).1
  have e : (l ++ [x])[l.length]'(by simp) = x := by simp
  rw [e] at h1
  unfold isOk rngA at h1
  simp at h1
  omega
theorem good_actor {l : List Am} (h : goodQ l = true) {i : Nat} (hi : i < l.length) : 0 ≤ l[i].actor ∧ l[i].actor ≤ 9 := by
  have h1 := (good_at h hi).1
  unfold isOk rngA at h1
  simp at h1
  omega
theorem SIn.more {w : World} {B : Nat} {v : Value} {l : List Am} {x : Am} (h : AmOwn w B v (l ++ [x])) (hl : l.length ≤ 80) (ht : ∀ i (hi : i < l.length), l[i].byte.size ≤ 1048576) (hx : x.byte.size ≤ 1048576) : ∃ a c, v = .slice a (l ++ [x]).length c ∧ SIn w a c (l ++ [x]) := by
  obtain ⟨a, c, e, hi⟩ := h.inn
  refine ⟨a, c, e, hi, by simp; omega, fun i hi => ?_⟩
  rw [List.getElem_append]
  split
  · exact ht i _
  · simp; exact hx
end Go.Proofs.YtnhooalibadeeaaDoor

set_option linter.unusedVariables false
namespace Go.Proofs.YtnhooalibadeeaaDoor
open Go.RowKit
open Doc1

theorem BxA.put0 {w : World} {g : Nat} {x : Am} (h : BxA w g x) (t : Int) : BxA (w.setCell ⟨g, 0, none⟩ (.int .i64 t)) g { x with time := t } := by unfold BxA; rw [cell_put h]; rfl
theorem BxA.put2 {w : World} {g : Nat} {x : Am} (h : BxA w g x) (t : Int) : BxA (w.setCell ⟨g, 2, none⟩ (.int .i64 t)) g { x with above := t } := by unfold BxA; rw [cell_put h]; rfl
theorem BxA.put3 {w : World} {g : Nat} {x : Am} (h : BxA w g x) (t : Int) : BxA (w.setCell ⟨g, 3, none⟩ (.int .i64 t)) g { x with maker := t } := by unfold BxA; rw [cell_put h]; rfl
theorem SIn.set {w : World} {a : Option Addr} {cap : Nat} {l : List Am} {w1 : World} (h : SIn w a cap l) (hb : Below w.heap.size w w1) {g : Nat} (hg : w.heap.size ≤ g) (j : Nat) (v : Value) : SIn (w1.setCell ⟨g, j, none⟩ v) a cap l :=
  h.later (hb.setCell (p := ⟨g, j, none⟩) hg v)

set_option maxRecDepth 100000 in
set_option maxHeartbeats 4000000 in
theorem putAtomI {w : World} {a : Option Addr} {cap : Nat} {l : List Am} (h : SIn w a cap l) (hT : Tab w) (ac p : Int) (b : ByteArray) (hbs : b.size ≤ 1048576) :
    Calls Tryd.prog 17 #[.agg #[.slice a l.length cap], .int .i64 ac, .int .i64 p, .string b] w fun e w' => ∃ v, e = .returned (.tuple #[.agg #[v], .bool (ptB l ac p b)]) ∧ AmOwn w' w.heap.size v (ptL l ac p b) ∧ Below w.heap.size w w' := by
  obtain ⟨hs0, hb0, hk0, hk1⟩ := boxesS2 w (.slice a l.length cap) (.slice none 0 0)
  obtain ⟨w0, hw0⟩ : ∃ w0, w0 = (w.alloc (.cells #[.slice a l.length cap] 25)).alloc (.cells #[.slice none 0 0] 25) := ⟨_, rfl⟩
  rw [← hw0] at hs0 hb0 hk0 hk1
  have HB0 := hide hb0
  have HK0 := hide hk0
  have HK1 := hide hk1
  have HS0 := hide hs0
  have S := hide (goodSeqI (h.later hb0) (hT.below hb0))
  have k0 := hk0.cell
  have H := hide h
  have HTb := hide hT
  clear h hT hb0 hk0 hk1 hs0
  cases hq : goodQ l with
  | false =>
    have HRD := hide (pt_no (ac := ac) (p := p) (b := b) (.inl hq))
    rw [HRD.out.1, HRD.out.2]
    rw [hq] at S
    clear hq
    go_enter Tryd.func17, Tryd.ntmps17
    rw [hw0] at k0
    go_wp2_with fail
    rw [← hw0] at k0 ⊢
    clear hw0 k0
    refine S.out.mono ?_
    rintro e w1 ⟨rfl, hb1⟩
    have HK2 := hide (HK1.out.later hb1)
    have HB1 := hide (HB0.out.trans (hb1.mono HB0.out.size))
    have k1 := HK2.out.cell
    have f1 := HK2.out.fz
    clear hb1
    go_wp2
    refine bodyPost_ret (results_cell_tmp rfl _ _ (w.heap.size + 1) 25 _ (0, 0) _ (.bool false) rfl rfl (HK2.out.put _) Tryd.underlying25 rfl sizeSeqI) rfl ?_
    exact ⟨_, rfl, World.ownsRow_nil _ _ _ _, HB1.out.setCell (p := ⟨w.heap.size + 1, 0, none⟩) (Nat.le_succ _) _⟩
  | true =>
    have hln := good_len hq
    have O := hide (fun (w' : World) (hb : Below w.heap.size w w') => shownOf_any (H.out.later hb).inn hq)
    have HM : Hid (∀ j ∈ shL l, j < l.length) := hide (fun j hj => ordL_mem hq j (List.mem_filter.1 hj).1)
    have hol : (shL l).length ≤ l.length := by have h1 := shw_le l (ordL l); have h2 := ordL_len hq; unfold shL; omega
    have HNO : Hid (¬ (0 ≤ p ∧ p ≤ ((shL l).length : Int)) → ptB l ac p b = false ∧ ptL l ac p b = []) := hide (fun c => pt_no (.inr c))
    have HYE : Hid (0 ≤ p ∧ p ≤ ((shL l).length : Int) → ptB l ac p b = goodQ (l ++ [newAm l ac p b]) ∧ ptL l ac p b = sqR (l ++ [newAm l ac p b])) := hide (fun c => pt_yes hq c)
    have HNA : Hid (newAm l ac p b = ⟨tmN l, ac, abN l (shL l) p, mkN l (shL l) p, b, false⟩) := hide rfl
    have HGT := hide (fun i hi => good_time hq (i := i) hi)
    have HGA := hide (fun i hi => good_actor hq (i := i) hi)
    have HTX : Hid (∀ i (hi : i < l.length), l[i].byte.size ≤ 1048576) := hide H.out.txt
    have HNb : Hid ((newAm l ac p b).byte.size ≤ 1048576) := hide hbs
    rw [hq] at S
    obtain ⟨NA, hNA⟩ : ∃ NA, newAm l ac p b = NA := ⟨_, rfl⟩
    obtain ⟨R, hR⟩ : ∃ R, ptL l ac p b = R := ⟨_, rfl⟩
    obtain ⟨D, hDD⟩ : ∃ D, ptB l ac p b = D := ⟨_, rfl⟩
    simp only [hNA, hR, hDD] at HNO HYE HNA HNb ⊢
    clear hq hR hDD hNA hbs
    generalize shL l = o at O HM hol HNO HYE HNA
    go_enter Tryd.func17, Tryd.ntmps17
    rw [hw0] at k0
    go_wp2_with fail
    rw [← hw0] at k0 ⊢
    clear hw0 k0
    refine S.out.mono ?_
    rintro e w2 ⟨rfl, hb2⟩
    have HX2 := hide (HK0.out.later hb2)
    have HK2 := hide (HK1.out.later hb2)
    have HB2 := hide (HB0.out.trans (hb2.mono HB0.out.size))
    have O2 := hide (O.out w2 HB2.out)
    have k2 := HX2.out.cell
    clear hb2 O
    go_wp2_with fail
    refine O2.out.mono ?_
    rintro e w3 ⟨v2, rfl, o3, hb3⟩
    have HV : Hid (∀ m (hm : m < o.length), ∃ g2 c2, v2 = .slice (some ⟨g2, 0, none⟩) o.length c2 ∧ g2 < w3.heap.size ∧ w3.cell? ⟨g2, m, none⟩ = some (.int .i64 ((o[m] : Nat) : Int))) := hide (fun m hm => by
      obtain ⟨g2, c2, e, -, -, h2, h3, h4, -⟩ := own_cat o3 (by rw [oI_len]; omega)
      rw [oI_len] at e
      refine ⟨g2, c2, e, h3, h4 m _ ?_⟩
      rw [ints_at (oI o) (by rw [oI_len]; exact hm), oI_at])
    obtain ⟨a2, c2, he2, -, hm2⟩ := own_shp o3
    rw [oI_len] at he2
    subst he2
    have HX3 := hide (HX2.out.later hb3)
    have HK3 := hide (HK2.out.later hb3)
    have HB3 := hide (HB2.out.trans (hb3.mono HB2.out.size))
    have H3 := hide (H.out.later HB3.out)
    have k3 := HX3.out.cell
    have q3 := HK3.out.cell
    have f3 := HK3.out.fz
    clear o3 hb3 O2 HX2 HK2 k2 S HK0 HK1
    by_cases hin : 0 ≤ p ∧ p ≤ (o.length : Int)
    · have HRD := hide (HYE.out hin)
      obtain ⟨P, rfl⟩ : ∃ P : Nat, p = (P : Int) := ⟨p.toNat, by omega⟩
      have hPo : P ≤ o.length := by omega
      have hPi : (P : Int) ≤ (o.length : Int) := by omega
      have q0P : (0 : Int) ≤ (P : Int) := by omega
      obtain ⟨w4, hw4⟩ : ∃ w4, w4 = w3.alloc (.cells #[.int .i64 1, .int .i64 ac, .int .i64 0, .int .i64 0, .string b, .bool false] 67) := ⟨_, rfl⟩
      have hb4 : Below w3.heap.size w3 w4 := by rw [hw4]; exact (Below.refl _ _).alloc (Nat.le_refl _) _
      have HX4 := hide (HX3.out.later hb4)
      have HK4 := hide (HK3.out.later hb4)
      have HB4 := hide (HB3.out.trans (hb4.mono HB3.out.size))
      have H4 := hide (H3.out.later hb4)
      have BX4 : Hid (BxA w4 w3.heap.size ⟨1, ac, 0, 0, b, false⟩) := hide (by rw [hw4]; exact BxA.new _ ⟨1, ac, 0, 0, b, false⟩)
      have HS34 := hide hb4.size
      have k4 := HX4.out.cell
      have hwr : w.heap.size + 1 < w3.heap.size := HK3.out.lt
      have hb34 := hide hb4
      clear hb4 HNO HYE HX3 HK3 q3 f3 hin
      rw [hw4] at k4
      go_upto_region 7 with fail
      rw [← hw4] at k4 ⊢
      clear hw4 k3
      by_cases hl0 : l.length = 0
      · have ew : IntKind.i64.wrap ((l.length : Int) - 1) = -1 := by rw [IntKind.wrap_i64]; omega
        obtain rfl : P = 0 := by omega
        have HNE : Hid (NA = ⟨1, ac, 0, 0, b, false⟩) := hide (by rw [HNA.out]; obtain rfl : l = [] := List.length_eq_zero_iff.1 hl0; rfl)
        have BXr : Hid (BxA w4 w3.heap.size NA) := hide (by rw [HNE.out]; exact BX4.out)
        have HXr := HX4
        have HKr := HK4
        have HBr := HB4
        have Hr := H4
        clear HV HNA BX4 hl0 H3
        obtain ⟨y0, y1, y2, y3, y4, y5⟩ := BXr.out.cells
        have k9 := HXr.out.cell
        obtain ⟨wc, hwc⟩ : ∃ wc, wc = (w4.alloc (.cells #[.int .i64 NA.time, .int .i64 NA.actor, .int .i64 NA.above, .int .i64 NA.maker, .string NA.byte, .bool NA.gone] 67)).alloc (.cells #[.slice a l.length cap, .slice (some ⟨w4.heap.size, 0, none⟩) 1 1] 23) := ⟨_, rfl⟩
        have hbc : Below w4.heap.size w4 wc := by rw [hwc]; exact ((Below.refl _ _).alloc (Nat.le_refl _) _).alloc (by simp) _
        have hsc : wc.heap.size = w4.heap.size + 2 := by rw [hwc]; simp
        have hcc : wc.heap[w4.heap.size + 1]? = some (.cells #[.slice a l.length cap, .slice (some ⟨w4.heap.size, 0, none⟩) 1 1] 23) := by rw [hwc]; have := heap_alloc_new (w4.alloc (.cells #[.int .i64 NA.time, .int .i64 NA.actor, .int .i64 NA.above, .int .i64 NA.maker, .string NA.byte, .bool NA.gone] 67)) (.cells #[.slice a l.length cap, .slice (some ⟨w4.heap.size, 0, none⟩) 1 1] 23); rwa [show (w4.alloc (.cells #[.int .i64 NA.time, .int .i64 NA.actor, .int .i64 NA.above, .int .i64 NA.maker, .string NA.byte, .bool NA.gone] 67)).heap.size = w4.heap.size + 1 by simp] at this
        have hin1 : AmIn wc (some ⟨w4.heap.size, 0, none⟩) 1 [NA] := by rw [hwc]; exact (AmIn.one w4 NA).later ((Below.refl _ _).alloc (by simp) _)
        have CC := hide (concatA (gC := w4.heap.size + 1) (Hr.out.later hbc).inn hin1 (by omega) (by simp) (by simp) (by rw [hsc]; omega) (by rw [cell_of_row _ _ 0 _ _ (0, 0) hcc]; rfl) (by rw [cell_of_row _ _ 1 _ _ (0, 0) hcc]; rfl))
        have HBc := hide (HBr.out.trans (hbc.mono HBr.out.size))
        have HKc := hide (HKr.out.later hbc)
        clear hbc hsc hcc hin1 HXr
        go_wp2_with fail
        rw [← hwc]
        clear hwc y0 y1 y2 y3 y4 y5 k9
        refine CC.out.mono ?_
        rintro e wd ⟨v, rfl, od, hbd⟩
        have HBd := hide (HBc.out.trans (hbd.mono HBc.out.size))
        have HKd := hide (HKc.out.later hbd)
        obtain ⟨ad, cd, rfl, hsin⟩ := SIn.more od (by omega) HTX.out HNb.out
        have SO := hide (seqOf_any hsin (HTb.out.below HBd.out))
        have HLN : Hid ((l ++ [NA]).length = l.length + 1) := hide (by simp)
        rw [HLN.out] at SO
        clear od hbd hsin CC
        go_wp2_with fail
        refine SO.out.mono ?_
        rintro e we ⟨ve, rfl, oe, hbe⟩
        have HBe := hide (HBd.out.trans (hbe.mono HBd.out.size))
        have HKe := hide (HKd.out.later hbe)
        have HOe := hide oe
        have hRd : w.heap.size + 1 < wd.heap.size := HKd.out.lt
        have k9 := HKe.out.cell
        have f9 := HKe.out.fz
        obtain ⟨ae, ce, rfl, -⟩ := own_shp oe
        clear oe hbe SO
        go_wp2
        refine bodyPost_ret (results_cell_tmp rfl _ _ (w.heap.size + 1) 25 _ (0, 0) _ (.bool (goodQ (l ++ [NA]))) rfl rfl (HKe.out.put _) Tryd.underlying25 rfl sizeSeqI) rfl ?_
        rw [HRD.out.1, HRD.out.2]
        exact ⟨_, rfl, AmOwn.mono (own_aside HOe.out (by omega) _ _) (by omega), HBe.out.setCell (p := ⟨w.heap.size + 1, 0, none⟩) (Nat.le_succ _) _⟩
      · obtain ⟨q, hq⟩ : ∃ q, l.length = q + 1 := ⟨l.length - 1, by omega⟩
        have hql : q < l.length := by omega
        have ew : IntKind.i64.wrap ((l.length : Int) - 1) = (q : Int) := by rw [IntKind.wrap_i64]; omega
        have qq1 : (0 : Int) ≤ (q : Int) := by omega
        have qq2 : (q : Int) < (l.length : Int) := by omega
        obtain ⟨g, rfl, hg, hc⟩ := H4.out.inn.ad (by intro c; rw [c] at hq; simp at hq)
        have c0 := (hc.amat q hql).1
        have HTM : Hid (tmN l = l[q].time + 1) := hide (tmN_at hq)
        have hgt := HGT.out q hql
        obtain ⟨T, hTT⟩ : ∃ T, l[q].time = T := ⟨_, rfl⟩
        rw [hTT] at c0 HTM hgt
        have ew2 : IntKind.i64.wrap (T + 1) = T + 1 := by rw [IntKind.wrap_i64]; omega
        have e0 := BX4.out.cells.1
        have ef := frozen_of_row BX4.out 0
        clear hTT hc hl0 hq hgt
        go_upto_region 10 with fail
        obtain ⟨w5, hw5⟩ : ∃ w5, w5 = w4.setCell ⟨w3.heap.size, 0, none⟩ (.int .i64 (T + 1)) := ⟨_, rfl⟩
        have HX5 : Hid (CellR w5 w.heap.size (.slice (some ⟨g, 0, none⟩) l.length cap)) := hide (by rw [hw5]; exact HX4.out.other1 (by omega) _ _)
        have HK5 : Hid (CellR w5 (w.heap.size + 1) (.slice none 0 0)) := hide (by rw [hw5]; exact HK4.out.other1 (by omega) _ _)
        have H5 : Hid (SIn w5 (some ⟨g, 0, none⟩) cap l) := hide (by rw [hw5]; exact H3.out.set hb34.out (Nat.le_refl _) _ _)
        have HB5 : Hid (Below w.heap.size w w5) := hide (by rw [hw5]; exact HB4.out.setCell (p := ⟨w3.heap.size, 0, none⟩) (by show w.heap.size ≤ w3.heap.size; omega) _)
        have BX5 : Hid (BxA w5 w3.heap.size ⟨T + 1, ac, 0, 0, b, false⟩) := hide (by rw [hw5]; exact BX4.out.put0 (T + 1))
        have hb35 : Hid (Below w3.heap.size w3 w5) := hide (by rw [hw5]; exact hb34.out.setCell (p := ⟨w3.heap.size, 0, none⟩) (Nat.le_refl _) _)
        have HS5 : Hid (w5.heap.size = w4.heap.size) := hide (by rw [hw5]; simp [World.setCell])
        rw [← hw5]
        clear hw5 k4 c0 e0 ef HX4 HK4 H4 HB4 BX4 hb34 HGT ew ew2 qq1 qq2
        by_cases hP0 : P = 0
        · subst hP0
          have HNE : Hid (NA = ⟨T + 1, ac, 0, 0, b, false⟩) := hide (by rw [HNA.out, HTM.out]; rfl)
          have BXr : Hid (BxA w5 w3.heap.size NA) := hide (by rw [HNE.out]; exact BX5.out)
          have HXr := HX5
          have HKr := HK5
          have HBr := HB5
          have Hr := H5
          clear HV HNA BX5 H3 HX5 HK5 HB5 H5 HTM hb35
          obtain ⟨y0, y1, y2, y3, y4, y5⟩ := BXr.out.cells
          have k9 := HXr.out.cell
          obtain ⟨wc, hwc⟩ : ∃ wc, wc = (w5.alloc (.cells #[.int .i64 NA.time, .int .i64 NA.actor, .int .i64 NA.above, .int .i64 NA.maker, .string NA.byte, .bool NA.gone] 67)).alloc (.cells #[.slice (some ⟨g, 0, none⟩) l.length cap, .slice (some ⟨w5.heap.size, 0, none⟩) 1 1] 23) := ⟨_, rfl⟩
          have hbc : Below w5.heap.size w5 wc := by rw [hwc]; exact ((Below.refl _ _).alloc (Nat.le_refl _) _).alloc (by simp) _
          have hsc : wc.heap.size = w5.heap.size + 2 := by rw [hwc]; simp
          have hcc : wc.heap[w5.heap.size + 1]? = some (.cells #[.slice (some ⟨g, 0, none⟩) l.length cap, .slice (some ⟨w5.heap.size, 0, none⟩) 1 1] 23) := by rw [hwc]; have := heap_alloc_new (w5.alloc (.cells #[.int .i64 NA.time, .int .i64 NA.actor, .int .i64 NA.above, .int .i64 NA.maker, .string NA.byte, .bool NA.gone] 67)) (.cells #[.slice (some ⟨g, 0, none⟩) l.length cap, .slice (some ⟨w5.heap.size, 0, none⟩) 1 1] 23); rwa [show (w5.alloc (.cells #[.int .i64 NA.time, .int .i64 NA.actor, .int .i64 NA.above, .int .i64 NA.maker, .string NA.byte, .bool NA.gone] 67)).heap.size = w5.heap.size + 1 by simp] at this
          have hin1 : AmIn wc (some ⟨w5.heap.size, 0, none⟩) 1 [NA] := by rw [hwc]; exact (AmIn.one w5 NA).later ((Below.refl _ _).alloc (by simp) _)
          have CC := hide (concatA (gC := w5.heap.size + 1) (Hr.out.later hbc).inn hin1 (by omega) (by simp) (by simp) (by rw [hsc]; omega) (by rw [cell_of_row _ _ 0 _ _ (0, 0) hcc]; rfl) (by rw [cell_of_row _ _ 1 _ _ (0, 0) hcc]; rfl))
          have HBc := hide (HBr.out.trans (hbc.mono HBr.out.size))
          have HKc := hide (HKr.out.later hbc)
          clear hbc hsc hcc hin1 HXr
          go_wp2_with fail
          rw [← hwc]
          clear hwc y0 y1 y2 y3 y4 y5 k9
          refine CC.out.mono ?_
          rintro e wd ⟨v, rfl, od, hbd⟩
          have HBd := hide (HBc.out.trans (hbd.mono HBc.out.size))
          have HKd := hide (HKc.out.later hbd)
          obtain ⟨ad, cd, rfl, hsin⟩ := SIn.more od (by omega) HTX.out HNb.out
          have SO := hide (seqOf_any hsin (HTb.out.below HBd.out))
          have HLN : Hid ((l ++ [NA]).length = l.length + 1) := hide (by simp)
          rw [HLN.out] at SO
          clear od hbd hsin CC
          go_wp2_with fail
          refine SO.out.mono ?_
          rintro e we ⟨ve, rfl, oe, hbe⟩
          have HBe := hide (HBd.out.trans (hbe.mono HBd.out.size))
          have HKe := hide (HKd.out.later hbe)
          have HOe := hide oe
          have hRd : w.heap.size + 1 < wd.heap.size := HKd.out.lt
          have k9 := HKe.out.cell
          have f9 := HKe.out.fz
          obtain ⟨ae, ce, rfl, -⟩ := own_shp oe
          clear oe hbe SO
          go_wp2
          refine bodyPost_ret (results_cell_tmp rfl _ _ (w.heap.size + 1) 25 _ (0, 0) _ (.bool (goodQ (l ++ [NA]))) rfl rfl (HKe.out.put _) Tryd.underlying25 rfl sizeSeqI) rfl ?_
          rw [HRD.out.1, HRD.out.2]
          exact ⟨_, rfl, AmOwn.mono (own_aside HOe.out (by omega) _ _) (by omega), HBe.out.setCell (p := ⟨w.heap.size + 1, 0, none⟩) (Nat.le_succ _) _⟩
        · obtain ⟨m, hPm⟩ : ∃ m, P = m + 1 := ⟨P - 1, by omega⟩
          have hmo : m < o.length := by omega
          have qP : (0 : Int) < (P : Int) := by omega
          have ew3 : IntKind.i64.wrap ((P : Int) - 1) = (m : Int) := by rw [IntKind.wrap_i64]; omega
          have qm1 : (0 : Int) ≤ (m : Int) := by omega
          have qm2 : (m : Int) < (o.length : Int) := by omega
          have hjl := HM.out _ (List.getElem_mem hmo)
          obtain ⟨g2, cc, e2, hg2, d0⟩ := HV.out m hmo
          cases e2
          have d1 : w5.cell? ⟨g2, m, none⟩ = some (.int .i64 ((o[m] : Nat) : Int)) := (World.cell?_of_block (a := ⟨g2, m, none⟩) (hb35.out.block g2 hg2)).trans d0
          have HAB : Hid (NA = ⟨T + 1, ac, l[o[m]].time, l[o[m]].actor, b, false⟩) := hide (by rw [HNA.out, HTM.out, hPm, show ((m + 1 : Nat) : Int) = (m : Int) + 1 by omega, (abN_at hmo hjl).1, (abN_at hmo hjl).2])
          obtain ⟨g', e', hg', hc⟩ := H5.out.inn.ad (by intro c; rw [c] at hql; simp at hql)
          cases e'
          obtain ⟨Y, hY⟩ : ∃ Y, Y = l[o[m]] := ⟨_, rfl⟩
          have hcs := hc.amat _ hjl
          rw [← hY] at hcs HAB
          obtain ⟨j, hj⟩ : ∃ j, j = o[m] := ⟨_, rfl⟩
          rw [← hj] at hcs d1
          obtain ⟨z0, z1, z2, z3, z4, z5⟩ := hcs
          have qj1 : (0 : Int) ≤ (j : Int) := by omega
          have qj2 : (j : Int) < (l.length : Int) := by omega
          have k5 := HX5.out.cell
          obtain ⟨wz, hwz⟩ : ∃ wz, wz = w5.alloc (.cells #[.int .i64 0, .int .i64 0, .int .i64 0, .int .i64 0, .string ⟨#[]⟩, .bool false] 67) := ⟨_, rfl⟩
          have hbz : Below w5.heap.size w5 wz := by rw [hwz]; exact (Below.refl _ _).alloc (Nat.le_refl _) _
          have hg25 : g2 < w5.heap.size := Nat.lt_of_lt_of_le hg2 (by rw [HS5.out]; exact HS34.out)
          have d2 : wz.cell? ⟨g2, m, none⟩ = _ := (World.cell?_of_block (a := ⟨g2, m, none⟩) (hbz.block g2 hg25)).trans d1
          have k6 : wz.cell? ⟨w.heap.size, 0, none⟩ = _ := (HX5.out.later hbz).cell
          obtain ⟨x0, x1, x2, x3, x4, x5⟩ : wz.cell? ⟨g, j * 6, none⟩ = _ ∧ wz.cell? ⟨g, j * 6 + 1, none⟩ = _ ∧ wz.cell? ⟨g, j * 6 + 2, none⟩ = _ ∧ wz.cell? ⟨g, j * 6 + 3, none⟩ = _ ∧ wz.cell? ⟨g, j * 6 + 4, none⟩ = _ ∧ wz.cell? ⟨g, j * 6 + 5, none⟩ = _ :=
            ⟨(World.cell?_of_block (a := ⟨g, j * 6, none⟩) (hbz.block g hg')).trans z0, (World.cell?_of_block (a := ⟨g, j * 6 + 1, none⟩) (hbz.block g hg')).trans z1, (World.cell?_of_block (a := ⟨g, j * 6 + 2, none⟩) (hbz.block g hg')).trans z2, (World.cell?_of_block (a := ⟨g, j * 6 + 3, none⟩) (hbz.block g hg')).trans z3, (World.cell?_of_block (a := ⟨g, j * 6 + 4, none⟩) (hbz.block g hg')).trans z4, (World.cell?_of_block (a := ⟨g, j * 6 + 5, none⟩) (hbz.block g hg')).trans z5⟩
          rw [hwz] at d2 k6 x0 x1 x2 x3 x4 x5
          clear hwz hbz
          clear d0 hc hY hj hjl hP0 hPm hPi q0P
          go_upto_region 11 with fail
          go_region
          obtain ⟨w6, hw6⟩ : ∃ w6, w6 = (w5.alloc (.cells #[.int .i64 Y.time, .int .i64 Y.actor, .int .i64 Y.above, .int .i64 Y.maker, .string Y.byte, .bool Y.gone] 67)).drew := ⟨_, rfl⟩
          have hb6 : Below w5.heap.size w5 w6 := by rw [hw6]; exact ((Below.refl _ _).alloc (Nat.le_refl _) _).drew
          have BY6 : Hid (BxA w6 w5.heap.size Y) := hide (by rw [hw6]; exact BxA.new w5 Y)
          have HX6 := hide (HX5.out.later hb6)
          have HK6 := hide (HK5.out.later hb6)
          have HB6 := hide (HB5.out.trans (hb6.mono HB5.out.size))
          have BX6 := hide (BX5.out.later hb6)
          have hb36 := hide (hb35.out.trans (hb6.mono hb35.out.size))
          have hXY := BX5.out.lt
          have n1 : ¬ w5.heap.size = w3.heap.size := by omega
          have n2 : ¬ w3.heap.size = w5.heap.size := by omega
          obtain ⟨u0, u1, -, -, -, -⟩ := BY6.out.cells
          obtain ⟨-, -, v2, v3, -, -⟩ := BX6.out.cells
          have f2 := frozen_of_row BX6.out 2
          have f3 := frozen_of_row BX6.out 3
          rw [← hw6]
          clear hw6 hb6 d1 d2 k5 k6 x0 x1 x2 x3 x4 x5 z0 z1 z2 z3 z4 z5 BX5 HX5 HK5 HB5 H5
          go_wp2
          go_region
          obtain ⟨w7, hw7⟩ : ∃ w7, w7 = ((w6.setCell ⟨w3.heap.size, 2, none⟩ (.int .i64 Y.time)).setCell ⟨w3.heap.size, 3, none⟩ (.int .i64 Y.actor)).drew := ⟨_, rfl⟩
          have HXr : Hid (CellR w7 w.heap.size (.slice (some ⟨g, 0, none⟩) l.length cap)) := hide (by rw [hw7]; exact (HX6.out.other1 (by omega) _ _).other1 (by omega) _ _)
          have HKr : Hid (CellR w7 (w.heap.size + 1) (.slice none 0 0)) := hide (by rw [hw7]; exact (HK6.out.other1 (by omega) _ _).other1 (by omega) _ _)
          have Hr : Hid (SIn w7 (some ⟨g, 0, none⟩) cap l) := hide (by rw [hw7]; exact H3.out.later ((hb36.out.setCell (p := ⟨w3.heap.size, 2, none⟩) (Nat.le_refl _) _).setCell (p := ⟨w3.heap.size, 3, none⟩) (Nat.le_refl _) _).drew)
          have HBr : Hid (Below w.heap.size w w7) := hide (by rw [hw7]; exact ((HB6.out.setCell (p := ⟨w3.heap.size, 2, none⟩) (by show w.heap.size ≤ w3.heap.size; omega) _).setCell (p := ⟨w3.heap.size, 3, none⟩) (by show w.heap.size ≤ w3.heap.size; omega) _).drew)
          have BXr : Hid (BxA w7 w3.heap.size NA) := hide (by rw [HAB.out, hw7]; exact (BX6.out.put2 Y.time).put3 Y.actor)
          rw [← hw7]
          clear hw7 HV HNA HAB BX6 H3 HX6 HK6 HB6 HTM hb35 hb36 u0 u1 v2 v3 f2 f3 BY6 n1 n2
          obtain ⟨y0, y1, y2, y3, y4, y5⟩ := BXr.out.cells
          have k9 := HXr.out.cell
          obtain ⟨wc, hwc⟩ : ∃ wc, wc = (w7.alloc (.cells #[.int .i64 NA.time, .int .i64 NA.actor, .int .i64 NA.above, .int .i64 NA.maker, .string NA.byte, .bool NA.gone] 67)).alloc (.cells #[.slice (some ⟨g, 0, none⟩) l.length cap, .slice (some ⟨w7.heap.size, 0, none⟩) 1 1] 23) := ⟨_, rfl⟩
          have hbc : Below w7.heap.size w7 wc := by rw [hwc]; exact ((Below.refl _ _).alloc (Nat.le_refl _) _).alloc (by simp) _
          have hsc : wc.heap.size = w7.heap.size + 2 := by rw [hwc]; simp
          have hcc : wc.heap[w7.heap.size + 1]? = some (.cells #[.slice (some ⟨g, 0, none⟩) l.length cap, .slice (some ⟨w7.heap.size, 0, none⟩) 1 1] 23) := by rw [hwc]; have := heap_alloc_new (w7.alloc (.cells #[.int .i64 NA.time, .int .i64 NA.actor, .int .i64 NA.above, .int .i64 NA.maker, .string NA.byte, .bool NA.gone] 67)) (.cells #[.slice (some ⟨g, 0, none⟩) l.length cap, .slice (some ⟨w7.heap.size, 0, none⟩) 1 1] 23); rwa [show (w7.alloc (.cells #[.int .i64 NA.time, .int .i64 NA.actor, .int .i64 NA.above, .int .i64 NA.maker, .string NA.byte, .bool NA.gone] 67)).heap.size = w7.heap.size + 1 by simp] at this
          have hin1 : AmIn wc (some ⟨w7.heap.size, 0, none⟩) 1 [NA] := by rw [hwc]; exact (AmIn.one w7 NA).later ((Below.refl _ _).alloc (by simp) _)
          have CC := hide (concatA (gC := w7.heap.size + 1) (Hr.out.later hbc).inn hin1 (by omega) (by simp) (by simp) (by rw [hsc]; omega) (by rw [cell_of_row _ _ 0 _ _ (0, 0) hcc]; rfl) (by rw [cell_of_row _ _ 1 _ _ (0, 0) hcc]; rfl))
          have HBc := hide (HBr.out.trans (hbc.mono HBr.out.size))
          have HKc := hide (HKr.out.later hbc)
          clear hbc hsc hcc hin1 HXr
          go_wp2_with fail
          rw [← hwc]
          clear hwc y0 y1 y2 y3 y4 y5 k9
          refine CC.out.mono ?_
          rintro e wd ⟨v, rfl, od, hbd⟩
          have HBd := hide (HBc.out.trans (hbd.mono HBc.out.size))
          have HKd := hide (HKc.out.later hbd)
          obtain ⟨ad, cd, rfl, hsin⟩ := SIn.more od (by omega) HTX.out HNb.out
          have SO := hide (seqOf_any hsin (HTb.out.below HBd.out))
          have HLN : Hid ((l ++ [NA]).length = l.length + 1) := hide (by simp)
          rw [HLN.out] at SO
          clear od hbd hsin CC
          go_wp2_with fail
          refine SO.out.mono ?_
          rintro e we ⟨ve, rfl, oe, hbe⟩
          have HBe := hide (HBd.out.trans (hbe.mono HBd.out.size))
          have HKe := hide (HKd.out.later hbe)
          have HOe := hide oe
          have hRd : w.heap.size + 1 < wd.heap.size := HKd.out.lt
          have k9 := HKe.out.cell
          have f9 := HKe.out.fz
          obtain ⟨ae, ce, rfl, -⟩ := own_shp oe
          clear oe hbe SO
          go_wp2
          refine bodyPost_ret (results_cell_tmp rfl _ _ (w.heap.size + 1) 25 _ (0, 0) _ (.bool (goodQ (l ++ [NA]))) rfl rfl (HKe.out.put _) Tryd.underlying25 rfl sizeSeqI) rfl ?_
          rw [HRD.out.1, HRD.out.2]
          exact ⟨_, rfl, AmOwn.mono (own_aside HOe.out (by omega) _ _) (by omega), HBe.out.setCell (p := ⟨w.heap.size + 1, 0, none⟩) (Nat.le_succ _) _⟩
    · have HRD := hide (HNO.out hin)
      have hin' : p < 0 ∨ (0 ≤ p ∧ (o.length : Int) < p) := by omega
      clear HNO HYE hin
      rcases hin' with hin | ⟨hin, hin2⟩
      · go_wp2
        refine bodyPost_ret (results_cell_tmp rfl _ _ (w.heap.size + 1) 25 _ (0, 0) _ (.bool false) rfl rfl (HK3.out.put _) Tryd.underlying25 rfl sizeSeqI) rfl ?_
        rw [HRD.out.1, HRD.out.2]
        exact ⟨_, rfl, World.ownsRow_nil _ _ _ _, HB3.out.setCell (p := ⟨w.heap.size + 1, 0, none⟩) (Nat.le_succ _) _⟩
      · go_wp2
        refine bodyPost_ret (results_cell_tmp rfl _ _ (w.heap.size + 1) 25 _ (0, 0) _ (.bool false) rfl rfl (HK3.out.put _) Tryd.underlying25 rfl sizeSeqI) rfl ?_
        rw [HRD.out.1, HRD.out.2]
        exact ⟨_, rfl, World.ownsRow_nil _ _ _ _, HB3.out.setCell (p := ⟨w.heap.size + 1, 0, none⟩) (Nat.le_succ _) _⟩
end Go.Proofs.YtnhooalibadeeaaDoor

set_option linter.unusedVariables false
namespace Go.Proofs.YtnhooalibadeeaaDoor
open Go.RowKit
open Doc1

theorem new_at {w : World} {k : Nat} {x : Obj} (h : k = w.heap.size) : (w.alloc x).heap[k]? = some x := by subst h; exact heap_alloc_new w x
theorem keep_al {w : World} {k : Nat} {x y : Obj} (h : w.heap[k]? = some x) : (w.alloc y).heap[k]? = some x := by rw [Below.heap_alloc _ _ _ (Array.getElem?_eq_some_iff.1 h).1]; exact h
theorem grown_keep {w w' : World} {r : Option Nat} (h : w.grownBy w' r) : ∀ k x, w.heap[k]? = some x → r ≠ some k → w'.heap[k]? = some x := fun k x hx hr => (h.block k (Array.getElem?_eq_some_iff.1 hx).1 (fun c => hr c.symm)).trans hx
theorem own_at {W : World} {B e : Nat} (h : W.heap[e]? = some (.cells #[] 67)) (hB : B ≤ e) : AmOwn W B (.slice (some ⟨e, 0, none⟩) 0 0) [] :=
  ⟨rfl, .inr ⟨e, 0, #[], rfl, hB, h, Nat.le_refl _, Nat.zero_le _, rfl, rfl⟩⟩
theorem am_at {W : World} {m : Nat} {x : Am} (h : W.heap[m]? = some (.cells #[.int .i64 x.time, .int .i64 x.actor, .int .i64 x.above, .int .i64 x.maker, .string x.byte, .bool x.gone] 67)) : AmIn W (some ⟨m, 0, none⟩) 1 [x] :=
  (show AmOwn W 0 (.slice (some ⟨m, 0, none⟩) 1 1) [x] from ⟨rfl, .inr ⟨m, 1, _, rfl, Nat.zero_le _, h, Nat.le_refl _, by unfold maxLen; omega, rfl, rfl⟩⟩).inn.elim fun a ⟨c, e, h⟩ => by cases e; exact h
theorem own_other {w : World} {B b n sz : Nat} {e T : TypeId} {v : Value} {xs : List Value} {cs : Array Value} {fr : Nat × Nat} (h : w.ownsRow B e sz v n xs) (hb : w.heap[b]? = some (.cells cs T fr)) (hT : T ≠ e) : v.ownBlock ≠ some b := by
  rcases h.2 with ⟨rfl, _⟩ | ⟨g, cap, cur, rfl, _, hg, _⟩
  · simp [Value.ownBlock]
  · intro c
    have : g = b := Option.some.inj c
    subst this
    rw [hg] at hb
    injection hb with hb
    injection hb with _ h2 _
    exact hT h2.symm
theorem keep_seq {w w' : World} {B : Nat} {v : Value} {l : List Am} (hown : AmOwn w B v l) (hg : w.grownBy w' v.ownBlock) : ∀ (k : Nat) (cs : Array Value) (fr : Nat × Nat), w.heap[k]? = some (Obj.cells cs 25 fr) → w'.heap[k]? = some (Obj.cells cs 25 fr) :=
  fun k cs fr hk => grown_keep hg k _ hk (own_other hown hk (by decide))
theorem grown_from {B : Nat} {w w1 w2 : World} {v : Value} {l : List Am} (hb : Below B w w1) (hB : B ≤ w1.heap.size) (hown : AmOwn w1 B v l) (hg : w1.grownBy w2 v.ownBlock) : Below B w w2 :=
  hb.grown hg hB (fun k e => (World.ownsRow.lt hown k e).1)

theorem wp_ams {ops : Array Oper} {o : Oper} {a : Act} {K : Act → World → Prop} {Q : Exit → Act → World → Prop} (w : World) (hgd : o.guard = none) (s x : Operand)
    (ho : o.op = .call { callee := .builtin .append, args := #[s, x], argTypes := #[23, 23] }) (B : Nat) (v0 : Value) (l0 : List Am) (own0 : AmOwn w B v0 l0) (ad : Option Addr) (cap : Nat) (l : List Am) (hl : l0.length + l.length ≤ 1000000)
    (hs : a.eval s = v0) (hx : a.eval x = .slice ad l.length cap) (hin : AmIn w ad cap l) (hB : B ≤ w.heap.size)
    (h : ∀ v' w', AmOwn w' B v' (l0 ++ l) → w.grownBy w' v0.ownBlock → K (a.put o.dst v') w') :
    if Region.wanted o (yielded ops a.tmps) = true then Oper.wp Tryd.prog o a w K Q else True := by
  have hw : Region.wanted o (yielded ops a.tmps) = true := by simp [Region.wanted, hgd]
  rw [if_pos hw]
  obtain ⟨i0, hi0, hz0, hz1, hz2⟩ := info_parts infoAm
  by_cases h0 : l = []
  · subst h0
    obtain ⟨a0, c0, rfl, hle, -⟩ := own_shp own0
    have hr := run_no_more w o.type i0 hi0 a0 l0.length c0 hle ad cap
    unfold Oper.wp
    simp [execOp, ho, resolve, invoke, builtin, hs, hx, hr, Result.andThen]
    exact h _ _ (by rw [List.append_nil]; exact own0) (grown_self _ _)
  · obtain ⟨g, rfl, hg, hc⟩ := hin.ad h0
    have hp := List.length_pos_iff.2 h0
    have hnews : ∀ j u, (encAm l)[j]? = some u → w.cell? ((⟨g, 0, none⟩ : Addr).add j) = some u := fun j u hu => by
      rw [addr0]
      exact hc j u hu
    have hone : ∀ u ∈ encAm l, u.oneCell' = true := fun u hu => by
      unfold encAm at hu
      obtain ⟨b, -, hb2⟩ := List.mem_flatMap.1 hu
      simp [amC] at hb2
      rcases hb2 with rfl | rfl | rfl | rfl | rfl | rfl <;> rfl
    exact wp_append_lies w s x 23 ho B 67 i0 (.agg #[.int .i64 0, .int .i64 0, .int .i64 0, .int .i64 0, .string ⟨#[]⟩, .bool false]) 6 56 Tryd.underlying23 hi0 hz0 hz1 hz2 rfl (by decide) _ _ _ hs own0 ⟨g, 0, none⟩ l.length cap (encAm l) hx (encAm_len l) hnews hone hp (by unfold maxLen; omega) (by omega) hB w.heap.size rfl
      (fun g2 cap2 w' h1 h2 _ _ => h _ w' (by unfold AmOwn; rw [encAm_app, List.length_append]; exact h1) h2)
theorem step_ams {ops : Array Oper} {o : Oper} {a : Act} {K : Act → World → Prop} {Q : Exit → Act → World → Prop} {E : Prop} {w : World} (hgd : o.guard = none) (s x : Operand)
    (ho : o.op = .call { callee := .builtin .append, args := #[s, x], argTypes := #[23, 23] }) (B : Nat) (v0 : Value) (l0 : List Am) (ad : Option Addr) (cap : Nat) (l : List Am) (hl : l0.length + l.length ≤ 1000000)
    (hs : a.eval s = v0) (hx : a.eval x = .slice ad l.length cap) (own0 : AmOwn w B v0 l0) (hin : AmIn w ad cap l) (hB : B ≤ w.heap.size)
    (h : ∀ v' w', AmOwn w' B v' (l0 ++ l) → w.grownBy w' v0.ownBlock → K (a.put o.dst v') w') :
    if Region.wanted o (yielded ops a.tmps) = true then Oper.wp Tryd.prog o a w K Q else E := by
  have := wp_ams (ops := ops) (Q := Q) w hgd s x ho B v0 l0 own0 ad cap l hl hs hx hin hB h
  have hw : Region.wanted o (yielded ops a.tmps) = true := by simp [Region.wanted, hgd]
  rw [if_pos hw] at this ⊢
  exact this
theorem put_fin {wc w : World} {B o : Nat} {v : Value} {l : List Am} (hO : w.heap[o]? = some (Obj.cells #[.slice none 0 0] 25)) (hV : AmOwn w B v l) (hB : Below B wc w) (hle : B ≤ o) :
    CellR (w.setCell ⟨o, 0, none⟩ v) o v ∧ AmOwn (w.setCell ⟨o, 0, none⟩ v) B v l ∧ Below B wc (w.setCell ⟨o, 0, none⟩ v) :=
  ⟨CellR.put (show CellR w o _ from hO) v, hV.kept (row := some o) (grown_set (grown_self _ _) 0 _) (Or.inr (own_other hV hO (by decide))), hB.setCell (p := ⟨o, 0, none⟩) hle _⟩
theorem pt_no3 {l : List Am} {ac p : Int} {b : ByteArray} (h : ¬ (0 ≤ ac ∧ ac ≤ 9)) : ptB l ac p b = false ∧ ptL l ac p b = [] := by
  have e : ptB l ac p b = false := by
    unfold ptB
    cases hg : goodQ (l ++ [newAm l ac p b]) with
    | true => exact absurd (put_actor hg) h
    | false => rw [Bool.and_false]
  exact ⟨e, by unfold ptL; rw [if_neg (by rw [e]; simp)]⟩
end Go.Proofs.YtnhooalibadeeaaDoor

set_option linter.unusedVariables false
namespace Go.Proofs.YtnhooalibadeeaaDoor
open Go.RowKit
open Doc1

/-- Ahead of the row that is put together. -/
structure PU (w w3 : World) (a : Option Addr) (cap : Nat) (l : List Am) (x : Am) (wx : World) : Prop where
  row : CellR wx w.heap.size (.slice a l.length cap)
  ans : CellR wx (w.heap.size + 1) (.slice none 0 0)
  inn : SIn wx a cap l
  bel : Below w.heap.size w wx
  box : BxA wx w3.heap.size x
  old : Below w3.heap.size w3 wx

set_option maxRecDepth 100000 in
set_option maxHeartbeats 8000000 in
theorem putAtomS {w : World} {a : Option Addr} {cap : Nat} {l : List Am} (h : SIn w a cap l) (ac p : Int) (b : ByteArray) (hbs : b.size ≤ 1048576) :
    Calls Tryd.prog 18 #[.agg #[.slice a l.length cap], .int .i64 ac, .int .i64 p, .string b] w fun e w' => ∃ v, e = .returned (.tuple #[.agg #[v], .bool (ptB l ac p b)]) ∧ AmOwn w' w.heap.size v (ptL l ac p b) ∧ Below w.heap.size w w' := by
  obtain ⟨hs0, hb0, hk0, hk1⟩ := boxesS2 w (.slice a l.length cap) (.slice none 0 0)
  obtain ⟨w0, hw0⟩ : ∃ w0, w0 = (w.alloc (.cells #[.slice a l.length cap] 25)).alloc (.cells #[.slice none 0 0] 25) := ⟨_, rfl⟩
  rw [← hw0] at hs0 hb0 hk0 hk1
  have HB0 := hide hb0
  have HK0 := hide hk0
  have HK1 := hide hk1
  have HS0 := hide hs0
  have S := hide (goodSeqS (h.later hb0))
  have J := hide (fun w' => l1In_any ac 0 9 w')
  have k0 := hk0.cell
  have H := hide h
  clear h hb0 hk0 hk1 hs0
  cases hq : goodQ l with
  | false =>
    have HRD := hide (pt_no (ac := ac) (p := p) (b := b) (.inl hq))
    rw [HRD.out.1, HRD.out.2]
    rw [hq] at S
    clear hq
    go_enter Tryd.func18, Tryd.ntmps18
    rw [hw0] at k0
    go_wp2_with fail
    rw [← hw0] at k0 ⊢
    clear hw0 k0
    refine S.out.mono ?_
    rintro e w1 ⟨rfl, hb1⟩
    have HK2 := hide (HK1.out.later hb1)
    have HB1 := hide (HB0.out.trans (hb1.mono HB0.out.size))
    have k1 := HK2.out.cell
    have f1 := HK2.out.fz
    clear hb1
    go_wp2_with fail
    refine bodyPost_ret (results_cell_tmp rfl _ _ (w.heap.size + 1) 25 _ (0, 0) _ (.bool false) rfl rfl (HK2.out.put _) Tryd.underlying25 rfl sizeSeqI) rfl ?_
    exact ⟨_, rfl, World.ownsRow_nil _ _ _ _, HB1.out.setCell (p := ⟨w.heap.size + 1, 0, none⟩) (Nat.le_succ _) _⟩
  | true =>
    have hln := good_len hq
    have O := hide (fun (w' : World) (hb : Below w.heap.size w w') => l17Shown_any (H.out.later hb).inn hq)
    have HM : Hid (∀ j ∈ shL l, j < l.length) := hide (fun j hj => ordL_mem hq j (List.mem_filter.1 hj).1)
    have hol : (shL l).length ≤ l.length := by have h1 := shw_le l (ordL l); have h2 := ordL_len hq; unfold shL; omega
    have HNO : Hid (¬ (0 ≤ p ∧ p ≤ ((shL l).length : Int)) → ptB l ac p b = false ∧ ptL l ac p b = []) := hide (fun c => pt_no (.inr c))
    have HN3 : Hid (¬ (0 ≤ ac ∧ ac ≤ 9) → ptB l ac p b = false ∧ ptL l ac p b = []) := hide (fun c => pt_no3 c)
    have HYE : Hid (0 ≤ p ∧ p ≤ ((shL l).length : Int) → ptB l ac p b = goodQ (l ++ [newAm l ac p b]) ∧ ptL l ac p b = sqR (l ++ [newAm l ac p b])) := hide (fun c => pt_yes hq c)
    have HNA : Hid (newAm l ac p b = ⟨tmN l, ac, abN l (shL l) p, mkN l (shL l) p, b, false⟩) := hide rfl
    have HGT := hide (fun i hi => good_time hq (i := i) hi)
    have HTX : Hid (∀ i (hi : i < l.length), l[i].byte.size ≤ 1048576) := hide H.out.txt
    have HNb : Hid ((newAm l ac p b).byte.size ≤ 1048576) := hide hbs
    have J2 := hide (fun w' => l1In_any p 0 ((shL l).length : Int) w')
    rw [hq] at S
    obtain ⟨NA, hNA⟩ : ∃ NA, newAm l ac p b = NA := ⟨_, rfl⟩
    obtain ⟨R, hR⟩ : ∃ R, ptL l ac p b = R := ⟨_, rfl⟩
    obtain ⟨D, hDD⟩ : ∃ D, ptB l ac p b = D := ⟨_, rfl⟩
    simp only [hNA, hR, hDD] at HNO HN3 HYE HNA HNb ⊢
    clear hq hR hDD hNA hbs
    generalize shL l = o at O HM hol HNO HYE HNA J2
    go_enter Tryd.func18, Tryd.ntmps18
    rw [hw0] at k0
    go_wp2_with fail
    rw [← hw0] at k0 ⊢
    clear hw0 k0
    refine S.out.mono ?_
    rintro e w2 ⟨rfl, hb2⟩
    have HX2 := hide (HK0.out.later hb2)
    have HK2 := hide (HK1.out.later hb2)
    have HB2 := hide (HB0.out.trans (hb2.mono HB0.out.size))
    have O2 := hide (O.out w2 HB2.out)
    have k2 := HX2.out.cell
    have q2 := HK2.out.cell
    have f2 := HK2.out.fz
    clear hb2 O
    by_cases hac : 0 ≤ ac ∧ ac ≤ 9
    · have J1 : Hid (∀ w', Calls Tryd.prog 48 #[.int .i64 ac, .int .i64 0, .int .i64 9] w' fun e w'' => e = .returned (.bool true) ∧ w'' = w') := hide (fun w' => by have := l1In_any ac 0 9 w'; rwa [decide_eq_true hac] at this)
      clear J hac HN3
      go_wp2_with (go_at_call 48; refine (J1.out _).mono ?_; rintro e w' ⟨rfl, hw⟩; replace hw := hw.symm; subst hw)
      refine O2.out.mono ?_
      rintro e w3 ⟨v2, rfl, o3, hb3⟩
      have HV : Hid (∀ m (hm : m < o.length), ∃ g2 c2, v2 = .slice (some ⟨g2, 0, none⟩) o.length c2 ∧ g2 < w3.heap.size ∧ w3.cell? ⟨g2, m, none⟩ = some (.int .i64 ((o[m] : Nat) : Int))) := hide (fun m hm => by
        obtain ⟨g2, c2, e, -, -, h2, h3, h4, -⟩ := own_cat o3 (by rw [oI_len]; omega)
        rw [oI_len] at e
        refine ⟨g2, c2, e, h3, h4 m _ ?_⟩
        rw [ints_at (oI o) (by rw [oI_len]; exact hm), oI_at])
      obtain ⟨a2, c2, he2, -, hm2⟩ := own_shp o3
      rw [oI_len] at he2
      subst he2
      have HX3 := hide (HX2.out.later hb3)
      have HK3 := hide (HK2.out.later hb3)
      have HB3 := hide (HB2.out.trans (hb3.mono HB2.out.size))
      have H3 := hide (H.out.later HB3.out)
      have k3 := HX3.out.cell
      have q3 := HK3.out.cell
      have f3 := HK3.out.fz
      clear o3 hb3 O2 HX2 HK2 k2 q2 f2 S HK0 HK1 J1
      by_cases hin : 0 ≤ p ∧ p ≤ (o.length : Int)
      · have J3 : Hid (∀ w', Calls Tryd.prog 48 #[.int .i64 p, .int .i64 0, .int .i64 (o.length : Int)] w' fun e w'' => e = .returned (.bool true) ∧ w'' = w') := hide (fun w' => by have := J2.out w'; rwa [decide_eq_true hin] at this)
        have HRD := hide (HYE.out hin)
        obtain ⟨P, rfl⟩ : ∃ P : Nat, p = (P : Int) := ⟨p.toNat, by omega⟩
        have hPo : P ≤ o.length := by omega
        have q0P : (0 : Int) ≤ (P : Int) := by omega
        obtain ⟨w4, hw4⟩ : ∃ w4, w4 = w3.alloc (.cells #[.int .i64 1, .int .i64 ac, .int .i64 0, .int .i64 0, .string b, .bool false] 67) := ⟨_, rfl⟩
        have hb4 : Below w3.heap.size w3 w4 := by rw [hw4]; exact (Below.refl _ _).alloc (Nat.le_refl _) _
        have HX4 := hide (HX3.out.later hb4)
        have HK4 := hide (HK3.out.later hb4)
        have HB4 := hide (HB3.out.trans (hb4.mono HB3.out.size))
        have H4 := hide (H3.out.later hb4)
        have BX4 : Hid (BxA w4 w3.heap.size ⟨1, ac, 0, 0, b, false⟩) := hide (by rw [hw4]; exact BxA.new _ ⟨1, ac, 0, 0, b, false⟩)
        have HS34 := hide hb4.size
        have k4 := HX4.out.cell
        have hwr : w.heap.size + 1 < w3.heap.size := HK3.out.lt
        have hb34 := hide hb4
        clear hb4 HNO HYE HX3 HK3 q3 f3 hin J2
        rw [hw4] at k4
        go_upto_region 7 with (go_at_call 48; refine (J3.out _).mono ?_; rintro e w' ⟨rfl, hw⟩; replace hw := hw.symm; subst hw)
        rw [← hw4] at k4 ⊢
        clear hw4 k3 J3
        go_upto_if 39 with fail
        go_cut [] from 38 to 48 (fun wx => Hid (PU w w3 a cap l ⟨tmN l, ac, 0, 0, b, false⟩ wx))
        case first =>
          by_cases hl0 : l.length = 0
          · have HPU : Hid (PU w w3 a cap l ⟨tmN l, ac, 0, 0, b, false⟩ w4) := hide ⟨HX4.out, HK4.out, H4.out, HB4.out, by obtain rfl : l = [] := List.length_eq_zero_iff.1 hl0; exact BX4.out, hb34.out⟩
            have qn : ¬ (0 : Int) < (l.length : Int) := by omega
            clear HV HNA BX4 hl0 H3 HX4 HK4 H4 HB4
            go_wp2
            go_meet
            case rel => exact HPU
          · obtain ⟨q, hq⟩ : ∃ q, l.length = q + 1 := ⟨l.length - 1, by omega⟩
            have hql : q < l.length := by omega
            have ew : IntKind.i64.wrap ((l.length : Int) - 1) = (q : Int) := by rw [IntKind.wrap_i64]; omega
            have qn : (0 : Int) < (l.length : Int) := by omega
            have qq1 : (0 : Int) ≤ (q : Int) := by omega
            have qq2 : (q : Int) < (l.length : Int) := by omega
            obtain ⟨g, rfl, hg, hc⟩ := H4.out.inn.ad (by intro c; rw [c] at hq; simp at hq)
            have c0 := (hc.amat q hql).1
            have HTM : Hid (tmN l = l[q].time + 1) := hide (tmN_at hq)
            have hgt := HGT.out q hql
            obtain ⟨T, hTT⟩ : ∃ T, l[q].time = T := ⟨_, rfl⟩
            rw [hTT] at c0 HTM hgt
            have ew2 : IntKind.i64.wrap (T + 1) = T + 1 := by rw [IntKind.wrap_i64]; omega
            have e0 := BX4.out.cells.1
            have ef := frozen_of_row BX4.out 0
            have HPU : Hid (PU w w3 (some ⟨g, 0, none⟩) cap l ⟨tmN l, ac, 0, 0, b, false⟩ (w4.setCell ⟨w3.heap.size, 0, none⟩ (.int .i64 (T + 1)))) := hide ⟨HX4.out.other1 (by omega) _ _, HK4.out.other1 (by omega) _ _, H3.out.set hb34.out (Nat.le_refl _) _ _, HB4.out.setCell (p := ⟨w3.heap.size, 0, none⟩) (by show w.heap.size ≤ w3.heap.size; omega) _, by rw [HTM.out]; exact BX4.out.put0 (T + 1), hb34.out.setCell (p := ⟨w3.heap.size, 0, none⟩) (Nat.le_refl _) _⟩
            clear hTT hc hl0 hq hgt HX4 HK4 H4 HB4 BX4 hb34 HGT H3 HTM HV
            go_wp2
            go_meet
            case rel => exact HPU
        case rest =>
        have HU := hide hcut.out
        have HNE0 := hide (fun (c : P = 0) => (by rw [HNA.out, c]; rfl : NA = ⟨tmN l, ac, 0, 0, b, false⟩))
        clear HX4 HK4 H4 HB4 BX4 hb34 HGT hcut HS34 k4
        go_upto_if 50 with fail
        go_cut [13] from 49 to 65 (fun v13 wx => Hid (PU w w3 a cap l NA wx))
        case first =>
          by_cases hP0 : P = 0
          · have HPU : Hid (PU w w3 a cap l NA wc) := hide (by rw [HNE0.out hP0]; exact HU.out)
            subst hP0
            clear HV HNA HNE0 HU H3
            go_wp2
            go_meet
            case rel => exact HPU
          · obtain ⟨m, hPm⟩ : ∃ m, P = m + 1 := ⟨P - 1, by omega⟩
            have hmo : m < o.length := by omega
            have qP : (0 : Int) < (P : Int) := by omega
            have ew3 : IntKind.i64.wrap ((P : Int) - 1) = (m : Int) := by rw [IntKind.wrap_i64]; omega
            have qm1 : (0 : Int) ≤ (m : Int) := by omega
            have qm2 : (m : Int) < (o.length : Int) := by omega
            have hjl := HM.out _ (List.getElem_mem hmo)
            obtain ⟨g2, cc, e2, hg2, d0⟩ := HV.out m hmo
            cases e2
            have d1 : wc.cell? ⟨g2, m, none⟩ = some (.int .i64 ((o[m] : Nat) : Int)) := (World.cell?_of_block (a := ⟨g2, m, none⟩) (HU.out.old.block g2 hg2)).trans d0
            have HAB : Hid (NA = ⟨tmN l, ac, l[o[m]].time, l[o[m]].actor, b, false⟩) := hide (by rw [HNA.out, hPm, show ((m + 1 : Nat) : Int) = (m : Int) + 1 by omega, (abN_at hmo hjl).1, (abN_at hmo hjl).2])
            obtain ⟨g, rfl, hg', hc⟩ := HU.out.inn.inn.ad (by intro c; rw [c] at hjl; simp at hjl)
            obtain ⟨Y, hY⟩ : ∃ Y, Y = l[o[m]] := ⟨_, rfl⟩
            have hcs := hc.amat _ hjl
            rw [← hY] at hcs HAB
            obtain ⟨j, hj⟩ : ∃ j, j = o[m] := ⟨_, rfl⟩
            rw [← hj] at hcs d1
            obtain ⟨z0, z1, z2, z3, z4, z5⟩ := hcs
            have qj1 : (0 : Int) ≤ (j : Int) := by omega
            have qj2 : (j : Int) < (l.length : Int) := by omega
            have k5 := HU.out.row.cell
            obtain ⟨wz, hwz⟩ : ∃ wz, wz = wc.alloc (.cells #[.int .i64 0, .int .i64 0, .int .i64 0, .int .i64 0, .string ⟨#[]⟩, .bool false] 67) := ⟨_, rfl⟩
            have hbz : Below wc.heap.size wc wz := by rw [hwz]; exact (Below.refl _ _).alloc (Nat.le_refl _) _
            have hg25 : g2 < wc.heap.size := Nat.lt_of_lt_of_le hg2 HU.out.old.size
            have d2 : wz.cell? ⟨g2, m, none⟩ = _ := (World.cell?_of_block (a := ⟨g2, m, none⟩) (hbz.block g2 hg25)).trans d1
            have k6 : wz.cell? ⟨w.heap.size, 0, none⟩ = _ := (HU.out.row.later hbz).cell
            obtain ⟨x0, x1, x2, x3, x4, x5⟩ : wz.cell? ⟨g, j * 6, none⟩ = _ ∧ wz.cell? ⟨g, j * 6 + 1, none⟩ = _ ∧ wz.cell? ⟨g, j * 6 + 2, none⟩ = _ ∧ wz.cell? ⟨g, j * 6 + 3, none⟩ = _ ∧ wz.cell? ⟨g, j * 6 + 4, none⟩ = _ ∧ wz.cell? ⟨g, j * 6 + 5, none⟩ = _ :=
              ⟨(World.cell?_of_block (a := ⟨g, j * 6, none⟩) (hbz.block g hg')).trans z0, (World.cell?_of_block (a := ⟨g, j * 6 + 1, none⟩) (hbz.block g hg')).trans z1, (World.cell?_of_block (a := ⟨g, j * 6 + 2, none⟩) (hbz.block g hg')).trans z2, (World.cell?_of_block (a := ⟨g, j * 6 + 3, none⟩) (hbz.block g hg')).trans z3, (World.cell?_of_block (a := ⟨g, j * 6 + 4, none⟩) (hbz.block g hg')).trans z4, (World.cell?_of_block (a := ⟨g, j * 6 + 5, none⟩) (hbz.block g hg')).trans z5⟩
            rw [hwz] at d2 k6 x0 x1 x2 x3 x4 x5
            clear hwz hbz
            clear d0 hc hY hj hjl hP0 hPm q0P H3
            go_upto_region 11 with fail
            go_region
            obtain ⟨w6, hw6⟩ : ∃ w6, w6 = (wc.alloc (.cells #[.int .i64 Y.time, .int .i64 Y.actor, .int .i64 Y.above, .int .i64 Y.maker, .string Y.byte, .bool Y.gone] 67)).drew := ⟨_, rfl⟩
            have hb6 : Below wc.heap.size wc w6 := by rw [hw6]; exact ((Below.refl _ _).alloc (Nat.le_refl _) _).drew
            have BY6 : Hid (BxA w6 wc.heap.size Y) := hide (by rw [hw6]; exact BxA.new wc Y)
            have HX6 := hide (HU.out.row.later hb6)
            have HK6 := hide (HU.out.ans.later hb6)
            have HB6 := hide (HU.out.bel.trans (hb6.mono HU.out.bel.size))
            have BX6 := hide (HU.out.box.later hb6)
            have hb36 := hide (HU.out.old.trans (hb6.mono HU.out.old.size))
            have hXY := HU.out.box.lt
            have n1 : ¬ wc.heap.size = w3.heap.size := by omega
            have n2 : ¬ w3.heap.size = wc.heap.size := by omega
            obtain ⟨u0, u1, -, -, -, -⟩ := BY6.out.cells
            obtain ⟨-, -, v2, v3, -, -⟩ := BX6.out.cells
            have f2 := frozen_of_row BX6.out 2
            have f3 := frozen_of_row BX6.out 3
            rw [← hw6]
            have HPU : Hid (PU w w3 (some ⟨g, 0, none⟩) cap l NA ((w6.setCell ⟨w3.heap.size, 2, none⟩ (.int .i64 Y.time)).setCell ⟨w3.heap.size, 3, none⟩ (.int .i64 Y.actor))) := hide ⟨(HX6.out.other1 (by omega) _ _).other1 (by omega) _ _, (HK6.out.other1 (by omega) _ _).other1 (by omega) _ _, (H.out.later HB3.out).later ((hb36.out.setCell (p := ⟨w3.heap.size, 2, none⟩) (Nat.le_refl _) _).setCell (p := ⟨w3.heap.size, 3, none⟩) (Nat.le_refl _) _), (HB6.out.setCell (p := ⟨w3.heap.size, 2, none⟩) (by show w.heap.size ≤ w3.heap.size; omega) _).setCell (p := ⟨w3.heap.size, 3, none⟩) (by show w.heap.size ≤ w3.heap.size; omega) _, by rw [HAB.out]; exact (BX6.out.put2 Y.time).put3 Y.actor, (hb36.out.setCell (p := ⟨w3.heap.size, 2, none⟩) (Nat.le_refl _) _).setCell (p := ⟨w3.heap.size, 3, none⟩) (Nat.le_refl _) _⟩
            clear hw6 hb6 d1 d2 k5 k6 x0 x1 x2 x3 x4 x5 z0 z1 z2 z3 z4 z5 HV HNA HNE0 HAB HX6 HK6 HB6 hb36 BX6 BY6 HU
            go_wp2
            go_meet
            case rel => exact HPU
        case rest =>
        have HUr := hide hcut.out
        clear HU HNA HNE0 hcut HV H3 q0P hPo
        have KS : Hid (∀ w', Below wc.heap.size wc w' → w'.cell? ⟨w.heap.size, 0, none⟩ = some (.slice a l.length cap) ∧ w'.cell? ⟨w3.heap.size, 0, none⟩ = some (.int .i64 NA.time) ∧ w'.cell? ⟨w3.heap.size, 1, none⟩ = some (.int .i64 NA.actor) ∧ w'.cell? ⟨w3.heap.size, 2, none⟩ = some (.int .i64 NA.above) ∧ w'.cell? ⟨w3.heap.size, 3, none⟩ = some (.int .i64 NA.maker) ∧ w'.cell? ⟨w3.heap.size, 4, none⟩ = some (.string NA.byte) ∧ w'.cell? ⟨w3.heap.size, 5, none⟩ = some (.bool NA.gone)) := hide (fun w' hb => ⟨(HUr.out.row.later hb).cell, (HUr.out.box.later hb).cells⟩)
        have HIN := hide (fun w' (hb : Below wc.heap.size wc w') => (HUr.out.inn.later hb).inn)
        go_upto_region 14 with fail
        go_cut [14] from 66 to 73 (fun v14 wx => ∃ x v, v14 = .pointer (some ⟨x, 0, none⟩) ∧ Hid (wc.heap.size ≤ x ∧ CellR wx x v ∧ AmOwn wx wc.heap.size v (l ++ [NA]) ∧ Below wc.heap.size wc wx))
        case first =>
          refine wp_region_noPanic ?_
          refine wp_region_held_drew (S := fun w' => w'.cell? ⟨w.heap.size, 0, none⟩ = some (.slice a l.length cap) ∧ w'.cell? ⟨w3.heap.size, 0, none⟩ = some (.int .i64 NA.time) ∧ w'.cell? ⟨w3.heap.size, 1, none⟩ = some (.int .i64 NA.actor) ∧ w'.cell? ⟨w3.heap.size, 2, none⟩ = some (.int .i64 NA.above) ∧ w'.cell? ⟨w3.heap.size, 3, none⟩ = some (.int .i64 NA.maker) ∧ w'.cell? ⟨w3.heap.size, 4, none⟩ = some (.string NA.byte) ∧ w'.cell? ⟨w3.heap.size, 5, none⟩ = some (.bool NA.gone)) (by kernel_rfl) (KS.out _ (Below.refl _ _).drew) (fun hS => ?_)
          obtain ⟨wa, hwa⟩ : ∃ w', wc.drew = w' := ⟨_, rfl⟩
          have hBwa : Hid (Below wc.heap.size wc wa) := hide (by rw [← hwa]; exact (Below.refl _ _).drew)
          rw [hwa]
          clear hwa hS
          refine wpAnyH_take (i := 1) (v := .pointer (some ⟨w.heap.size, 0, none⟩)) (List.getElem?_toArray.trans rfl) (by kernel_rfl) (by kernel_rfl) (by kernel_rfl) (fun _ _ _ h => h) (Or.inl ⟨by rfl, fun w' hw => by go_simp⟩) (KS.out _ hBwa.out) ?_
          try simp only [Act.put, List.setIfInBounds_toArray, List.set_cons_zero, List.set_cons_succ]
          refine wpAnyH_take (i := 2) (v := .slice a l.length cap) (List.getElem?_toArray.trans rfl) (by kernel_rfl) (by kernel_rfl) (by kernel_rfl) (fun _ _ _ h => h) (Or.inl ⟨by rfl, fun w' hw => by obtain ⟨h0, h1, h2, h3, h4, h5, h6⟩ := hw; go_simp⟩) (KS.out _ hBwa.out) ?_
          try simp only [Act.put, List.setIfInBounds_toArray, List.set_cons_zero, List.set_cons_succ]
          refine wpAnyH_take (i := 4) (v := .agg #[.int .i64 NA.time, .int .i64 NA.actor, .int .i64 NA.above, .int .i64 NA.maker, .string NA.byte, .bool NA.gone]) (List.getElem?_toArray.trans rfl) (by kernel_rfl) (by kernel_rfl) (by kernel_rfl) (fun _ _ _ h => h) (Or.inl ⟨by rfl, fun w' hw => by obtain ⟨h0, h1, h2, h3, h4, h5, h6⟩ := hw; go_simp⟩) (KS.out _ hBwa.out) ?_
          try simp only [Act.put, List.setIfInBounds_toArray, List.set_cons_zero, List.set_cons_succ]
          refine wpAnyH_ready (rs := [0, 5, 8]) (by kernel_rfl) (by simp) ?_
          refine AllReadyH.cons (List.getElem?_toArray.trans rfl) (fun K hK => ?_) ?_
          · skip
            go_simp
            have hBx1 : Hid (Below wc.heap.size wc (wa.alloc (.cells #[] 67))) := hide (hBwa.out.alloc hBwa.out.size _)
            refine hK.out _ _ (KS.out _ hBx1.out) (fun _ => ?_)
            clear hK K
            try simp only [Act.put, List.setIfInBounds_toArray, List.set_cons_zero, List.set_cons_succ]
            have hEx1 : Hid ((wa.alloc (.cells #[] 67)).heap[wa.heap.size]? = some (.cells #[] 67)) := hide (heap_alloc_new wa _)
            obtain ⟨x1, hwx1⟩ : ∃ w', wa.alloc (.cells #[] 67) = w' := ⟨_, rfl⟩
            rw [hwx1] at hEx1 hBx1 ⊢
            clear hwx1
            refine wpAnyH_ready (rs := [3, 5, 8]) (by kernel_rfl) (by simp) ?_
            refine AllReadyH.cons (List.getElem?_toArray.trans rfl) (fun K hK => ?_) ?_
            · skip
              refine step_ams rfl _ _ rfl wc.heap.size (.slice (some ⟨wa.heap.size, 0, none⟩) 0 0) [] a cap l (by simp <;> omega) rfl rfl (own_at hEx1.out (by have := hBx1.out.size; have hz := hBwa.out.size; omega)) (HIN.out _ hBx1.out) hBx1.out.size ?_
              intro v5 x2 own5 grow5
              have hBx2 : Hid (Below wc.heap.size wc x2) := hide (grown_from hBx1.out hBx1.out.size (own_at hEx1.out (by have hz := hBwa.out.size; omega)) grow5)
              have hVx2 : Hid (AmOwn x2 wc.heap.size v5 l) := hide (by rw [List.nil_append] at own5; exact own5)
              obtain ⟨ax2, cx2, rfl, -⟩ := own_shp hVx2.out
              clear own5 grow5
              refine hK.out _ _ (KS.out _ hBx2.out) (fun _ => ?_)
              clear hK K
              try simp only [Act.put, List.setIfInBounds_toArray, List.set_cons_zero, List.set_cons_succ]
              refine wpAnyH_ready (rs := [5, 8]) (by kernel_rfl) (by simp) ?_
              refine AllReadyH.cons (List.getElem?_toArray.trans rfl) (fun K hK => ?_) ?_
              · skip
                go_simp
                have hBx3 : Hid (Below wc.heap.size wc (x2.alloc (.cells #[.int .i64 NA.time, .int .i64 NA.actor, .int .i64 NA.above, .int .i64 NA.maker, .string NA.byte, .bool NA.gone] 67))) := hide (hBx2.out.alloc hBx2.out.size _)
                refine hK.out _ _ (KS.out _ hBx3.out) (fun _ => ?_)
                clear hK K
                try simp only [Act.put, List.setIfInBounds_toArray, List.set_cons_zero, List.set_cons_succ]
                have hVx3 : Hid (AmOwn (x2.alloc (.cells #[.int .i64 NA.time, .int .i64 NA.actor, .int .i64 NA.above, .int .i64 NA.maker, .string NA.byte, .bool NA.gone] 67)) wc.heap.size (.slice ax2 l.length cx2) l) := hide (World.ownsRow.alloc hVx2.out _)
                have hMx3 : Hid ((x2.alloc (.cells #[.int .i64 NA.time, .int .i64 NA.actor, .int .i64 NA.above, .int .i64 NA.maker, .string NA.byte, .bool NA.gone] 67)).heap[x2.heap.size]? = some (.cells #[.int .i64 NA.time, .int .i64 NA.actor, .int .i64 NA.above, .int .i64 NA.maker, .string NA.byte, .bool NA.gone] 67)) := hide (heap_alloc_new x2 _)
                obtain ⟨x3, hwx3⟩ : ∃ w', x2.alloc (.cells #[.int .i64 NA.time, .int .i64 NA.actor, .int .i64 NA.above, .int .i64 NA.maker, .string NA.byte, .bool NA.gone] 67) = w' := ⟨_, rfl⟩
                rw [hwx3] at hMx3 hBx3 hVx3 ⊢
                clear hwx3
                refine wpAnyH_ready (rs := [6, 8]) (by kernel_rfl) (by simp) ?_
                refine AllReadyH.cons (List.getElem?_toArray.trans rfl) (fun K hK => ?_) ?_
                · skip
                  refine step_ams rfl _ _ rfl wc.heap.size (.slice ax2 l.length cx2) l (some ⟨x2.heap.size, 0, none⟩) 1 [NA] (by simp <;> omega) rfl rfl hVx3.out (am_at hMx3.out) hBx3.out.size ?_
                  intro v6 x4 own6 grow6
                  have hBx4 : Hid (Below wc.heap.size wc x4) := hide (grown_from hBx3.out hBx3.out.size hVx3.out grow6)
                  have hVx4 : Hid (AmOwn x4 wc.heap.size v6 (l ++ [NA])) := hide own6
                  obtain ⟨ax4, cx4, he6, -⟩ := own_shp hVx4.out
                  rw [show (l ++ [NA]).length = l.length + 1 by simp] at he6
                  subst he6
                  clear own6 grow6
                  refine hK.out _ _ (KS.out _ hBx4.out) (fun _ => ?_)
                  clear hK K
                  try simp only [Act.put, List.setIfInBounds_toArray, List.set_cons_zero, List.set_cons_succ]
                  refine wpAnyH_take (i := 7) (v := .agg #[.slice ax4 (l.length + 1) cx4]) (List.getElem?_toArray.trans rfl) (by kernel_rfl) (by kernel_rfl) (by kernel_rfl) (fun _ _ _ h => h) (Or.inl ⟨by rfl, fun w' hw => by go_simp⟩) (KS.out _ hBx4.out) ?_
                  try simp only [Act.put, List.setIfInBounds_toArray, List.set_cons_zero, List.set_cons_succ]
                  refine wpAnyH_ready (rs := [8]) (by kernel_rfl) (by simp) ?_
                  refine AllReadyH.cons (List.getElem?_toArray.trans rfl) (fun K hK => ?_) ?_
                  · skip
                    go_simp
                    have hBx5 : Hid (Below wc.heap.size wc (x4.alloc (.cells #[.slice none 0 0] 25))) := hide (hBx4.out.alloc hBx4.out.size _)
                    refine hK.out _ _ (KS.out _ hBx5.out) (fun _ => ?_)
                    clear hK K
                    try simp only [Act.put, List.setIfInBounds_toArray, List.set_cons_zero, List.set_cons_succ]
                    have hVx5 : Hid (AmOwn (x4.alloc (.cells #[.slice none 0 0] 25)) wc.heap.size (.slice ax4 (l.length + 1) cx4) (l ++ [NA])) := hide (World.ownsRow.alloc hVx4.out _)
                    have hOx5 : Hid ((x4.alloc (.cells #[.slice none 0 0] 25)).heap[x4.heap.size]? = some (.cells #[.slice none 0 0] 25)) := hide (heap_alloc_new x4 _)
                    obtain ⟨x5, hwx5⟩ : ∃ w', x4.alloc (.cells #[.slice none 0 0] 25) = w' := ⟨_, rfl⟩
                    rw [hwx5] at hOx5 hBx5 hVx5 ⊢
                    clear hwx5
                    refine wpAnyH_ready (rs := [9]) (by kernel_rfl) (by simp) ?_
                    refine AllReadyH.cons (List.getElem?_toArray.trans rfl) (fun K hK => ?_) ?_
                    · skip
                      have kO := (show CellR x5 (x4.heap.size) _ from hOx5.out).cell
                      have fO := frozen_of_row hOx5.out 0
                      go_simp
                      have PF := hide (And.intro (show wc.heap.size ≤ x4.heap.size from by have hz := hBx4.out.size; exact hz) (put_fin hOx5.out hVx5.out hBx5.out (by have hz := hBx4.out.size; exact hz)))
                      refine hK.out _ _ (KS.out _ PF.out.2.2.2) (fun _ => ?_)
                      clear hK K
                      try simp only [Act.put, List.setIfInBounds_toArray, List.set_cons_zero, List.set_cons_succ]
                      refine wpAnyH_done (by kernel_rfl) (NoPanic.normal ?_) _
                      go_wp2_with fail
                      go_meet
                      case rel => exact ⟨_, _, rfl, hide PF.out⟩
                    exact AllReadyH.nil
                  exact AllReadyH.nil
                refine AllReadyH.cons (List.getElem?_toArray.trans rfl) (fun K hK => ?_) ?_
                · skip
                  go_simp
                  have hBx7 : Hid (Below wc.heap.size wc (x3.alloc (.cells #[.slice none 0 0] 25))) := hide (hBx3.out.alloc hBx3.out.size _)
                  refine hK.out _ _ (KS.out _ hBx7.out) (fun _ => ?_)
                  clear hK K
                  try simp only [Act.put, List.setIfInBounds_toArray, List.set_cons_zero, List.set_cons_succ]
                  have hMx7 := hide (keep_al (y := (.cells #[.slice none 0 0] 25)) hMx3.out)
                  have hVx7 : Hid (AmOwn (x3.alloc (.cells #[.slice none 0 0] 25)) wc.heap.size (.slice ax2 l.length cx2) l) := hide (World.ownsRow.alloc hVx3.out _)
                  have hOx7 : Hid ((x3.alloc (.cells #[.slice none 0 0] 25)).heap[x3.heap.size]? = some (.cells #[.slice none 0 0] 25)) := hide (heap_alloc_new x3 _)
                  obtain ⟨x7, hwx7⟩ : ∃ w', x3.alloc (.cells #[.slice none 0 0] 25) = w' := ⟨_, rfl⟩
                  rw [hwx7] at hMx7 hOx7 hBx7 hVx7 ⊢
                  clear hwx7
                  refine wpAnyH_ready (rs := [6]) (by kernel_rfl) (by simp) ?_
                  refine AllReadyH.cons (List.getElem?_toArray.trans rfl) (fun K hK => ?_) ?_
                  · skip
                    refine step_ams rfl _ _ rfl wc.heap.size (.slice ax2 l.length cx2) l (some ⟨x2.heap.size, 0, none⟩) 1 [NA] (by simp <;> omega) rfl rfl hVx7.out (am_at hMx7.out) hBx7.out.size ?_
                    intro v6 x8 own6 grow6
                    have hBx8 : Hid (Below wc.heap.size wc x8) := hide (grown_from hBx7.out hBx7.out.size hVx7.out grow6)
                    have hVx8 : Hid (AmOwn x8 wc.heap.size v6 (l ++ [NA])) := hide own6
                    have hOx8 := hide (keep_seq hVx7.out grow6 _ _ _ hOx7.out)
                    obtain ⟨ax8, cx8, he6, -⟩ := own_shp hVx8.out
                    rw [show (l ++ [NA]).length = l.length + 1 by simp] at he6
                    subst he6
                    clear own6 grow6
                    refine hK.out _ _ (KS.out _ hBx8.out) (fun _ => ?_)
                    clear hK K
                    try simp only [Act.put, List.setIfInBounds_toArray, List.set_cons_zero, List.set_cons_succ]
                    refine wpAnyH_take (i := 7) (v := .agg #[.slice ax8 (l.length + 1) cx8]) (List.getElem?_toArray.trans rfl) (by kernel_rfl) (by kernel_rfl) (by kernel_rfl) (fun _ _ _ h => h) (Or.inl ⟨by rfl, fun w' hw => by go_simp⟩) (KS.out _ hBx8.out) ?_
                    try simp only [Act.put, List.setIfInBounds_toArray, List.set_cons_zero, List.set_cons_succ]
                    refine wpAnyH_ready (rs := [9]) (by kernel_rfl) (by simp) ?_
                    refine AllReadyH.cons (List.getElem?_toArray.trans rfl) (fun K hK => ?_) ?_
                    · skip
                      have kO := (show CellR x8 (x3.heap.size) _ from hOx8.out).cell
                      have fO := frozen_of_row hOx8.out 0
                      go_simp
                      have PF := hide (And.intro (show wc.heap.size ≤ x3.heap.size from by have hz := hBx3.out.size; exact hz) (put_fin hOx8.out hVx8.out hBx8.out (by have hz := hBx3.out.size; exact hz)))
                      refine hK.out _ _ (KS.out _ PF.out.2.2.2) (fun _ => ?_)
                      clear hK K
                      try simp only [Act.put, List.setIfInBounds_toArray, List.set_cons_zero, List.set_cons_succ]
                      refine wpAnyH_done (by kernel_rfl) (NoPanic.normal ?_) _
                      go_wp2_with fail
                      go_meet
                      case rel => exact ⟨_, _, rfl, hide PF.out⟩
                    exact AllReadyH.nil
                  exact AllReadyH.nil
                exact AllReadyH.nil
              refine AllReadyH.cons (List.getElem?_toArray.trans rfl) (fun K hK => ?_) ?_
              · skip
                go_simp
                have hBx10 : Hid (Below wc.heap.size wc (x2.alloc (.cells #[.slice none 0 0] 25))) := hide (hBx2.out.alloc hBx2.out.size _)
                refine hK.out _ _ (KS.out _ hBx10.out) (fun _ => ?_)
                clear hK K
                try simp only [Act.put, List.setIfInBounds_toArray, List.set_cons_zero, List.set_cons_succ]
                have hVx10 : Hid (AmOwn (x2.alloc (.cells #[.slice none 0 0] 25)) wc.heap.size (.slice ax2 l.length cx2) l) := hide (World.ownsRow.alloc hVx2.out _)
                have hOx10 : Hid ((x2.alloc (.cells #[.slice none 0 0] 25)).heap[x2.heap.size]? = some (.cells #[.slice none 0 0] 25)) := hide (heap_alloc_new x2 _)
                obtain ⟨x10, hwx10⟩ : ∃ w', x2.alloc (.cells #[.slice none 0 0] 25) = w' := ⟨_, rfl⟩
                rw [hwx10] at hOx10 hBx10 hVx10 ⊢
                clear hwx10
                refine wpAnyH_ready (rs := [5]) (by kernel_rfl) (by simp) ?_
                refine AllReadyH.cons (List.getElem?_toArray.trans rfl) (fun K hK => ?_) ?_
                · skip
                  go_simp
                  have hBx11 : Hid (Below wc.heap.size wc (x10.alloc (.cells #[.int .i64 NA.time, .int .i64 NA.actor, .int .i64 NA.above, .int .i64 NA.maker, .string NA.byte, .bool NA.gone] 67))) := hide (hBx10.out.alloc hBx10.out.size _)
                  refine hK.out _ _ (KS.out _ hBx11.out) (fun _ => ?_)
                  clear hK K
                  try simp only [Act.put, List.setIfInBounds_toArray, List.set_cons_zero, List.set_cons_succ]
                  have hOx11 := hide (keep_al (y := (.cells #[.int .i64 NA.time, .int .i64 NA.actor, .int .i64 NA.above, .int .i64 NA.maker, .string NA.byte, .bool NA.gone] 67)) hOx10.out)
                  have hVx11 : Hid (AmOwn (x10.alloc (.cells #[.int .i64 NA.time, .int .i64 NA.actor, .int .i64 NA.above, .int .i64 NA.maker, .string NA.byte, .bool NA.gone] 67)) wc.heap.size (.slice ax2 l.length cx2) l) := hide (World.ownsRow.alloc hVx10.out _)
                  have hMx11 : Hid ((x10.alloc (.cells #[.int .i64 NA.time, .int .i64 NA.actor, .int .i64 NA.above, .int .i64 NA.maker, .string NA.byte, .bool NA.gone] 67)).heap[x10.heap.size]? = some (.cells #[.int .i64 NA.time, .int .i64 NA.actor, .int .i64 NA.above, .int .i64 NA.maker, .string NA.byte, .bool NA.gone] 67)) := hide (heap_alloc_new x10 _)
                  obtain ⟨x11, hwx11⟩ : ∃ w', x10.alloc (.cells #[.int .i64 NA.time, .int .i64 NA.actor, .int .i64 NA.above, .int .i64 NA.maker, .string NA.byte, .bool NA.gone] 67) = w' := ⟨_, rfl⟩
                  rw [hwx11] at hMx11 hOx11 hBx11 hVx11 ⊢
                  clear hwx11
                  refine wpAnyH_ready (rs := [6]) (by kernel_rfl) (by simp) ?_
                  refine AllReadyH.cons (List.getElem?_toArray.trans rfl) (fun K hK => ?_) ?_
                  · skip
                    refine step_ams rfl _ _ rfl wc.heap.size (.slice ax2 l.length cx2) l (some ⟨x10.heap.size, 0, none⟩) 1 [NA] (by simp <;> omega) rfl rfl hVx11.out (am_at hMx11.out) hBx11.out.size ?_
                    intro v6 x12 own6 grow6
                    have hBx12 : Hid (Below wc.heap.size wc x12) := hide (grown_from hBx11.out hBx11.out.size hVx11.out grow6)
                    have hVx12 : Hid (AmOwn x12 wc.heap.size v6 (l ++ [NA])) := hide own6
                    have hOx12 := hide (keep_seq hVx11.out grow6 _ _ _ hOx11.out)
                    obtain ⟨ax12, cx12, he6, -⟩ := own_shp hVx12.out
                    rw [show (l ++ [NA]).length = l.length + 1 by simp] at he6
                    subst he6
                    clear own6 grow6
                    refine hK.out _ _ (KS.out _ hBx12.out) (fun _ => ?_)
                    clear hK K
                    try simp only [Act.put, List.setIfInBounds_toArray, List.set_cons_zero, List.set_cons_succ]
                    refine wpAnyH_take (i := 7) (v := .agg #[.slice ax12 (l.length + 1) cx12]) (List.getElem?_toArray.trans rfl) (by kernel_rfl) (by kernel_rfl) (by kernel_rfl) (fun _ _ _ h => h) (Or.inl ⟨by rfl, fun w' hw => by go_simp⟩) (KS.out _ hBx12.out) ?_
                    try simp only [Act.put, List.setIfInBounds_toArray, List.set_cons_zero, List.set_cons_succ]
                    refine wpAnyH_ready (rs := [9]) (by kernel_rfl) (by simp) ?_
                    refine AllReadyH.cons (List.getElem?_toArray.trans rfl) (fun K hK => ?_) ?_
                    · skip
                      have kO := (show CellR x12 (x2.heap.size) _ from hOx12.out).cell
                      have fO := frozen_of_row hOx12.out 0
                      go_simp
                      have PF := hide (And.intro (show wc.heap.size ≤ x2.heap.size from by have hz := hBx2.out.size; exact hz) (put_fin hOx12.out hVx12.out hBx12.out (by have hz := hBx2.out.size; exact hz)))
                      refine hK.out _ _ (KS.out _ PF.out.2.2.2) (fun _ => ?_)
                      clear hK K
                      try simp only [Act.put, List.setIfInBounds_toArray, List.set_cons_zero, List.set_cons_succ]
                      refine wpAnyH_done (by kernel_rfl) (NoPanic.normal ?_) _
                      go_wp2_with fail
                      go_meet
                      case rel => exact ⟨_, _, rfl, hide PF.out⟩
                    exact AllReadyH.nil
                  exact AllReadyH.nil
                exact AllReadyH.nil
              exact AllReadyH.nil
            refine AllReadyH.cons (List.getElem?_toArray.trans rfl) (fun K hK => ?_) ?_
            · skip
              go_simp
              have hBx14 : Hid (Below wc.heap.size wc (x1.alloc (.cells #[.int .i64 NA.time, .int .i64 NA.actor, .int .i64 NA.above, .int .i64 NA.maker, .string NA.byte, .bool NA.gone] 67))) := hide (hBx1.out.alloc hBx1.out.size _)
              refine hK.out _ _ (KS.out _ hBx14.out) (fun _ => ?_)
              clear hK K
              try simp only [Act.put, List.setIfInBounds_toArray, List.set_cons_zero, List.set_cons_succ]
              have hEx14 := hide (keep_al (y := (.cells #[.int .i64 NA.time, .int .i64 NA.actor, .int .i64 NA.above, .int .i64 NA.maker, .string NA.byte, .bool NA.gone] 67)) hEx1.out)
              have hMx14 : Hid ((x1.alloc (.cells #[.int .i64 NA.time, .int .i64 NA.actor, .int .i64 NA.above, .int .i64 NA.maker, .string NA.byte, .bool NA.gone] 67)).heap[x1.heap.size]? = some (.cells #[.int .i64 NA.time, .int .i64 NA.actor, .int .i64 NA.above, .int .i64 NA.maker, .string NA.byte, .bool NA.gone] 67)) := hide (heap_alloc_new x1 _)
              obtain ⟨x14, hwx14⟩ : ∃ w', x1.alloc (.cells #[.int .i64 NA.time, .int .i64 NA.actor, .int .i64 NA.above, .int .i64 NA.maker, .string NA.byte, .bool NA.gone] 67) = w' := ⟨_, rfl⟩
              rw [hwx14] at hEx14 hMx14 hBx14 ⊢
              clear hwx14
              refine wpAnyH_ready (rs := [3, 8]) (by kernel_rfl) (by simp) ?_
              refine AllReadyH.cons (List.getElem?_toArray.trans rfl) (fun K hK => ?_) ?_
              · skip
                refine step_ams rfl _ _ rfl wc.heap.size (.slice (some ⟨wa.heap.size, 0, none⟩) 0 0) [] a cap l (by simp <;> omega) rfl rfl (own_at hEx14.out (by have := hBx14.out.size; have hz := hBwa.out.size; omega)) (HIN.out _ hBx14.out) hBx14.out.size ?_
                intro v5 x15 own5 grow5
                have hBx15 : Hid (Below wc.heap.size wc x15) := hide (grown_from hBx14.out hBx14.out.size (own_at hEx14.out (by have hz := hBwa.out.size; omega)) grow5)
                have hVx15 : Hid (AmOwn x15 wc.heap.size v5 l) := hide (by rw [List.nil_append] at own5; exact own5)
                have hMx15 := hide (grown_keep grow5 _ _ hMx14.out (by have h1 := Array.getElem?_eq_some_iff.1 hMx14.out; have h2 := Array.getElem?_eq_some_iff.1 hEx14.out; intro c; have c2 : wa.heap.size = x1.heap.size := Option.some.inj c; have h3 := hEx14.out; rw [c2, hMx14.out] at h3; simp at h3))
                obtain ⟨ax15, cx15, rfl, -⟩ := own_shp hVx15.out
                clear own5 grow5
                refine hK.out _ _ (KS.out _ hBx15.out) (fun _ => ?_)
                clear hK K
                try simp only [Act.put, List.setIfInBounds_toArray, List.set_cons_zero, List.set_cons_succ]
                refine wpAnyH_ready (rs := [6, 8]) (by kernel_rfl) (by simp) ?_
                refine AllReadyH.cons (List.getElem?_toArray.trans rfl) (fun K hK => ?_) ?_
                · skip
                  refine step_ams rfl _ _ rfl wc.heap.size (.slice ax15 l.length cx15) l (some ⟨x1.heap.size, 0, none⟩) 1 [NA] (by simp <;> omega) rfl rfl hVx15.out (am_at hMx15.out) hBx15.out.size ?_
                  intro v6 x16 own6 grow6
                  have hBx16 : Hid (Below wc.heap.size wc x16) := hide (grown_from hBx15.out hBx15.out.size hVx15.out grow6)
                  have hVx16 : Hid (AmOwn x16 wc.heap.size v6 (l ++ [NA])) := hide own6
                  obtain ⟨ax16, cx16, he6, -⟩ := own_shp hVx16.out
                  rw [show (l ++ [NA]).length = l.length + 1 by simp] at he6
                  subst he6
                  clear own6 grow6
                  refine hK.out _ _ (KS.out _ hBx16.out) (fun _ => ?_)
                  clear hK K
                  try simp only [Act.put, List.setIfInBounds_toArray, List.set_cons_zero, List.set_cons_succ]
                  refine wpAnyH_take (i := 7) (v := .agg #[.slice ax16 (l.length + 1) cx16]) (List.getElem?_toArray.trans rfl) (by kernel_rfl) (by kernel_rfl) (by kernel_rfl) (fun _ _ _ h => h) (Or.inl ⟨by rfl, fun w' hw => by go_simp⟩) (KS.out _ hBx16.out) ?_
                  try simp only [Act.put, List.setIfInBounds_toArray, List.set_cons_zero, List.set_cons_succ]
                  refine wpAnyH_ready (rs := [8]) (by kernel_rfl) (by simp) ?_
                  refine AllReadyH.cons (List.getElem?_toArray.trans rfl) (fun K hK => ?_) ?_
                  · skip
                    go_simp
                    have hBx17 : Hid (Below wc.heap.size wc (x16.alloc (.cells #[.slice none 0 0] 25))) := hide (hBx16.out.alloc hBx16.out.size _)
                    refine hK.out _ _ (KS.out _ hBx17.out) (fun _ => ?_)
                    clear hK K
                    try simp only [Act.put, List.setIfInBounds_toArray, List.set_cons_zero, List.set_cons_succ]
                    have hVx17 : Hid (AmOwn (x16.alloc (.cells #[.slice none 0 0] 25)) wc.heap.size (.slice ax16 (l.length + 1) cx16) (l ++ [NA])) := hide (World.ownsRow.alloc hVx16.out _)
                    have hOx17 : Hid ((x16.alloc (.cells #[.slice none 0 0] 25)).heap[x16.heap.size]? = some (.cells #[.slice none 0 0] 25)) := hide (heap_alloc_new x16 _)
                    obtain ⟨x17, hwx17⟩ : ∃ w', x16.alloc (.cells #[.slice none 0 0] 25) = w' := ⟨_, rfl⟩
                    rw [hwx17] at hOx17 hBx17 hVx17 ⊢
                    clear hwx17
                    refine wpAnyH_ready (rs := [9]) (by kernel_rfl) (by simp) ?_
                    refine AllReadyH.cons (List.getElem?_toArray.trans rfl) (fun K hK => ?_) ?_
                    · skip
                      have kO := (show CellR x17 (x16.heap.size) _ from hOx17.out).cell
                      have fO := frozen_of_row hOx17.out 0
                      go_simp
                      have PF := hide (And.intro (show wc.heap.size ≤ x16.heap.size from by have hz := hBx16.out.size; exact hz) (put_fin hOx17.out hVx17.out hBx17.out (by have hz := hBx16.out.size; exact hz)))
                      refine hK.out _ _ (KS.out _ PF.out.2.2.2) (fun _ => ?_)
                      clear hK K
                      try simp only [Act.put, List.setIfInBounds_toArray, List.set_cons_zero, List.set_cons_succ]
                      refine wpAnyH_done (by kernel_rfl) (NoPanic.normal ?_) _
                      go_wp2_with fail
                      go_meet
                      case rel => exact ⟨_, _, rfl, hide PF.out⟩
                    exact AllReadyH.nil
                  exact AllReadyH.nil
                refine AllReadyH.cons (List.getElem?_toArray.trans rfl) (fun K hK => ?_) ?_
                · skip
                  go_simp
                  have hBx19 : Hid (Below wc.heap.size wc (x15.alloc (.cells #[.slice none 0 0] 25))) := hide (hBx15.out.alloc hBx15.out.size _)
                  refine hK.out _ _ (KS.out _ hBx19.out) (fun _ => ?_)
                  clear hK K
                  try simp only [Act.put, List.setIfInBounds_toArray, List.set_cons_zero, List.set_cons_succ]
                  have hMx19 := hide (keep_al (y := (.cells #[.slice none 0 0] 25)) hMx15.out)
                  have hVx19 : Hid (AmOwn (x15.alloc (.cells #[.slice none 0 0] 25)) wc.heap.size (.slice ax15 l.length cx15) l) := hide (World.ownsRow.alloc hVx15.out _)
                  have hOx19 : Hid ((x15.alloc (.cells #[.slice none 0 0] 25)).heap[x15.heap.size]? = some (.cells #[.slice none 0 0] 25)) := hide (heap_alloc_new x15 _)
                  obtain ⟨x19, hwx19⟩ : ∃ w', x15.alloc (.cells #[.slice none 0 0] 25) = w' := ⟨_, rfl⟩
                  rw [hwx19] at hMx19 hOx19 hBx19 hVx19 ⊢
                  clear hwx19
                  refine wpAnyH_ready (rs := [6]) (by kernel_rfl) (by simp) ?_
                  refine AllReadyH.cons (List.getElem?_toArray.trans rfl) (fun K hK => ?_) ?_
                  · skip
                    refine step_ams rfl _ _ rfl wc.heap.size (.slice ax15 l.length cx15) l (some ⟨x1.heap.size, 0, none⟩) 1 [NA] (by simp <;> omega) rfl rfl hVx19.out (am_at hMx19.out) hBx19.out.size ?_
                    intro v6 x20 own6 grow6
                    have hBx20 : Hid (Below wc.heap.size wc x20) := hide (grown_from hBx19.out hBx19.out.size hVx19.out grow6)
                    have hVx20 : Hid (AmOwn x20 wc.heap.size v6 (l ++ [NA])) := hide own6
                    have hOx20 := hide (keep_seq hVx19.out grow6 _ _ _ hOx19.out)
                    obtain ⟨ax20, cx20, he6, -⟩ := own_shp hVx20.out
                    rw [show (l ++ [NA]).length = l.length + 1 by simp] at he6
                    subst he6
                    clear own6 grow6
                    refine hK.out _ _ (KS.out _ hBx20.out) (fun _ => ?_)
                    clear hK K
                    try simp only [Act.put, List.setIfInBounds_toArray, List.set_cons_zero, List.set_cons_succ]
                    refine wpAnyH_take (i := 7) (v := .agg #[.slice ax20 (l.length + 1) cx20]) (List.getElem?_toArray.trans rfl) (by kernel_rfl) (by kernel_rfl) (by kernel_rfl) (fun _ _ _ h => h) (Or.inl ⟨by rfl, fun w' hw => by go_simp⟩) (KS.out _ hBx20.out) ?_
                    try simp only [Act.put, List.setIfInBounds_toArray, List.set_cons_zero, List.set_cons_succ]
                    refine wpAnyH_ready (rs := [9]) (by kernel_rfl) (by simp) ?_
                    refine AllReadyH.cons (List.getElem?_toArray.trans rfl) (fun K hK => ?_) ?_
                    · skip
                      have kO := (show CellR x20 (x15.heap.size) _ from hOx20.out).cell
                      have fO := frozen_of_row hOx20.out 0
                      go_simp
                      have PF := hide (And.intro (show wc.heap.size ≤ x15.heap.size from by have hz := hBx15.out.size; exact hz) (put_fin hOx20.out hVx20.out hBx20.out (by have hz := hBx15.out.size; exact hz)))
                      refine hK.out _ _ (KS.out _ PF.out.2.2.2) (fun _ => ?_)
                      clear hK K
                      try simp only [Act.put, List.setIfInBounds_toArray, List.set_cons_zero, List.set_cons_succ]
                      refine wpAnyH_done (by kernel_rfl) (NoPanic.normal ?_) _
                      go_wp2_with fail
                      go_meet
                      case rel => exact ⟨_, _, rfl, hide PF.out⟩
                    exact AllReadyH.nil
                  exact AllReadyH.nil
                exact AllReadyH.nil
              refine AllReadyH.cons (List.getElem?_toArray.trans rfl) (fun K hK => ?_) ?_
              · skip
                go_simp
                have hBx22 : Hid (Below wc.heap.size wc (x14.alloc (.cells #[.slice none 0 0] 25))) := hide (hBx14.out.alloc hBx14.out.size _)
                refine hK.out _ _ (KS.out _ hBx22.out) (fun _ => ?_)
                clear hK K
                try simp only [Act.put, List.setIfInBounds_toArray, List.set_cons_zero, List.set_cons_succ]
                have hEx22 := hide (keep_al (y := (.cells #[.slice none 0 0] 25)) hEx14.out)
                have hMx22 := hide (keep_al (y := (.cells #[.slice none 0 0] 25)) hMx14.out)
                have hOx22 : Hid ((x14.alloc (.cells #[.slice none 0 0] 25)).heap[x14.heap.size]? = some (.cells #[.slice none 0 0] 25)) := hide (heap_alloc_new x14 _)
                obtain ⟨x22, hwx22⟩ : ∃ w', x14.alloc (.cells #[.slice none 0 0] 25) = w' := ⟨_, rfl⟩
                rw [hwx22] at hEx22 hMx22 hOx22 hBx22 ⊢
                clear hwx22
                refine wpAnyH_ready (rs := [3]) (by kernel_rfl) (by simp) ?_
                refine AllReadyH.cons (List.getElem?_toArray.trans rfl) (fun K hK => ?_) ?_
                · skip
                  refine step_ams rfl _ _ rfl wc.heap.size (.slice (some ⟨wa.heap.size, 0, none⟩) 0 0) [] a cap l (by simp <;> omega) rfl rfl (own_at hEx22.out (by have := hBx22.out.size; have hz := hBwa.out.size; omega)) (HIN.out _ hBx22.out) hBx22.out.size ?_
                  intro v5 x23 own5 grow5
                  have hBx23 : Hid (Below wc.heap.size wc x23) := hide (grown_from hBx22.out hBx22.out.size (own_at hEx22.out (by have hz := hBwa.out.size; omega)) grow5)
                  have hVx23 : Hid (AmOwn x23 wc.heap.size v5 l) := hide (by rw [List.nil_append] at own5; exact own5)
                  have hMx23 := hide (grown_keep grow5 _ _ hMx22.out (by have h1 := Array.getElem?_eq_some_iff.1 hMx22.out; have h2 := Array.getElem?_eq_some_iff.1 hEx22.out; intro c; have c2 : wa.heap.size = x1.heap.size := Option.some.inj c; have h3 := hEx22.out; rw [c2, hMx22.out] at h3; simp at h3))
                  have hOx23 := hide (keep_seq (own_at (B := 0) hEx22.out (Nat.zero_le _)) grow5 _ _ _ hOx22.out)
                  obtain ⟨ax23, cx23, rfl, -⟩ := own_shp hVx23.out
                  clear own5 grow5
                  refine hK.out _ _ (KS.out _ hBx23.out) (fun _ => ?_)
                  clear hK K
                  try simp only [Act.put, List.setIfInBounds_toArray, List.set_cons_zero, List.set_cons_succ]
                  refine wpAnyH_ready (rs := [6]) (by kernel_rfl) (by simp) ?_
                  refine AllReadyH.cons (List.getElem?_toArray.trans rfl) (fun K hK => ?_) ?_
                  · skip
                    refine step_ams rfl _ _ rfl wc.heap.size (.slice ax23 l.length cx23) l (some ⟨x1.heap.size, 0, none⟩) 1 [NA] (by simp <;> omega) rfl rfl hVx23.out (am_at hMx23.out) hBx23.out.size ?_
                    intro v6 x24 own6 grow6
                    have hBx24 : Hid (Below wc.heap.size wc x24) := hide (grown_from hBx23.out hBx23.out.size hVx23.out grow6)
                    have hVx24 : Hid (AmOwn x24 wc.heap.size v6 (l ++ [NA])) := hide own6
                    have hOx24 := hide (keep_seq hVx23.out grow6 _ _ _ hOx23.out)
                    obtain ⟨ax24, cx24, he6, -⟩ := own_shp hVx24.out
                    rw [show (l ++ [NA]).length = l.length + 1 by simp] at he6
                    subst he6
                    clear own6 grow6
                    refine hK.out _ _ (KS.out _ hBx24.out) (fun _ => ?_)
                    clear hK K
                    try simp only [Act.put, List.setIfInBounds_toArray, List.set_cons_zero, List.set_cons_succ]
                    refine wpAnyH_take (i := 7) (v := .agg #[.slice ax24 (l.length + 1) cx24]) (List.getElem?_toArray.trans rfl) (by kernel_rfl) (by kernel_rfl) (by kernel_rfl) (fun _ _ _ h => h) (Or.inl ⟨by rfl, fun w' hw => by go_simp⟩) (KS.out _ hBx24.out) ?_
                    try simp only [Act.put, List.setIfInBounds_toArray, List.set_cons_zero, List.set_cons_succ]
                    refine wpAnyH_ready (rs := [9]) (by kernel_rfl) (by simp) ?_
                    refine AllReadyH.cons (List.getElem?_toArray.trans rfl) (fun K hK => ?_) ?_
                    · skip
                      have kO := (show CellR x24 (x14.heap.size) _ from hOx24.out).cell
                      have fO := frozen_of_row hOx24.out 0
                      go_simp
                      have PF := hide (And.intro (show wc.heap.size ≤ x14.heap.size from by have hz := hBx14.out.size; exact hz) (put_fin hOx24.out hVx24.out hBx24.out (by have hz := hBx14.out.size; exact hz)))
                      refine hK.out _ _ (KS.out _ PF.out.2.2.2) (fun _ => ?_)
                      clear hK K
                      try simp only [Act.put, List.setIfInBounds_toArray, List.set_cons_zero, List.set_cons_succ]
                      refine wpAnyH_done (by kernel_rfl) (NoPanic.normal ?_) _
                      go_wp2_with fail
                      go_meet
                      case rel => exact ⟨_, _, rfl, hide PF.out⟩
                    exact AllReadyH.nil
                  exact AllReadyH.nil
                exact AllReadyH.nil
              exact AllReadyH.nil
            refine AllReadyH.cons (List.getElem?_toArray.trans rfl) (fun K hK => ?_) ?_
            · skip
              go_simp
              have hBx26 : Hid (Below wc.heap.size wc (x1.alloc (.cells #[.slice none 0 0] 25))) := hide (hBx1.out.alloc hBx1.out.size _)
              refine hK.out _ _ (KS.out _ hBx26.out) (fun _ => ?_)
              clear hK K
              try simp only [Act.put, List.setIfInBounds_toArray, List.set_cons_zero, List.set_cons_succ]
              have hEx26 := hide (keep_al (y := (.cells #[.slice none 0 0] 25)) hEx1.out)
              have hOx26 : Hid ((x1.alloc (.cells #[.slice none 0 0] 25)).heap[x1.heap.size]? = some (.cells #[.slice none 0 0] 25)) := hide (heap_alloc_new x1 _)
              obtain ⟨x26, hwx26⟩ : ∃ w', x1.alloc (.cells #[.slice none 0 0] 25) = w' := ⟨_, rfl⟩
              rw [hwx26] at hEx26 hOx26 hBx26 ⊢
              clear hwx26
              refine wpAnyH_ready (rs := [3, 5]) (by kernel_rfl) (by simp) ?_
              refine AllReadyH.cons (List.getElem?_toArray.trans rfl) (fun K hK => ?_) ?_
              · skip
                refine step_ams rfl _ _ rfl wc.heap.size (.slice (some ⟨wa.heap.size, 0, none⟩) 0 0) [] a cap l (by simp <;> omega) rfl rfl (own_at hEx26.out (by have := hBx26.out.size; have hz := hBwa.out.size; omega)) (HIN.out _ hBx26.out) hBx26.out.size ?_
                intro v5 x27 own5 grow5
                have hBx27 : Hid (Below wc.heap.size wc x27) := hide (grown_from hBx26.out hBx26.out.size (own_at hEx26.out (by have hz := hBwa.out.size; omega)) grow5)
                have hVx27 : Hid (AmOwn x27 wc.heap.size v5 l) := hide (by rw [List.nil_append] at own5; exact own5)
                have hOx27 := hide (keep_seq (own_at (B := 0) hEx26.out (Nat.zero_le _)) grow5 _ _ _ hOx26.out)
                obtain ⟨ax27, cx27, rfl, -⟩ := own_shp hVx27.out
                clear own5 grow5
                refine hK.out _ _ (KS.out _ hBx27.out) (fun _ => ?_)
                clear hK K
                try simp only [Act.put, List.setIfInBounds_toArray, List.set_cons_zero, List.set_cons_succ]
                refine wpAnyH_ready (rs := [5]) (by kernel_rfl) (by simp) ?_
                refine AllReadyH.cons (List.getElem?_toArray.trans rfl) (fun K hK => ?_) ?_
                · skip
                  go_simp
                  have hBx28 : Hid (Below wc.heap.size wc (x27.alloc (.cells #[.int .i64 NA.time, .int .i64 NA.actor, .int .i64 NA.above, .int .i64 NA.maker, .string NA.byte, .bool NA.gone] 67))) := hide (hBx27.out.alloc hBx27.out.size _)
                  refine hK.out _ _ (KS.out _ hBx28.out) (fun _ => ?_)
                  clear hK K
                  try simp only [Act.put, List.setIfInBounds_toArray, List.set_cons_zero, List.set_cons_succ]
                  have hOx28 := hide (keep_al (y := (.cells #[.int .i64 NA.time, .int .i64 NA.actor, .int .i64 NA.above, .int .i64 NA.maker, .string NA.byte, .bool NA.gone] 67)) hOx27.out)
                  have hVx28 : Hid (AmOwn (x27.alloc (.cells #[.int .i64 NA.time, .int .i64 NA.actor, .int .i64 NA.above, .int .i64 NA.maker, .string NA.byte, .bool NA.gone] 67)) wc.heap.size (.slice ax27 l.length cx27) l) := hide (World.ownsRow.alloc hVx27.out _)
                  have hMx28 : Hid ((x27.alloc (.cells #[.int .i64 NA.time, .int .i64 NA.actor, .int .i64 NA.above, .int .i64 NA.maker, .string NA.byte, .bool NA.gone] 67)).heap[x27.heap.size]? = some (.cells #[.int .i64 NA.time, .int .i64 NA.actor, .int .i64 NA.above, .int .i64 NA.maker, .string NA.byte, .bool NA.gone] 67)) := hide (heap_alloc_new x27 _)
                  obtain ⟨x28, hwx28⟩ : ∃ w', x27.alloc (.cells #[.int .i64 NA.time, .int .i64 NA.actor, .int .i64 NA.above, .int .i64 NA.maker, .string NA.byte, .bool NA.gone] 67) = w' := ⟨_, rfl⟩
                  rw [hwx28] at hMx28 hOx28 hBx28 hVx28 ⊢
                  clear hwx28
                  refine wpAnyH_ready (rs := [6]) (by kernel_rfl) (by simp) ?_
                  refine AllReadyH.cons (List.getElem?_toArray.trans rfl) (fun K hK => ?_) ?_
                  · skip
                    refine step_ams rfl _ _ rfl wc.heap.size (.slice ax27 l.length cx27) l (some ⟨x27.heap.size, 0, none⟩) 1 [NA] (by simp <;> omega) rfl rfl hVx28.out (am_at hMx28.out) hBx28.out.size ?_
                    intro v6 x29 own6 grow6
                    have hBx29 : Hid (Below wc.heap.size wc x29) := hide (grown_from hBx28.out hBx28.out.size hVx28.out grow6)
                    have hVx29 : Hid (AmOwn x29 wc.heap.size v6 (l ++ [NA])) := hide own6
                    have hOx29 := hide (keep_seq hVx28.out grow6 _ _ _ hOx28.out)
                    obtain ⟨ax29, cx29, he6, -⟩ := own_shp hVx29.out
                    rw [show (l ++ [NA]).length = l.length + 1 by simp] at he6
                    subst he6
                    clear own6 grow6
                    refine hK.out _ _ (KS.out _ hBx29.out) (fun _ => ?_)
                    clear hK K
                    try simp only [Act.put, List.setIfInBounds_toArray, List.set_cons_zero, List.set_cons_succ]
                    refine wpAnyH_take (i := 7) (v := .agg #[.slice ax29 (l.length + 1) cx29]) (List.getElem?_toArray.trans rfl) (by kernel_rfl) (by kernel_rfl) (by kernel_rfl) (fun _ _ _ h => h) (Or.inl ⟨by rfl, fun w' hw => by go_simp⟩) (KS.out _ hBx29.out) ?_
                    try simp only [Act.put, List.setIfInBounds_toArray, List.set_cons_zero, List.set_cons_succ]
                    refine wpAnyH_ready (rs := [9]) (by kernel_rfl) (by simp) ?_
                    refine AllReadyH.cons (List.getElem?_toArray.trans rfl) (fun K hK => ?_) ?_
                    · skip
                      have kO := (show CellR x29 (x1.heap.size) _ from hOx29.out).cell
                      have fO := frozen_of_row hOx29.out 0
                      go_simp
                      have PF := hide (And.intro (show wc.heap.size ≤ x1.heap.size from by have hz := hBx1.out.size; exact hz) (put_fin hOx29.out hVx29.out hBx29.out (by have hz := hBx1.out.size; exact hz)))
                      refine hK.out _ _ (KS.out _ PF.out.2.2.2) (fun _ => ?_)
                      clear hK K
                      try simp only [Act.put, List.setIfInBounds_toArray, List.set_cons_zero, List.set_cons_succ]
                      refine wpAnyH_done (by kernel_rfl) (NoPanic.normal ?_) _
                      go_wp2_with fail
                      go_meet
                      case rel => exact ⟨_, _, rfl, hide PF.out⟩
                    exact AllReadyH.nil
                  exact AllReadyH.nil
                exact AllReadyH.nil
              refine AllReadyH.cons (List.getElem?_toArray.trans rfl) (fun K hK => ?_) ?_
              · skip
                go_simp
                have hBx31 : Hid (Below wc.heap.size wc (x26.alloc (.cells #[.int .i64 NA.time, .int .i64 NA.actor, .int .i64 NA.above, .int .i64 NA.maker, .string NA.byte, .bool NA.gone] 67))) := hide (hBx26.out.alloc hBx26.out.size _)
                refine hK.out _ _ (KS.out _ hBx31.out) (fun _ => ?_)
                clear hK K
                try simp only [Act.put, List.setIfInBounds_toArray, List.set_cons_zero, List.set_cons_succ]
                have hEx31 := hide (keep_al (y := (.cells #[.int .i64 NA.time, .int .i64 NA.actor, .int .i64 NA.above, .int .i64 NA.maker, .string NA.byte, .bool NA.gone] 67)) hEx26.out)
                have hOx31 := hide (keep_al (y := (.cells #[.int .i64 NA.time, .int .i64 NA.actor, .int .i64 NA.above, .int .i64 NA.maker, .string NA.byte, .bool NA.gone] 67)) hOx26.out)
                have hMx31 : Hid ((x26.alloc (.cells #[.int .i64 NA.time, .int .i64 NA.actor, .int .i64 NA.above, .int .i64 NA.maker, .string NA.byte, .bool NA.gone] 67)).heap[x26.heap.size]? = some (.cells #[.int .i64 NA.time, .int .i64 NA.actor, .int .i64 NA.above, .int .i64 NA.maker, .string NA.byte, .bool NA.gone] 67)) := hide (heap_alloc_new x26 _)
                obtain ⟨x31, hwx31⟩ : ∃ w', x26.alloc (.cells #[.int .i64 NA.time, .int .i64 NA.actor, .int .i64 NA.above, .int .i64 NA.maker, .string NA.byte, .bool NA.gone] 67) = w' := ⟨_, rfl⟩
                rw [hwx31] at hEx31 hMx31 hOx31 hBx31 ⊢
                clear hwx31
                refine wpAnyH_ready (rs := [3]) (by kernel_rfl) (by simp) ?_
                refine AllReadyH.cons (List.getElem?_toArray.trans rfl) (fun K hK => ?_) ?_
                · skip
                  refine step_ams rfl _ _ rfl wc.heap.size (.slice (some ⟨wa.heap.size, 0, none⟩) 0 0) [] a cap l (by simp <;> omega) rfl rfl (own_at hEx31.out (by have := hBx31.out.size; have hz := hBwa.out.size; omega)) (HIN.out _ hBx31.out) hBx31.out.size ?_
                  intro v5 x32 own5 grow5
                  have hBx32 : Hid (Below wc.heap.size wc x32) := hide (grown_from hBx31.out hBx31.out.size (own_at hEx31.out (by have hz := hBwa.out.size; omega)) grow5)
                  have hVx32 : Hid (AmOwn x32 wc.heap.size v5 l) := hide (by rw [List.nil_append] at own5; exact own5)
                  have hMx32 := hide (grown_keep grow5 _ _ hMx31.out (by have h1 := Array.getElem?_eq_some_iff.1 hMx31.out; have h2 := Array.getElem?_eq_some_iff.1 hEx31.out; intro c; have c2 : wa.heap.size = x26.heap.size := Option.some.inj c; have h3 := hEx31.out; rw [c2, hMx31.out] at h3; simp at h3))
                  have hOx32 := hide (keep_seq (own_at (B := 0) hEx31.out (Nat.zero_le _)) grow5 _ _ _ hOx31.out)
                  obtain ⟨ax32, cx32, rfl, -⟩ := own_shp hVx32.out
                  clear own5 grow5
                  refine hK.out _ _ (KS.out _ hBx32.out) (fun _ => ?_)
                  clear hK K
                  try simp only [Act.put, List.setIfInBounds_toArray, List.set_cons_zero, List.set_cons_succ]
                  refine wpAnyH_ready (rs := [6]) (by kernel_rfl) (by simp) ?_
                  refine AllReadyH.cons (List.getElem?_toArray.trans rfl) (fun K hK => ?_) ?_
                  · skip
                    refine step_ams rfl _ _ rfl wc.heap.size (.slice ax32 l.length cx32) l (some ⟨x26.heap.size, 0, none⟩) 1 [NA] (by simp <;> omega) rfl rfl hVx32.out (am_at hMx32.out) hBx32.out.size ?_
                    intro v6 x33 own6 grow6
                    have hBx33 : Hid (Below wc.heap.size wc x33) := hide (grown_from hBx32.out hBx32.out.size hVx32.out grow6)
                    have hVx33 : Hid (AmOwn x33 wc.heap.size v6 (l ++ [NA])) := hide own6
                    have hOx33 := hide (keep_seq hVx32.out grow6 _ _ _ hOx32.out)
                    obtain ⟨ax33, cx33, he6, -⟩ := own_shp hVx33.out
                    rw [show (l ++ [NA]).length = l.length + 1 by simp] at he6
                    subst he6
                    clear own6 grow6
                    refine hK.out _ _ (KS.out _ hBx33.out) (fun _ => ?_)
                    clear hK K
                    try simp only [Act.put, List.setIfInBounds_toArray, List.set_cons_zero, List.set_cons_succ]
                    refine wpAnyH_take (i := 7) (v := .agg #[.slice ax33 (l.length + 1) cx33]) (List.getElem?_toArray.trans rfl) (by kernel_rfl) (by kernel_rfl) (by kernel_rfl) (fun _ _ _ h => h) (Or.inl ⟨by rfl, fun w' hw => by go_simp⟩) (KS.out _ hBx33.out) ?_
                    try simp only [Act.put, List.setIfInBounds_toArray, List.set_cons_zero, List.set_cons_succ]
                    refine wpAnyH_ready (rs := [9]) (by kernel_rfl) (by simp) ?_
                    refine AllReadyH.cons (List.getElem?_toArray.trans rfl) (fun K hK => ?_) ?_
                    · skip
                      have kO := (show CellR x33 (x1.heap.size) _ from hOx33.out).cell
                      have fO := frozen_of_row hOx33.out 0
                      go_simp
                      have PF := hide (And.intro (show wc.heap.size ≤ x1.heap.size from by have hz := hBx1.out.size; exact hz) (put_fin hOx33.out hVx33.out hBx33.out (by have hz := hBx1.out.size; exact hz)))
                      refine hK.out _ _ (KS.out _ PF.out.2.2.2) (fun _ => ?_)
                      clear hK K
                      try simp only [Act.put, List.setIfInBounds_toArray, List.set_cons_zero, List.set_cons_succ]
                      refine wpAnyH_done (by kernel_rfl) (NoPanic.normal ?_) _
                      go_wp2_with fail
                      go_meet
                      case rel => exact ⟨_, _, rfl, hide PF.out⟩
                    exact AllReadyH.nil
                  exact AllReadyH.nil
                exact AllReadyH.nil
              exact AllReadyH.nil
            exact AllReadyH.nil
          refine AllReadyH.cons (List.getElem?_toArray.trans rfl) (fun K hK => ?_) ?_
          · skip
            go_simp
            have hBx35 : Hid (Below wc.heap.size wc (wa.alloc (.cells #[.int .i64 NA.time, .int .i64 NA.actor, .int .i64 NA.above, .int .i64 NA.maker, .string NA.byte, .bool NA.gone] 67))) := hide (hBwa.out.alloc hBwa.out.size _)
            refine hK.out _ _ (KS.out _ hBx35.out) (fun _ => ?_)
            clear hK K
            try simp only [Act.put, List.setIfInBounds_toArray, List.set_cons_zero, List.set_cons_succ]
            have hMx35 : Hid ((wa.alloc (.cells #[.int .i64 NA.time, .int .i64 NA.actor, .int .i64 NA.above, .int .i64 NA.maker, .string NA.byte, .bool NA.gone] 67)).heap[wa.heap.size]? = some (.cells #[.int .i64 NA.time, .int .i64 NA.actor, .int .i64 NA.above, .int .i64 NA.maker, .string NA.byte, .bool NA.gone] 67)) := hide (heap_alloc_new wa _)
            obtain ⟨x35, hwx35⟩ : ∃ w', wa.alloc (.cells #[.int .i64 NA.time, .int .i64 NA.actor, .int .i64 NA.above, .int .i64 NA.maker, .string NA.byte, .bool NA.gone] 67) = w' := ⟨_, rfl⟩
            rw [hwx35] at hMx35 hBx35 ⊢
            clear hwx35
            refine wpAnyH_ready (rs := [0, 8]) (by kernel_rfl) (by simp) ?_
            refine AllReadyH.cons (List.getElem?_toArray.trans rfl) (fun K hK => ?_) ?_
            · skip
              go_simp
              have hBx36 : Hid (Below wc.heap.size wc (x35.alloc (.cells #[] 67))) := hide (hBx35.out.alloc hBx35.out.size _)
              refine hK.out _ _ (KS.out _ hBx36.out) (fun _ => ?_)
              clear hK K
              try simp only [Act.put, List.setIfInBounds_toArray, List.set_cons_zero, List.set_cons_succ]
              have hMx36 := hide (keep_al (y := (.cells #[] 67)) hMx35.out)
              have hEx36 : Hid ((x35.alloc (.cells #[] 67)).heap[x35.heap.size]? = some (.cells #[] 67)) := hide (heap_alloc_new x35 _)
              obtain ⟨x36, hwx36⟩ : ∃ w', x35.alloc (.cells #[] 67) = w' := ⟨_, rfl⟩
              rw [hwx36] at hEx36 hMx36 hBx36 ⊢
              clear hwx36
              refine wpAnyH_ready (rs := [3, 8]) (by kernel_rfl) (by simp) ?_
              refine AllReadyH.cons (List.getElem?_toArray.trans rfl) (fun K hK => ?_) ?_
              · skip
                refine step_ams rfl _ _ rfl wc.heap.size (.slice (some ⟨x35.heap.size, 0, none⟩) 0 0) [] a cap l (by simp <;> omega) rfl rfl (own_at hEx36.out (by have := hBx36.out.size; have hz := hBx35.out.size; omega)) (HIN.out _ hBx36.out) hBx36.out.size ?_
                intro v5 x37 own5 grow5
                have hBx37 : Hid (Below wc.heap.size wc x37) := hide (grown_from hBx36.out hBx36.out.size (own_at hEx36.out (by have hz := hBx35.out.size; omega)) grow5)
                have hVx37 : Hid (AmOwn x37 wc.heap.size v5 l) := hide (by rw [List.nil_append] at own5; exact own5)
                have hMx37 := hide (grown_keep grow5 _ _ hMx36.out (by have h1 := Array.getElem?_eq_some_iff.1 hMx36.out; have h2 := Array.getElem?_eq_some_iff.1 hEx36.out; intro c; have c2 : x35.heap.size = wa.heap.size := Option.some.inj c; have h3 := hEx36.out; rw [c2, hMx36.out] at h3; simp at h3))
                obtain ⟨ax37, cx37, rfl, -⟩ := own_shp hVx37.out
                clear own5 grow5
                refine hK.out _ _ (KS.out _ hBx37.out) (fun _ => ?_)
                clear hK K
                try simp only [Act.put, List.setIfInBounds_toArray, List.set_cons_zero, List.set_cons_succ]
                refine wpAnyH_ready (rs := [6, 8]) (by kernel_rfl) (by simp) ?_
                refine AllReadyH.cons (List.getElem?_toArray.trans rfl) (fun K hK => ?_) ?_
                · skip
                  refine step_ams rfl _ _ rfl wc.heap.size (.slice ax37 l.length cx37) l (some ⟨wa.heap.size, 0, none⟩) 1 [NA] (by simp <;> omega) rfl rfl hVx37.out (am_at hMx37.out) hBx37.out.size ?_
                  intro v6 x38 own6 grow6
                  have hBx38 : Hid (Below wc.heap.size wc x38) := hide (grown_from hBx37.out hBx37.out.size hVx37.out grow6)
                  have hVx38 : Hid (AmOwn x38 wc.heap.size v6 (l ++ [NA])) := hide own6
                  obtain ⟨ax38, cx38, he6, -⟩ := own_shp hVx38.out
                  rw [show (l ++ [NA]).length = l.length + 1 by simp] at he6
                  subst he6
                  clear own6 grow6
                  refine hK.out _ _ (KS.out _ hBx38.out) (fun _ => ?_)
                  clear hK K
                  try simp only [Act.put, List.setIfInBounds_toArray, List.set_cons_zero, List.set_cons_succ]
                  refine wpAnyH_take (i := 7) (v := .agg #[.slice ax38 (l.length + 1) cx38]) (List.getElem?_toArray.trans rfl) (by kernel_rfl) (by kernel_rfl) (by kernel_rfl) (fun _ _ _ h => h) (Or.inl ⟨by rfl, fun w' hw => by go_simp⟩) (KS.out _ hBx38.out) ?_
                  try simp only [Act.put, List.setIfInBounds_toArray, List.set_cons_zero, List.set_cons_succ]
                  refine wpAnyH_ready (rs := [8]) (by kernel_rfl) (by simp) ?_
                  refine AllReadyH.cons (List.getElem?_toArray.trans rfl) (fun K hK => ?_) ?_
                  · skip
                    go_simp
                    have hBx39 : Hid (Below wc.heap.size wc (x38.alloc (.cells #[.slice none 0 0] 25))) := hide (hBx38.out.alloc hBx38.out.size _)
                    refine hK.out _ _ (KS.out _ hBx39.out) (fun _ => ?_)
                    clear hK K
                    try simp only [Act.put, List.setIfInBounds_toArray, List.set_cons_zero, List.set_cons_succ]
                    have hVx39 : Hid (AmOwn (x38.alloc (.cells #[.slice none 0 0] 25)) wc.heap.size (.slice ax38 (l.length + 1) cx38) (l ++ [NA])) := hide (World.ownsRow.alloc hVx38.out _)
                    have hOx39 : Hid ((x38.alloc (.cells #[.slice none 0 0] 25)).heap[x38.heap.size]? = some (.cells #[.slice none 0 0] 25)) := hide (heap_alloc_new x38 _)
                    obtain ⟨x39, hwx39⟩ : ∃ w', x38.alloc (.cells #[.slice none 0 0] 25) = w' := ⟨_, rfl⟩
                    rw [hwx39] at hOx39 hBx39 hVx39 ⊢
                    clear hwx39
                    refine wpAnyH_ready (rs := [9]) (by kernel_rfl) (by simp) ?_
                    refine AllReadyH.cons (List.getElem?_toArray.trans rfl) (fun K hK => ?_) ?_
                    · skip
                      have kO := (show CellR x39 (x38.heap.size) _ from hOx39.out).cell
                      have fO := frozen_of_row hOx39.out 0
                      go_simp
                      have PF := hide (And.intro (show wc.heap.size ≤ x38.heap.size from by have hz := hBx38.out.size; exact hz) (put_fin hOx39.out hVx39.out hBx39.out (by have hz := hBx38.out.size; exact hz)))
                      refine hK.out _ _ (KS.out _ PF.out.2.2.2) (fun _ => ?_)
                      clear hK K
                      try simp only [Act.put, List.setIfInBounds_toArray, List.set_cons_zero, List.set_cons_succ]
                      refine wpAnyH_done (by kernel_rfl) (NoPanic.normal ?_) _
                      go_wp2_with fail
                      go_meet
                      case rel => exact ⟨_, _, rfl, hide PF.out⟩
                    exact AllReadyH.nil
                  exact AllReadyH.nil
                refine AllReadyH.cons (List.getElem?_toArray.trans rfl) (fun K hK => ?_) ?_
                · skip
                  go_simp
                  have hBx41 : Hid (Below wc.heap.size wc (x37.alloc (.cells #[.slice none 0 0] 25))) := hide (hBx37.out.alloc hBx37.out.size _)
                  refine hK.out _ _ (KS.out _ hBx41.out) (fun _ => ?_)
                  clear hK K
                  try simp only [Act.put, List.setIfInBounds_toArray, List.set_cons_zero, List.set_cons_succ]
                  have hMx41 := hide (keep_al (y := (.cells #[.slice none 0 0] 25)) hMx37.out)
                  have hVx41 : Hid (AmOwn (x37.alloc (.cells #[.slice none 0 0] 25)) wc.heap.size (.slice ax37 l.length cx37) l) := hide (World.ownsRow.alloc hVx37.out _)
                  have hOx41 : Hid ((x37.alloc (.cells #[.slice none 0 0] 25)).heap[x37.heap.size]? = some (.cells #[.slice none 0 0] 25)) := hide (heap_alloc_new x37 _)
                  obtain ⟨x41, hwx41⟩ : ∃ w', x37.alloc (.cells #[.slice none 0 0] 25) = w' := ⟨_, rfl⟩
                  rw [hwx41] at hMx41 hOx41 hBx41 hVx41 ⊢
                  clear hwx41
                  refine wpAnyH_ready (rs := [6]) (by kernel_rfl) (by simp) ?_
                  refine AllReadyH.cons (List.getElem?_toArray.trans rfl) (fun K hK => ?_) ?_
                  · skip
                    refine step_ams rfl _ _ rfl wc.heap.size (.slice ax37 l.length cx37) l (some ⟨wa.heap.size, 0, none⟩) 1 [NA] (by simp <;> omega) rfl rfl hVx41.out (am_at hMx41.out) hBx41.out.size ?_
                    intro v6 x42 own6 grow6
                    have hBx42 : Hid (Below wc.heap.size wc x42) := hide (grown_from hBx41.out hBx41.out.size hVx41.out grow6)
                    have hVx42 : Hid (AmOwn x42 wc.heap.size v6 (l ++ [NA])) := hide own6
                    have hOx42 := hide (keep_seq hVx41.out grow6 _ _ _ hOx41.out)
                    obtain ⟨ax42, cx42, he6, -⟩ := own_shp hVx42.out
                    rw [show (l ++ [NA]).length = l.length + 1 by simp] at he6
                    subst he6
                    clear own6 grow6
                    refine hK.out _ _ (KS.out _ hBx42.out) (fun _ => ?_)
                    clear hK K
                    try simp only [Act.put, List.setIfInBounds_toArray, List.set_cons_zero, List.set_cons_succ]
                    refine wpAnyH_take (i := 7) (v := .agg #[.slice ax42 (l.length + 1) cx42]) (List.getElem?_toArray.trans rfl) (by kernel_rfl) (by kernel_rfl) (by kernel_rfl) (fun _ _ _ h => h) (Or.inl ⟨by rfl, fun w' hw => by go_simp⟩) (KS.out _ hBx42.out) ?_
                    try simp only [Act.put, List.setIfInBounds_toArray, List.set_cons_zero, List.set_cons_succ]
                    refine wpAnyH_ready (rs := [9]) (by kernel_rfl) (by simp) ?_
                    refine AllReadyH.cons (List.getElem?_toArray.trans rfl) (fun K hK => ?_) ?_
                    · skip
                      have kO := (show CellR x42 (x37.heap.size) _ from hOx42.out).cell
                      have fO := frozen_of_row hOx42.out 0
                      go_simp
                      have PF := hide (And.intro (show wc.heap.size ≤ x37.heap.size from by have hz := hBx37.out.size; exact hz) (put_fin hOx42.out hVx42.out hBx42.out (by have hz := hBx37.out.size; exact hz)))
                      refine hK.out _ _ (KS.out _ PF.out.2.2.2) (fun _ => ?_)
                      clear hK K
                      try simp only [Act.put, List.setIfInBounds_toArray, List.set_cons_zero, List.set_cons_succ]
                      refine wpAnyH_done (by kernel_rfl) (NoPanic.normal ?_) _
                      go_wp2_with fail
                      go_meet
                      case rel => exact ⟨_, _, rfl, hide PF.out⟩
                    exact AllReadyH.nil
                  exact AllReadyH.nil
                exact AllReadyH.nil
              refine AllReadyH.cons (List.getElem?_toArray.trans rfl) (fun K hK => ?_) ?_
              · skip
                go_simp
                have hBx44 : Hid (Below wc.heap.size wc (x36.alloc (.cells #[.slice none 0 0] 25))) := hide (hBx36.out.alloc hBx36.out.size _)
                refine hK.out _ _ (KS.out _ hBx44.out) (fun _ => ?_)
                clear hK K
                try simp only [Act.put, List.setIfInBounds_toArray, List.set_cons_zero, List.set_cons_succ]
                have hEx44 := hide (keep_al (y := (.cells #[.slice none 0 0] 25)) hEx36.out)
                have hMx44 := hide (keep_al (y := (.cells #[.slice none 0 0] 25)) hMx36.out)
                have hOx44 : Hid ((x36.alloc (.cells #[.slice none 0 0] 25)).heap[x36.heap.size]? = some (.cells #[.slice none 0 0] 25)) := hide (heap_alloc_new x36 _)
                obtain ⟨x44, hwx44⟩ : ∃ w', x36.alloc (.cells #[.slice none 0 0] 25) = w' := ⟨_, rfl⟩
                rw [hwx44] at hEx44 hMx44 hOx44 hBx44 ⊢
                clear hwx44
                refine wpAnyH_ready (rs := [3]) (by kernel_rfl) (by simp) ?_
                refine AllReadyH.cons (List.getElem?_toArray.trans rfl) (fun K hK => ?_) ?_
                · skip
                  refine step_ams rfl _ _ rfl wc.heap.size (.slice (some ⟨x35.heap.size, 0, none⟩) 0 0) [] a cap l (by simp <;> omega) rfl rfl (own_at hEx44.out (by have := hBx44.out.size; have hz := hBx35.out.size; omega)) (HIN.out _ hBx44.out) hBx44.out.size ?_
                  intro v5 x45 own5 grow5
                  have hBx45 : Hid (Below wc.heap.size wc x45) := hide (grown_from hBx44.out hBx44.out.size (own_at hEx44.out (by have hz := hBx35.out.size; omega)) grow5)
                  have hVx45 : Hid (AmOwn x45 wc.heap.size v5 l) := hide (by rw [List.nil_append] at own5; exact own5)
                  have hMx45 := hide (grown_keep grow5 _ _ hMx44.out (by have h1 := Array.getElem?_eq_some_iff.1 hMx44.out; have h2 := Array.getElem?_eq_some_iff.1 hEx44.out; intro c; have c2 : x35.heap.size = wa.heap.size := Option.some.inj c; have h3 := hEx44.out; rw [c2, hMx44.out] at h3; simp at h3))
                  have hOx45 := hide (keep_seq (own_at (B := 0) hEx44.out (Nat.zero_le _)) grow5 _ _ _ hOx44.out)
                  obtain ⟨ax45, cx45, rfl, -⟩ := own_shp hVx45.out
                  clear own5 grow5
                  refine hK.out _ _ (KS.out _ hBx45.out) (fun _ => ?_)
                  clear hK K
                  try simp only [Act.put, List.setIfInBounds_toArray, List.set_cons_zero, List.set_cons_succ]
                  refine wpAnyH_ready (rs := [6]) (by kernel_rfl) (by simp) ?_
                  refine AllReadyH.cons (List.getElem?_toArray.trans rfl) (fun K hK => ?_) ?_
                  · skip
                    refine step_ams rfl _ _ rfl wc.heap.size (.slice ax45 l.length cx45) l (some ⟨wa.heap.size, 0, none⟩) 1 [NA] (by simp <;> omega) rfl rfl hVx45.out (am_at hMx45.out) hBx45.out.size ?_
                    intro v6 x46 own6 grow6
                    have hBx46 : Hid (Below wc.heap.size wc x46) := hide (grown_from hBx45.out hBx45.out.size hVx45.out grow6)
                    have hVx46 : Hid (AmOwn x46 wc.heap.size v6 (l ++ [NA])) := hide own6
                    have hOx46 := hide (keep_seq hVx45.out grow6 _ _ _ hOx45.out)
                    obtain ⟨ax46, cx46, he6, -⟩ := own_shp hVx46.out
                    rw [show (l ++ [NA]).length = l.length + 1 by simp] at he6
                    subst he6
                    clear own6 grow6
                    refine hK.out _ _ (KS.out _ hBx46.out) (fun _ => ?_)
                    clear hK K
                    try simp only [Act.put, List.setIfInBounds_toArray, List.set_cons_zero, List.set_cons_succ]
                    refine wpAnyH_take (i := 7) (v := .agg #[.slice ax46 (l.length + 1) cx46]) (List.getElem?_toArray.trans rfl) (by kernel_rfl) (by kernel_rfl) (by kernel_rfl) (fun _ _ _ h => h) (Or.inl ⟨by rfl, fun w' hw => by go_simp⟩) (KS.out _ hBx46.out) ?_
                    try simp only [Act.put, List.setIfInBounds_toArray, List.set_cons_zero, List.set_cons_succ]
                    refine wpAnyH_ready (rs := [9]) (by kernel_rfl) (by simp) ?_
                    refine AllReadyH.cons (List.getElem?_toArray.trans rfl) (fun K hK => ?_) ?_
                    · skip
                      have kO := (show CellR x46 (x36.heap.size) _ from hOx46.out).cell
                      have fO := frozen_of_row hOx46.out 0
                      go_simp
                      have PF := hide (And.intro (show wc.heap.size ≤ x36.heap.size from by have hz := hBx36.out.size; exact hz) (put_fin hOx46.out hVx46.out hBx46.out (by have hz := hBx36.out.size; exact hz)))
                      refine hK.out _ _ (KS.out _ PF.out.2.2.2) (fun _ => ?_)
                      clear hK K
                      try simp only [Act.put, List.setIfInBounds_toArray, List.set_cons_zero, List.set_cons_succ]
                      refine wpAnyH_done (by kernel_rfl) (NoPanic.normal ?_) _
                      go_wp2_with fail
                      go_meet
                      case rel => exact ⟨_, _, rfl, hide PF.out⟩
                    exact AllReadyH.nil
                  exact AllReadyH.nil
                exact AllReadyH.nil
              exact AllReadyH.nil
            refine AllReadyH.cons (List.getElem?_toArray.trans rfl) (fun K hK => ?_) ?_
            · skip
              go_simp
              have hBx48 : Hid (Below wc.heap.size wc (x35.alloc (.cells #[.slice none 0 0] 25))) := hide (hBx35.out.alloc hBx35.out.size _)
              refine hK.out _ _ (KS.out _ hBx48.out) (fun _ => ?_)
              clear hK K
              try simp only [Act.put, List.setIfInBounds_toArray, List.set_cons_zero, List.set_cons_succ]
              have hMx48 := hide (keep_al (y := (.cells #[.slice none 0 0] 25)) hMx35.out)
              have hOx48 : Hid ((x35.alloc (.cells #[.slice none 0 0] 25)).heap[x35.heap.size]? = some (.cells #[.slice none 0 0] 25)) := hide (heap_alloc_new x35 _)
              obtain ⟨x48, hwx48⟩ : ∃ w', x35.alloc (.cells #[.slice none 0 0] 25) = w' := ⟨_, rfl⟩
              rw [hwx48] at hMx48 hOx48 hBx48 ⊢
              clear hwx48
              refine wpAnyH_ready (rs := [0]) (by kernel_rfl) (by simp) ?_
              refine AllReadyH.cons (List.getElem?_toArray.trans rfl) (fun K hK => ?_) ?_
              · skip
                go_simp
                have hBx49 : Hid (Below wc.heap.size wc (x48.alloc (.cells #[] 67))) := hide (hBx48.out.alloc hBx48.out.size _)
                refine hK.out _ _ (KS.out _ hBx49.out) (fun _ => ?_)
                clear hK K
                try simp only [Act.put, List.setIfInBounds_toArray, List.set_cons_zero, List.set_cons_succ]
                have hMx49 := hide (keep_al (y := (.cells #[] 67)) hMx48.out)
                have hOx49 := hide (keep_al (y := (.cells #[] 67)) hOx48.out)
                have hEx49 : Hid ((x48.alloc (.cells #[] 67)).heap[x48.heap.size]? = some (.cells #[] 67)) := hide (heap_alloc_new x48 _)
                obtain ⟨x49, hwx49⟩ : ∃ w', x48.alloc (.cells #[] 67) = w' := ⟨_, rfl⟩
                rw [hwx49] at hEx49 hMx49 hOx49 hBx49 ⊢
                clear hwx49
                refine wpAnyH_ready (rs := [3]) (by kernel_rfl) (by simp) ?_
                refine AllReadyH.cons (List.getElem?_toArray.trans rfl) (fun K hK => ?_) ?_
                · skip
                  refine step_ams rfl _ _ rfl wc.heap.size (.slice (some ⟨x48.heap.size, 0, none⟩) 0 0) [] a cap l (by simp <;> omega) rfl rfl (own_at hEx49.out (by have := hBx49.out.size; have hz := hBx48.out.size; omega)) (HIN.out _ hBx49.out) hBx49.out.size ?_
                  intro v5 x50 own5 grow5
                  have hBx50 : Hid (Below wc.heap.size wc x50) := hide (grown_from hBx49.out hBx49.out.size (own_at hEx49.out (by have hz := hBx48.out.size; omega)) grow5)
                  have hVx50 : Hid (AmOwn x50 wc.heap.size v5 l) := hide (by rw [List.nil_append] at own5; exact own5)
                  have hMx50 := hide (grown_keep grow5 _ _ hMx49.out (by have h1 := Array.getElem?_eq_some_iff.1 hMx49.out; have h2 := Array.getElem?_eq_some_iff.1 hEx49.out; intro c; have c2 : x48.heap.size = wa.heap.size := Option.some.inj c; have h3 := hEx49.out; rw [c2, hMx49.out] at h3; simp at h3))
                  have hOx50 := hide (keep_seq (own_at (B := 0) hEx49.out (Nat.zero_le _)) grow5 _ _ _ hOx49.out)
                  obtain ⟨ax50, cx50, rfl, -⟩ := own_shp hVx50.out
                  clear own5 grow5
                  refine hK.out _ _ (KS.out _ hBx50.out) (fun _ => ?_)
                  clear hK K
                  try simp only [Act.put, List.setIfInBounds_toArray, List.set_cons_zero, List.set_cons_succ]
                  refine wpAnyH_ready (rs := [6]) (by kernel_rfl) (by simp) ?_
                  refine AllReadyH.cons (List.getElem?_toArray.trans rfl) (fun K hK => ?_) ?_
                  · skip
                    refine step_ams rfl _ _ rfl wc.heap.size (.slice ax50 l.length cx50) l (some ⟨wa.heap.size, 0, none⟩) 1 [NA] (by simp <;> omega) rfl rfl hVx50.out (am_at hMx50.out) hBx50.out.size ?_
                    intro v6 x51 own6 grow6
                    have hBx51 : Hid (Below wc.heap.size wc x51) := hide (grown_from hBx50.out hBx50.out.size hVx50.out grow6)
                    have hVx51 : Hid (AmOwn x51 wc.heap.size v6 (l ++ [NA])) := hide own6
                    have hOx51 := hide (keep_seq hVx50.out grow6 _ _ _ hOx50.out)
                    obtain ⟨ax51, cx51, he6, -⟩ := own_shp hVx51.out
                    rw [show (l ++ [NA]).length = l.length + 1 by simp] at he6
                    subst he6
                    clear own6 grow6
                    refine hK.out _ _ (KS.out _ hBx51.out) (fun _ => ?_)
                    clear hK K
                    try simp only [Act.put, List.setIfInBounds_toArray, List.set_cons_zero, List.set_cons_succ]
                    refine wpAnyH_take (i := 7) (v := .agg #[.slice ax51 (l.length + 1) cx51]) (List.getElem?_toArray.trans rfl) (by kernel_rfl) (by kernel_rfl) (by kernel_rfl) (fun _ _ _ h => h) (Or.inl ⟨by rfl, fun w' hw => by go_simp⟩) (KS.out _ hBx51.out) ?_
                    try simp only [Act.put, List.setIfInBounds_toArray, List.set_cons_zero, List.set_cons_succ]
                    refine wpAnyH_ready (rs := [9]) (by kernel_rfl) (by simp) ?_
                    refine AllReadyH.cons (List.getElem?_toArray.trans rfl) (fun K hK => ?_) ?_
                    · skip
                      have kO := (show CellR x51 (x35.heap.size) _ from hOx51.out).cell
                      have fO := frozen_of_row hOx51.out 0
                      go_simp
                      have PF := hide (And.intro (show wc.heap.size ≤ x35.heap.size from by have hz := hBx35.out.size; exact hz) (put_fin hOx51.out hVx51.out hBx51.out (by have hz := hBx35.out.size; exact hz)))
                      refine hK.out _ _ (KS.out _ PF.out.2.2.2) (fun _ => ?_)
                      clear hK K
                      try simp only [Act.put, List.setIfInBounds_toArray, List.set_cons_zero, List.set_cons_succ]
                      refine wpAnyH_done (by kernel_rfl) (NoPanic.normal ?_) _
                      go_wp2_with fail
                      go_meet
                      case rel => exact ⟨_, _, rfl, hide PF.out⟩
                    exact AllReadyH.nil
                  exact AllReadyH.nil
                exact AllReadyH.nil
              exact AllReadyH.nil
            exact AllReadyH.nil
          refine AllReadyH.cons (List.getElem?_toArray.trans rfl) (fun K hK => ?_) ?_
          · skip
            go_simp
            have hBx53 : Hid (Below wc.heap.size wc (wa.alloc (.cells #[.slice none 0 0] 25))) := hide (hBwa.out.alloc hBwa.out.size _)
            refine hK.out _ _ (KS.out _ hBx53.out) (fun _ => ?_)
            clear hK K
            try simp only [Act.put, List.setIfInBounds_toArray, List.set_cons_zero, List.set_cons_succ]
            have hOx53 : Hid ((wa.alloc (.cells #[.slice none 0 0] 25)).heap[wa.heap.size]? = some (.cells #[.slice none 0 0] 25)) := hide (heap_alloc_new wa _)
            obtain ⟨x53, hwx53⟩ : ∃ w', wa.alloc (.cells #[.slice none 0 0] 25) = w' := ⟨_, rfl⟩
            rw [hwx53] at hOx53 hBx53 ⊢
            clear hwx53
            refine wpAnyH_ready (rs := [0, 5]) (by kernel_rfl) (by simp) ?_
            refine AllReadyH.cons (List.getElem?_toArray.trans rfl) (fun K hK => ?_) ?_
            · skip
              go_simp
              have hBx54 : Hid (Below wc.heap.size wc (x53.alloc (.cells #[] 67))) := hide (hBx53.out.alloc hBx53.out.size _)
              refine hK.out _ _ (KS.out _ hBx54.out) (fun _ => ?_)
              clear hK K
              try simp only [Act.put, List.setIfInBounds_toArray, List.set_cons_zero, List.set_cons_succ]
              have hOx54 := hide (keep_al (y := (.cells #[] 67)) hOx53.out)
              have hEx54 : Hid ((x53.alloc (.cells #[] 67)).heap[x53.heap.size]? = some (.cells #[] 67)) := hide (heap_alloc_new x53 _)
              obtain ⟨x54, hwx54⟩ : ∃ w', x53.alloc (.cells #[] 67) = w' := ⟨_, rfl⟩
              rw [hwx54] at hEx54 hOx54 hBx54 ⊢
              clear hwx54
              refine wpAnyH_ready (rs := [3, 5]) (by kernel_rfl) (by simp) ?_
              refine AllReadyH.cons (List.getElem?_toArray.trans rfl) (fun K hK => ?_) ?_
              · skip
                refine step_ams rfl _ _ rfl wc.heap.size (.slice (some ⟨x53.heap.size, 0, none⟩) 0 0) [] a cap l (by simp <;> omega) rfl rfl (own_at hEx54.out (by have := hBx54.out.size; have hz := hBx53.out.size; omega)) (HIN.out _ hBx54.out) hBx54.out.size ?_
                intro v5 x55 own5 grow5
                have hBx55 : Hid (Below wc.heap.size wc x55) := hide (grown_from hBx54.out hBx54.out.size (own_at hEx54.out (by have hz := hBx53.out.size; omega)) grow5)
                have hVx55 : Hid (AmOwn x55 wc.heap.size v5 l) := hide (by rw [List.nil_append] at own5; exact own5)
                have hOx55 := hide (keep_seq (own_at (B := 0) hEx54.out (Nat.zero_le _)) grow5 _ _ _ hOx54.out)
                obtain ⟨ax55, cx55, rfl, -⟩ := own_shp hVx55.out
                clear own5 grow5
                refine hK.out _ _ (KS.out _ hBx55.out) (fun _ => ?_)
                clear hK K
                try simp only [Act.put, List.setIfInBounds_toArray, List.set_cons_zero, List.set_cons_succ]
                refine wpAnyH_ready (rs := [5]) (by kernel_rfl) (by simp) ?_
                refine AllReadyH.cons (List.getElem?_toArray.trans rfl) (fun K hK => ?_) ?_
                · skip
                  go_simp
                  have hBx56 : Hid (Below wc.heap.size wc (x55.alloc (.cells #[.int .i64 NA.time, .int .i64 NA.actor, .int .i64 NA.above, .int .i64 NA.maker, .string NA.byte, .bool NA.gone] 67))) := hide (hBx55.out.alloc hBx55.out.size _)
                  refine hK.out _ _ (KS.out _ hBx56.out) (fun _ => ?_)
                  clear hK K
                  try simp only [Act.put, List.setIfInBounds_toArray, List.set_cons_zero, List.set_cons_succ]
                  have hOx56 := hide (keep_al (y := (.cells #[.int .i64 NA.time, .int .i64 NA.actor, .int .i64 NA.above, .int .i64 NA.maker, .string NA.byte, .bool NA.gone] 67)) hOx55.out)
                  have hVx56 : Hid (AmOwn (x55.alloc (.cells #[.int .i64 NA.time, .int .i64 NA.actor, .int .i64 NA.above, .int .i64 NA.maker, .string NA.byte, .bool NA.gone] 67)) wc.heap.size (.slice ax55 l.length cx55) l) := hide (World.ownsRow.alloc hVx55.out _)
                  have hMx56 : Hid ((x55.alloc (.cells #[.int .i64 NA.time, .int .i64 NA.actor, .int .i64 NA.above, .int .i64 NA.maker, .string NA.byte, .bool NA.gone] 67)).heap[x55.heap.size]? = some (.cells #[.int .i64 NA.time, .int .i64 NA.actor, .int .i64 NA.above, .int .i64 NA.maker, .string NA.byte, .bool NA.gone] 67)) := hide (heap_alloc_new x55 _)
                  obtain ⟨x56, hwx56⟩ : ∃ w', x55.alloc (.cells #[.int .i64 NA.time, .int .i64 NA.actor, .int .i64 NA.above, .int .i64 NA.maker, .string NA.byte, .bool NA.gone] 67) = w' := ⟨_, rfl⟩
                  rw [hwx56] at hMx56 hOx56 hBx56 hVx56 ⊢
                  clear hwx56
                  refine wpAnyH_ready (rs := [6]) (by kernel_rfl) (by simp) ?_
                  refine AllReadyH.cons (List.getElem?_toArray.trans rfl) (fun K hK => ?_) ?_
                  · skip
                    refine step_ams rfl _ _ rfl wc.heap.size (.slice ax55 l.length cx55) l (some ⟨x55.heap.size, 0, none⟩) 1 [NA] (by simp <;> omega) rfl rfl hVx56.out (am_at hMx56.out) hBx56.out.size ?_
                    intro v6 x57 own6 grow6
                    have hBx57 : Hid (Below wc.heap.size wc x57) := hide (grown_from hBx56.out hBx56.out.size hVx56.out grow6)
                    have hVx57 : Hid (AmOwn x57 wc.heap.size v6 (l ++ [NA])) := hide own6
                    have hOx57 := hide (keep_seq hVx56.out grow6 _ _ _ hOx56.out)
                    obtain ⟨ax57, cx57, he6, -⟩ := own_shp hVx57.out
                    rw [show (l ++ [NA]).length = l.length + 1 by simp] at he6
                    subst he6
                    clear own6 grow6
                    refine hK.out _ _ (KS.out _ hBx57.out) (fun _ => ?_)
                    clear hK K
                    try simp only [Act.put, List.setIfInBounds_toArray, List.set_cons_zero, List.set_cons_succ]
                    refine wpAnyH_take (i := 7) (v := .agg #[.slice ax57 (l.length + 1) cx57]) (List.getElem?_toArray.trans rfl) (by kernel_rfl) (by kernel_rfl) (by kernel_rfl) (fun _ _ _ h => h) (Or.inl ⟨by rfl, fun w' hw => by go_simp⟩) (KS.out _ hBx57.out) ?_
                    try simp only [Act.put, List.setIfInBounds_toArray, List.set_cons_zero, List.set_cons_succ]
                    refine wpAnyH_ready (rs := [9]) (by kernel_rfl) (by simp) ?_
                    refine AllReadyH.cons (List.getElem?_toArray.trans rfl) (fun K hK => ?_) ?_
                    · skip
                      have kO := (show CellR x57 (wa.heap.size) _ from hOx57.out).cell
                      have fO := frozen_of_row hOx57.out 0
                      go_simp
                      have PF := hide (And.intro (show wc.heap.size ≤ wa.heap.size from by have hz := hBwa.out.size; exact hz) (put_fin hOx57.out hVx57.out hBx57.out (by have hz := hBwa.out.size; exact hz)))
                      refine hK.out _ _ (KS.out _ PF.out.2.2.2) (fun _ => ?_)
                      clear hK K
                      try simp only [Act.put, List.setIfInBounds_toArray, List.set_cons_zero, List.set_cons_succ]
                      refine wpAnyH_done (by kernel_rfl) (NoPanic.normal ?_) _
                      go_wp2_with fail
                      go_meet
                      case rel => exact ⟨_, _, rfl, hide PF.out⟩
                    exact AllReadyH.nil
                  exact AllReadyH.nil
                exact AllReadyH.nil
              refine AllReadyH.cons (List.getElem?_toArray.trans rfl) (fun K hK => ?_) ?_
              · skip
                go_simp
                have hBx59 : Hid (Below wc.heap.size wc (x54.alloc (.cells #[.int .i64 NA.time, .int .i64 NA.actor, .int .i64 NA.above, .int .i64 NA.maker, .string NA.byte, .bool NA.gone] 67))) := hide (hBx54.out.alloc hBx54.out.size _)
                refine hK.out _ _ (KS.out _ hBx59.out) (fun _ => ?_)
                clear hK K
                try simp only [Act.put, List.setIfInBounds_toArray, List.set_cons_zero, List.set_cons_succ]
                have hEx59 := hide (keep_al (y := (.cells #[.int .i64 NA.time, .int .i64 NA.actor, .int .i64 NA.above, .int .i64 NA.maker, .string NA.byte, .bool NA.gone] 67)) hEx54.out)
                have hOx59 := hide (keep_al (y := (.cells #[.int .i64 NA.time, .int .i64 NA.actor, .int .i64 NA.above, .int .i64 NA.maker, .string NA.byte, .bool NA.gone] 67)) hOx54.out)
                have hMx59 : Hid ((x54.alloc (.cells #[.int .i64 NA.time, .int .i64 NA.actor, .int .i64 NA.above, .int .i64 NA.maker, .string NA.byte, .bool NA.gone] 67)).heap[x54.heap.size]? = some (.cells #[.int .i64 NA.time, .int .i64 NA.actor, .int .i64 NA.above, .int .i64 NA.maker, .string NA.byte, .bool NA.gone] 67)) := hide (heap_alloc_new x54 _)
                obtain ⟨x59, hwx59⟩ : ∃ w', x54.alloc (.cells #[.int .i64 NA.time, .int .i64 NA.actor, .int .i64 NA.above, .int .i64 NA.maker, .string NA.byte, .bool NA.gone] 67) = w' := ⟨_, rfl⟩
                rw [hwx59] at hEx59 hMx59 hOx59 hBx59 ⊢
                clear hwx59
                refine wpAnyH_ready (rs := [3]) (by kernel_rfl) (by simp) ?_
                refine AllReadyH.cons (List.getElem?_toArray.trans rfl) (fun K hK => ?_) ?_
                · skip
                  refine step_ams rfl _ _ rfl wc.heap.size (.slice (some ⟨x53.heap.size, 0, none⟩) 0 0) [] a cap l (by simp <;> omega) rfl rfl (own_at hEx59.out (by have := hBx59.out.size; have hz := hBx53.out.size; omega)) (HIN.out _ hBx59.out) hBx59.out.size ?_
                  intro v5 x60 own5 grow5
                  have hBx60 : Hid (Below wc.heap.size wc x60) := hide (grown_from hBx59.out hBx59.out.size (own_at hEx59.out (by have hz := hBx53.out.size; omega)) grow5)
                  have hVx60 : Hid (AmOwn x60 wc.heap.size v5 l) := hide (by rw [List.nil_append] at own5; exact own5)
                  have hMx60 := hide (grown_keep grow5 _ _ hMx59.out (by have h1 := Array.getElem?_eq_some_iff.1 hMx59.out; have h2 := Array.getElem?_eq_some_iff.1 hEx59.out; intro c; have c2 : x53.heap.size = x54.heap.size := Option.some.inj c; have h3 := hEx59.out; rw [c2, hMx59.out] at h3; simp at h3))
                  have hOx60 := hide (keep_seq (own_at (B := 0) hEx59.out (Nat.zero_le _)) grow5 _ _ _ hOx59.out)
                  obtain ⟨ax60, cx60, rfl, -⟩ := own_shp hVx60.out
                  clear own5 grow5
                  refine hK.out _ _ (KS.out _ hBx60.out) (fun _ => ?_)
                  clear hK K
                  try simp only [Act.put, List.setIfInBounds_toArray, List.set_cons_zero, List.set_cons_succ]
                  refine wpAnyH_ready (rs := [6]) (by kernel_rfl) (by simp) ?_
                  refine AllReadyH.cons (List.getElem?_toArray.trans rfl) (fun K hK => ?_) ?_
                  · skip
                    refine step_ams rfl _ _ rfl wc.heap.size (.slice ax60 l.length cx60) l (some ⟨x54.heap.size, 0, none⟩) 1 [NA] (by simp <;> omega) rfl rfl hVx60.out (am_at hMx60.out) hBx60.out.size ?_
                    intro v6 x61 own6 grow6
                    have hBx61 : Hid (Below wc.heap.size wc x61) := hide (grown_from hBx60.out hBx60.out.size hVx60.out grow6)
                    have hVx61 : Hid (AmOwn x61 wc.heap.size v6 (l ++ [NA])) := hide own6
                    have hOx61 := hide (keep_seq hVx60.out grow6 _ _ _ hOx60.out)
                    obtain ⟨ax61, cx61, he6, -⟩ := own_shp hVx61.out
                    rw [show (l ++ [NA]).length = l.length + 1 by simp] at he6
                    subst he6
                    clear own6 grow6
                    refine hK.out _ _ (KS.out _ hBx61.out) (fun _ => ?_)
                    clear hK K
                    try simp only [Act.put, List.setIfInBounds_toArray, List.set_cons_zero, List.set_cons_succ]
                    refine wpAnyH_take (i := 7) (v := .agg #[.slice ax61 (l.length + 1) cx61]) (List.getElem?_toArray.trans rfl) (by kernel_rfl) (by kernel_rfl) (by kernel_rfl) (fun _ _ _ h => h) (Or.inl ⟨by rfl, fun w' hw => by go_simp⟩) (KS.out _ hBx61.out) ?_
                    try simp only [Act.put, List.setIfInBounds_toArray, List.set_cons_zero, List.set_cons_succ]
                    refine wpAnyH_ready (rs := [9]) (by kernel_rfl) (by simp) ?_
                    refine AllReadyH.cons (List.getElem?_toArray.trans rfl) (fun K hK => ?_) ?_
                    · skip
                      have kO := (show CellR x61 (wa.heap.size) _ from hOx61.out).cell
                      have fO := frozen_of_row hOx61.out 0
                      go_simp
                      have PF := hide (And.intro (show wc.heap.size ≤ wa.heap.size from by have hz := hBwa.out.size; exact hz) (put_fin hOx61.out hVx61.out hBx61.out (by have hz := hBwa.out.size; exact hz)))
                      refine hK.out _ _ (KS.out _ PF.out.2.2.2) (fun _ => ?_)
                      clear hK K
                      try simp only [Act.put, List.setIfInBounds_toArray, List.set_cons_zero, List.set_cons_succ]
                      refine wpAnyH_done (by kernel_rfl) (NoPanic.normal ?_) _
                      go_wp2_with fail
                      go_meet
                      case rel => exact ⟨_, _, rfl, hide PF.out⟩
                    exact AllReadyH.nil
                  exact AllReadyH.nil
                exact AllReadyH.nil
              exact AllReadyH.nil
            refine AllReadyH.cons (List.getElem?_toArray.trans rfl) (fun K hK => ?_) ?_
            · skip
              go_simp
              have hBx63 : Hid (Below wc.heap.size wc (x53.alloc (.cells #[.int .i64 NA.time, .int .i64 NA.actor, .int .i64 NA.above, .int .i64 NA.maker, .string NA.byte, .bool NA.gone] 67))) := hide (hBx53.out.alloc hBx53.out.size _)
              refine hK.out _ _ (KS.out _ hBx63.out) (fun _ => ?_)
              clear hK K
              try simp only [Act.put, List.setIfInBounds_toArray, List.set_cons_zero, List.set_cons_succ]
              have hOx63 := hide (keep_al (y := (.cells #[.int .i64 NA.time, .int .i64 NA.actor, .int .i64 NA.above, .int .i64 NA.maker, .string NA.byte, .bool NA.gone] 67)) hOx53.out)
              have hMx63 : Hid ((x53.alloc (.cells #[.int .i64 NA.time, .int .i64 NA.actor, .int .i64 NA.above, .int .i64 NA.maker, .string NA.byte, .bool NA.gone] 67)).heap[x53.heap.size]? = some (.cells #[.int .i64 NA.time, .int .i64 NA.actor, .int .i64 NA.above, .int .i64 NA.maker, .string NA.byte, .bool NA.gone] 67)) := hide (heap_alloc_new x53 _)
              obtain ⟨x63, hwx63⟩ : ∃ w', x53.alloc (.cells #[.int .i64 NA.time, .int .i64 NA.actor, .int .i64 NA.above, .int .i64 NA.maker, .string NA.byte, .bool NA.gone] 67) = w' := ⟨_, rfl⟩
              rw [hwx63] at hMx63 hOx63 hBx63 ⊢
              clear hwx63
              refine wpAnyH_ready (rs := [0]) (by kernel_rfl) (by simp) ?_
              refine AllReadyH.cons (List.getElem?_toArray.trans rfl) (fun K hK => ?_) ?_
              · skip
                go_simp
                have hBx64 : Hid (Below wc.heap.size wc (x63.alloc (.cells #[] 67))) := hide (hBx63.out.alloc hBx63.out.size _)
                refine hK.out _ _ (KS.out _ hBx64.out) (fun _ => ?_)
                clear hK K
                try simp only [Act.put, List.setIfInBounds_toArray, List.set_cons_zero, List.set_cons_succ]
                have hMx64 := hide (keep_al (y := (.cells #[] 67)) hMx63.out)
                have hOx64 := hide (keep_al (y := (.cells #[] 67)) hOx63.out)
                have hEx64 : Hid ((x63.alloc (.cells #[] 67)).heap[x63.heap.size]? = some (.cells #[] 67)) := hide (heap_alloc_new x63 _)
                obtain ⟨x64, hwx64⟩ : ∃ w', x63.alloc (.cells #[] 67) = w' := ⟨_, rfl⟩
                rw [hwx64] at hEx64 hMx64 hOx64 hBx64 ⊢
                clear hwx64
                refine wpAnyH_ready (rs := [3]) (by kernel_rfl) (by simp) ?_
                refine AllReadyH.cons (List.getElem?_toArray.trans rfl) (fun K hK => ?_) ?_
                · skip
                  refine step_ams rfl _ _ rfl wc.heap.size (.slice (some ⟨x63.heap.size, 0, none⟩) 0 0) [] a cap l (by simp <;> omega) rfl rfl (own_at hEx64.out (by have := hBx64.out.size; have hz := hBx63.out.size; omega)) (HIN.out _ hBx64.out) hBx64.out.size ?_
                  intro v5 x65 own5 grow5
                  have hBx65 : Hid (Below wc.heap.size wc x65) := hide (grown_from hBx64.out hBx64.out.size (own_at hEx64.out (by have hz := hBx63.out.size; omega)) grow5)
                  have hVx65 : Hid (AmOwn x65 wc.heap.size v5 l) := hide (by rw [List.nil_append] at own5; exact own5)
                  have hMx65 := hide (grown_keep grow5 _ _ hMx64.out (by have h1 := Array.getElem?_eq_some_iff.1 hMx64.out; have h2 := Array.getElem?_eq_some_iff.1 hEx64.out; intro c; have c2 : x63.heap.size = x53.heap.size := Option.some.inj c; have h3 := hEx64.out; rw [c2, hMx64.out] at h3; simp at h3))
                  have hOx65 := hide (keep_seq (own_at (B := 0) hEx64.out (Nat.zero_le _)) grow5 _ _ _ hOx64.out)
                  obtain ⟨ax65, cx65, rfl, -⟩ := own_shp hVx65.out
                  clear own5 grow5
                  refine hK.out _ _ (KS.out _ hBx65.out) (fun _ => ?_)
                  clear hK K
                  try simp only [Act.put, List.setIfInBounds_toArray, List.set_cons_zero, List.set_cons_succ]
                  refine wpAnyH_ready (rs := [6]) (by kernel_rfl) (by simp) ?_
                  refine AllReadyH.cons (List.getElem?_toArray.trans rfl) (fun K hK => ?_) ?_
                  · skip
                    refine step_ams rfl _ _ rfl wc.heap.size (.slice ax65 l.length cx65) l (some ⟨x53.heap.size, 0, none⟩) 1 [NA] (by simp <;> omega) rfl rfl hVx65.out (am_at hMx65.out) hBx65.out.size ?_
                    intro v6 x66 own6 grow6
                    have hBx66 : Hid (Below wc.heap.size wc x66) := hide (grown_from hBx65.out hBx65.out.size hVx65.out grow6)
                    have hVx66 : Hid (AmOwn x66 wc.heap.size v6 (l ++ [NA])) := hide own6
                    have hOx66 := hide (keep_seq hVx65.out grow6 _ _ _ hOx65.out)
                    obtain ⟨ax66, cx66, he6, -⟩ := own_shp hVx66.out
                    rw [show (l ++ [NA]).length = l.length + 1 by simp] at he6
                    subst he6
                    clear own6 grow6
                    refine hK.out _ _ (KS.out _ hBx66.out) (fun _ => ?_)
                    clear hK K
                    try simp only [Act.put, List.setIfInBounds_toArray, List.set_cons_zero, List.set_cons_succ]
                    refine wpAnyH_take (i := 7) (v := .agg #[.slice ax66 (l.length + 1) cx66]) (List.getElem?_toArray.trans rfl) (by kernel_rfl) (by kernel_rfl) (by kernel_rfl) (fun _ _ _ h => h) (Or.inl ⟨by rfl, fun w' hw => by go_simp⟩) (KS.out _ hBx66.out) ?_
                    try simp only [Act.put, List.setIfInBounds_toArray, List.set_cons_zero, List.set_cons_succ]
                    refine wpAnyH_ready (rs := [9]) (by kernel_rfl) (by simp) ?_
                    refine AllReadyH.cons (List.getElem?_toArray.trans rfl) (fun K hK => ?_) ?_
                    · skip
                      have kO := (show CellR x66 (wa.heap.size) _ from hOx66.out).cell
                      have fO := frozen_of_row hOx66.out 0
                      go_simp
                      have PF := hide (And.intro (show wc.heap.size ≤ wa.heap.size from by have hz := hBwa.out.size; exact hz) (put_fin hOx66.out hVx66.out hBx66.out (by have hz := hBwa.out.size; exact hz)))
                      refine hK.out _ _ (KS.out _ PF.out.2.2.2) (fun _ => ?_)
                      clear hK K
                      try simp only [Act.put, List.setIfInBounds_toArray, List.set_cons_zero, List.set_cons_succ]
                      refine wpAnyH_done (by kernel_rfl) (NoPanic.normal ?_) _
                      go_wp2_with fail
                      go_meet
                      case rel => exact ⟨_, _, rfl, hide PF.out⟩
                    exact AllReadyH.nil
                  exact AllReadyH.nil
                exact AllReadyH.nil
              exact AllReadyH.nil
            exact AllReadyH.nil
          exact AllReadyH.nil
        case rest =>
        obtain ⟨x, v, rfl, HF⟩ := hcut
        have HKf := hide (HUr.out.ans.later HF.out.2.2.2)
        have HBf := hide (HUr.out.bel.trans (HF.out.2.2.2.mono HUr.out.bel.size))
        have hRl := HUr.out.ans.lt
        have hwl := HUr.out.bel.size
        have HXf := hide HF.out.2.1
        have HOf := hide HF.out.2.2.1
        obtain ⟨av, cv, rfl, hsin⟩ := SIn.more HF.out.2.2.1 (by omega) HTX.out HNb.out
        have G := hide (goodSeqS hsin)
        have HLN : Hid ((l ++ [NA]).length = l.length + 1) := hide (by simp)
        rw [HLN.out] at G HXf HOf
        have k1 := HXf.out.cell
        clear HF KS HIN HUr hsin
        go_wp2_with fail
        refine G.out.mono ?_
        rintro e we ⟨rfl, hbe⟩
        have HKe := hide (HKf.out.later hbe)
        have HXe := hide (HXf.out.later hbe)
        have HBe := hide (HBf.out.trans (hbe.mono HBf.out.size))
        have HOe := hide (own_below HOf.out hbe)
        have k2 := HXe.out.cell
        have k3 := HKe.out.cell
        have f3 := HKe.out.fz
        clear hbe k1 G
        cases hg : goodQ (l ++ [NA]) with
        | false =>
          have HS : Hid (sqR (l ++ [NA]) = []) := hide (by unfold sqR; rw [if_neg (by rw [hg]; simp)])
          rw [hg, HS.out] at HRD
          clear hg
          go_wp2
          refine bodyPost_ret (results_cell_tmp rfl _ _ (w.heap.size + 1) 25 _ (0, 0) _ (.bool false) rfl rfl (HKe.out.put _) Tryd.underlying25 rfl sizeSeqI) rfl ?_
          rw [HRD.out.1, HRD.out.2]
          exact ⟨_, rfl, World.ownsRow_nil _ _ _ _, HBe.out.setCell (p := ⟨w.heap.size + 1, 0, none⟩) (Nat.le_succ _) _⟩
        | true =>
          have HS : Hid (sqR (l ++ [NA]) = l ++ [NA]) := hide (by unfold sqR; rw [if_pos hg])
          rw [hg, HS.out] at HRD
          clear hg
          go_wp2
          refine bodyPost_ret (results_cell_tmp rfl _ _ (w.heap.size + 1) 25 _ (0, 0) _ (.bool true) rfl rfl (HKe.out.put _) Tryd.underlying25 rfl sizeSeqI) rfl ?_
          rw [HRD.out.1, HRD.out.2]
          refine ⟨_, rfl, AmOwn.mono (own_aside HOe.out (by omega) _ _) (by omega), HBe.out.setCell (p := ⟨w.heap.size + 1, 0, none⟩) (Nat.le_succ _) _⟩
      · have J3 : Hid (∀ w', Calls Tryd.prog 48 #[.int .i64 p, .int .i64 0, .int .i64 (o.length : Int)] w' fun e w'' => e = .returned (.bool false) ∧ w'' = w') := hide (fun w' => by have := J2.out w'; rwa [decide_eq_false hin] at this)
        have HRD := hide (HNO.out hin)
        clear HNO HYE hin J2
        go_wp2_with (go_at_call 48; refine (J3.out _).mono ?_; rintro e w' ⟨rfl, hw⟩; replace hw := hw.symm; subst hw)
        refine bodyPost_ret (results_cell_tmp rfl _ _ (w.heap.size + 1) 25 _ (0, 0) _ (.bool false) rfl rfl (HK3.out.put _) Tryd.underlying25 rfl sizeSeqI) rfl ?_
        rw [HRD.out.1, HRD.out.2]
        exact ⟨_, rfl, World.ownsRow_nil _ _ _ _, HB3.out.setCell (p := ⟨w.heap.size + 1, 0, none⟩) (Nat.le_succ _) _⟩
    · have J1 : Hid (∀ w', Calls Tryd.prog 48 #[.int .i64 ac, .int .i64 0, .int .i64 9] w' fun e w'' => e = .returned (.bool false) ∧ w'' = w') := hide (fun w' => by have := l1In_any ac 0 9 w'; rwa [decide_eq_false hac] at this)
      have HRD := hide (HN3.out hac)
      clear J hac HN3 HNO HYE
      go_wp2_with (go_at_call 48; refine (J1.out _).mono ?_; rintro e w' ⟨rfl, hw⟩; replace hw := hw.symm; subst hw)
      refine bodyPost_ret (results_cell_tmp rfl _ _ (w.heap.size + 1) 25 _ (0, 0) _ (.bool false) rfl rfl (HK2.out.put _) Tryd.underlying25 rfl sizeSeqI) rfl ?_
      rw [HRD.out.1, HRD.out.2]
      exact ⟨_, rfl, World.ownsRow_nil _ _ _ _, HB2.out.setCell (p := ⟨w.heap.size + 1, 0, none⟩) (Nat.le_succ _) _⟩
end Go.Proofs.YtnhooalibadeeaaDoor

set_option linter.unusedVariables false
namespace Go.Proofs.YtnhooalibadeeaaDoor
open Go.RowKit
open Doc1

set_option maxRecDepth 100000 in
set_option maxHeartbeats 8000000 in
theorem law_putAtom (vl : Value) (l : List Am) (ac : Int) (p : Int) (b : ByteArray) (w : World) (hal : ArgAm w vl l) (hrl : ∀ i (hi : i < l.length), l[i].byte.size ≤ 9223372036854775807) (hmb : b.size ≤ maxLen) (hT : Tab w) :
    Calls Tryd.prog 7 #[.agg #[vl], .int .i64 ac, .int .i64 p, .string b] w fun e w' => e = .returned (.bool true) ∧ Below w.heap.size w w' := by
  unfold maxLen at hmb
  obtain ⟨al, cl, ml, rfl⟩ := arg_shape hal
  by_cases fsb : b.size ≤ 1048576
  · skip
    by_cases fsl : szAmn l ≤ 1048576
    · skip
      have hll : l.length ≤ 1048576 := by have q0 := fsl; unfold szAmn at q0; omega
      have htl : ∀ i (hi : i < l.length), l[i].byte.size ≤ 1048576 := fun i hi => Nat.le_trans (szAmn_txt l i hi) (by omega)
      have HAl := hide hal
      have SZl := hide (fun w' (h : ArgAm w' (.slice al ml cl) l) => szSeq_from h hrl (1048576) (by omega))
      rw [if_pos fsl] at SZl
      have TCl := hide (fun w' (h : ArgAm w' (.slice al ml cl) l) => toSeq_cp h (by omega))
      obtain ⟨Kl, hKl⟩ : ∃ K : Nat, 1048576 - szAmn l = K := ⟨_, rfl⟩
      rw [hKl] at SZl
      have e0l : decide ((Kl : Int) < 0) = false := by rw [decide_eq_false_iff_not]; omega
      have HTXl := hide htl
      clear hal hrl htl hKl fsl
      have HTb := hide hT
      have hB := hide (Below.refl w.heap.size w)
      clear hT
      have HS := hide (fun w' {g : Option Addr} {c : Nat} (h : SIn w' g c l) => putAtomS h ac p b fsb)
      have HI := hide (fun w' {g : Option Addr} {c : Nat} (h : SIn w' g c l) hT => putAtomI h hT ac p b fsb)
      obtain ⟨R0, hR0⟩ : ∃ R, ptL l ac p b = R := ⟨_, rfl⟩
      obtain ⟨R1, hR1⟩ : ∃ R, ptB l ac p b = R := ⟨_, rfl⟩
      simp only [hR0, hR1] at HS HI
      have hlr0 : R0.length ≤ 1000000 := by rw [← hR0]; exact (Nat.le_trans (ptL_len l ac p b) (by omega))
      clear hR0 hR1
      go_enter Tryd.func7, Tryd.ntmps7
      obtain ⟨w1, hw2⟩ : ∃ wq0, wq0 = w.alloc (.cells #[.slice al ml cl] 49) := ⟨_, rfl⟩
      have hb3 : Below w.heap.size w w1 := by rw [hw2]; exact (Below.refl _ _).alloc (Nat.le_refl _) _
      have e4 : Hid (w1.heap.size = w.heap.size + 1) := hide (by rw [hw2]; simp)
      have X5 : Hid (CellT 49 w1 w.heap.size (.slice al ml cl)) := hide (by rw [hw2]; exact CellT.new _ _ _)
      have z6 := hide hb3.size
      replace hB := hide (hB.out.trans (hb3.mono hB.out.size))
      clear hb3
      have SZ9 := hide (SZl.out w1 (HAl.out.later hB.out))
      go_wp2_with fail
      rw [← hw2]
      clear hw2
      refine (SZ9.out).mono ?_
      rintro e w7 ⟨rfl, hb8⟩
      clear SZ9
      replace X5 := hide (X5.out.later hb8)
      have z10 := hide hb8.size
      replace hB := hide (hB.out.trans (hb8.mono hB.out.size))
      clear hb8
      have T16 := hide (TCl.out w7 (HAl.out.later hB.out))
      have k17 := X5.out.cell
      go_wp2_with fail
      refine (T16.out).mono ?_
      rintro e w11 ⟨g13, rfl, hg14, C15, hb12⟩
      clear T16 k17
      have I18 : Hid (w7.heap.size ≤ g13 ∧ g13 < w11.heap.size) := hide ⟨hg14, C15.lt⟩
      have P19 := hide C15
      clear C15 hg14
      replace X5 := hide (X5.out.later hb12)
      have z20 := hide hb12.size
      replace hB := hide (hB.out.trans (hb12.mono hB.out.size))
      clear hb12
      have H23 := hide (HS.out w11 ⟨P19.out.inn2 (by omega), hll, HTXl.out⟩)
      go_wp2_with fail
      refine (H23.out).mono ?_
      rintro e w21 ⟨x0, rfl, ox0, hb22⟩
      clear H23
      obtain ⟨ax0, cx0, rfl, -⟩ := own_shp ox0
      have Lx0 : Hid (∀ y, (Value.slice ax0 R0.length cx0).ownBlock = some y → w11.heap.size ≤ y ∧ y < w21.heap.size) := hide (fun y hy => World.ownsRow.lt ox0 y hy)
      have Ox0 := hide ox0
      clear ox0
      replace X5 := hide (X5.out.later hb22)
      replace P19 := hide (P19.out.later hb22)
      have z24 := hide hb22.size
      replace hB := hide (hB.out.trans (hb22.mono hB.out.size))
      clear hb22
      obtain ⟨w25, hw26⟩ : ∃ wq0, wq0 = w21.alloc (.cells #[.slice ax0 R0.length cx0] 25) := ⟨_, rfl⟩
      have hb27 : Below w21.heap.size w21 w25 := by rw [hw26]; exact (Below.refl _ _).alloc (Nat.le_refl _) _
      have e28 : Hid (w25.heap.size = w21.heap.size + 1) := hide (by rw [hw26]; simp)
      have X29 : Hid (CellT 25 w25 w21.heap.size (.slice ax0 R0.length cx0)) := hide (by rw [hw26]; exact CellT.new _ _ _)
      replace X5 := hide (X5.out.later hb27)
      replace P19 := hide (P19.out.later hb27)
      replace Ox0 := hide (own_below Ox0.out hb27)
      have z30 := hide hb27.size
      replace hB := hide (hB.out.trans (hb27.mono hB.out.size))
      clear hb27
      clear P19
      have T36 := hide (TCl.out w25 (HAl.out.later hB.out))
      have k37 := X5.out.cell
      rw [hw26] at k37
      go_wp2_with fail
      rw [← hw26]
      clear hw26
      refine (T36.out).mono ?_
      rintro e w31 ⟨g33, rfl, hg34, C35, hb32⟩
      clear T36 k37
      have I38 : Hid (w25.heap.size ≤ g33 ∧ g33 < w31.heap.size) := hide ⟨hg34, C35.lt⟩
      have P39 := hide C35
      clear C35 hg34
      replace X5 := hide (X5.out.later hb32)
      replace X29 := hide (X29.out.later hb32)
      replace Ox0 := hide (own_below Ox0.out hb32)
      have z40 := hide hb32.size
      replace hB := hide (hB.out.trans (hb32.mono hB.out.size))
      clear hb32
      obtain ⟨w41, hw42⟩ : ∃ wq0, wq0 = w31.alloc (.cells #[.slice (some ⟨g33, 0, none⟩) l.length l.length] 25) := ⟨_, rfl⟩
      have hb43 : Below w31.heap.size w31 w41 := by rw [hw42]; exact (Below.refl _ _).alloc (Nat.le_refl _) _
      have e44 : Hid (w41.heap.size = w31.heap.size + 1) := hide (by rw [hw42]; simp)
      have X45 : Hid (CellT 25 w41 w31.heap.size (.slice (some ⟨g33, 0, none⟩) l.length l.length)) := hide (by rw [hw42]; exact CellT.new _ _ _)
      replace X5 := hide (X5.out.later hb43)
      replace X29 := hide (X29.out.later hb43)
      replace P39 := hide (P39.out.later hb43)
      replace Ox0 := hide (own_below Ox0.out hb43)
      have z46 := hide hb43.size
      replace hB := hide (hB.out.trans (hb43.mono hB.out.size))
      clear hb43
      have k47 := X45.out.cell
      rw [hw42] at k47
      have H50 := hide (HI.out w41 ⟨P39.out.inn2 (by omega), hll, HTXl.out⟩ (HTb.out.below hB.out))
      go_wp2_with fail
      rw [← hw42]
      clear hw42
      refine (H50.out).mono ?_
      rintro e w48 ⟨y0, rfl, oy0, hb49⟩
      clear H50
      obtain ⟨ay0, cy0, rfl, -⟩ := own_shp oy0
      have Ly0 : Hid (∀ y, (Value.slice ay0 R0.length cy0).ownBlock = some y → w41.heap.size ≤ y ∧ y < w48.heap.size) := hide (fun y hy => World.ownsRow.lt oy0 y hy)
      have Oy0 := hide oy0
      clear oy0
      replace X5 := hide (X5.out.later hb49)
      replace X29 := hide (X29.out.later hb49)
      replace X45 := hide (X45.out.later hb49)
      replace P39 := hide (P39.out.later hb49)
      replace Ox0 := hide (own_below Ox0.out hb49)
      have z51 := hide hb49.size
      replace hB := hide (hB.out.trans (hb49.mono hB.out.size))
      clear hb49
      obtain ⟨w52, hw53⟩ : ∃ wq0, wq0 = w48.alloc (.cells #[.slice ay0 R0.length cy0] 25) := ⟨_, rfl⟩
      have hb54 : Below w48.heap.size w48 w52 := by rw [hw53]; exact (Below.refl _ _).alloc (Nat.le_refl _) _
      have e55 : Hid (w52.heap.size = w48.heap.size + 1) := hide (by rw [hw53]; simp)
      have X56 : Hid (CellT 25 w52 w48.heap.size (.slice ay0 R0.length cy0)) := hide (by rw [hw53]; exact CellT.new _ _ _)
      replace X5 := hide (X5.out.later hb54)
      replace X29 := hide (X29.out.later hb54)
      replace X45 := hide (X45.out.later hb54)
      replace P39 := hide (P39.out.later hb54)
      replace Ox0 := hide (own_below Ox0.out hb54)
      replace Oy0 := hide (own_below Oy0.out hb54)
      have z57 := hide hb54.size
      replace hB := hide (hB.out.trans (hb54.mono hB.out.size))
      clear hb54
      clear k47
      have k61 := X56.out.cell
      rw [hw53] at k61
      have k62 := X29.out.cell
      rw [hw53] at k62
      have E60 := hide (eqSeq_own Oy0.out Ox0.out (by omega))
      go_wp2_with fail
      rw [← hw53]
      clear hw53
      refine (E60.out).mono ?_
      rintro e w58 ⟨rfl, hb59⟩
      clear E60 k61 k62
      replace X5 := hide (X5.out.later hb59)
      replace X29 := hide (X29.out.later hb59)
      replace X45 := hide (X45.out.later hb59)
      replace X56 := hide (X56.out.later hb59)
      replace P39 := hide (P39.out.later hb59)
      replace Ox0 := hide (own_below Ox0.out hb59)
      replace Oy0 := hide (own_below Oy0.out hb59)
      have z63 := hide hb59.size
      replace hB := hide (hB.out.trans (hb59.mono hB.out.size))
      clear hb59
      have KC64 : Hid (∀ w', Below w58.heap.size w58 w' → w'.cell? ⟨w31.heap.size, 0, none⟩ = some (.slice (some ⟨g33, 0, none⟩) l.length l.length) ∧ w'.cell? ⟨w.heap.size, 0, none⟩ = some (.slice al ml cl)) := hide (fun w' hb => ⟨(X45.out.later hb).cell, (X5.out.later hb).cell⟩)
      have CT65 := hide (fun w' (hb : Below w58.heap.size w58 w') => TCl.out w' (HAl.out.later (hB.out.trans (hb.mono hB.out.size))))
      have CX66 := hide (fun w' (hb : Below w58.heap.size w58 w') => P39.out.later hb)
      go_wp2_with fail
      go_region_held3 (fun w' => w'.cell? ⟨w31.heap.size, 0, none⟩ = some (.slice (some ⟨g33, 0, none⟩) l.length l.length) ∧ w'.cell? ⟨w.heap.size, 0, none⟩ = some (.slice al ml cl))
        (first | assumption | exact KC64.out _ (Below.refl _ _) | exact KC64.out _ (Below.refl _ _).drew | exact KC64.out _ hbq2 | exact KC64.out _ hbq1)
        (first
          | (go_at_call 28; refine (eqSeq_cp (CX66.out wq1 hbq1) cpq.out (by omega)).mono ?_; rintro e wq2 ⟨rfl, hq2⟩; have hbq2 : Below w58.heap.size w58 wq2 := hbq1.trans (hq2.mono hbq1.size); clear hq2)
          | (go_at_call 26; refine (CT65.out _ (Below.refl _ _).drew).mono ?_; rintro e wq1 ⟨gq, rfl, hgq, cpq0, hq1⟩; have cpq := hide cpq0; have hbq1 : Below w58.heap.size w58 wq1 := (Below.refl _ _).drew.trans hq1; clear hq1 cpq0))
      clear cpq hbq1 KC64 CT65 CX66 hgq
      replace X5 := hide (X5.out.later hbq2)
      replace X29 := hide (X29.out.later hbq2)
      replace X45 := hide (X45.out.later hbq2)
      replace X56 := hide (X56.out.later hbq2)
      replace P39 := hide (P39.out.later hbq2)
      replace Ox0 := hide (own_below Ox0.out hbq2)
      replace Oy0 := hide (own_below Oy0.out hbq2)
      have z67 := hide hbq2.size
      replace hB := hide (hB.out.trans (hbq2.mono hB.out.size))
      clear hbq2
      have k71 := X45.out.cell
      have M70 := hide (markSeq_on P39.out (by omega) 1 (by omega))
      have ek0 : decide (((1 + l.length * 6 : Nat) : Int) < 0) = false := by rw [decide_eq_false_iff_not]; omega
      obtain ⟨KK0, hKK0⟩ : ∃ KK : Nat, 1 + l.length * 6 = KK := ⟨_, rfl⟩
      rw [hKK0] at M70 ek0
      have hKb0 : 0 < KK0 ∧ KK0 ≤ 20000000 := by omega
      clear hKK0
      go_wp2_with fail
      refine (M70.out).mono ?_
      rintro e w68 ⟨rfl, hg69⟩
      clear M70 k71
      clear P39
      replace X5 := hide (X5.out.grown hg69 (fun e => by have u0 := Option.some.inj e; have ui := I38.out; have q0 := z6.out; have q1 := e4.out; have q2 := z10.out; have q3 := z20.out; have q4 := z24.out; have q5 := z30.out; have q6 := e28.out; have q7 := z40.out; have q8 := z46.out; have q9 := e44.out; have q10 := z51.out; have q11 := z57.out; have q12 := e55.out; have q13 := z63.out; have q14 := z67.out; omega))
      replace X29 := hide (X29.out.grown hg69 (fun e => by have u0 := Option.some.inj e; have ui := I38.out; have q0 := z6.out; have q1 := e4.out; have q2 := z10.out; have q3 := z20.out; have q4 := z24.out; have q5 := z30.out; have q6 := e28.out; have q7 := z40.out; have q8 := z46.out; have q9 := e44.out; have q10 := z51.out; have q11 := z57.out; have q12 := e55.out; have q13 := z63.out; have q14 := z67.out; omega))
      replace X45 := hide (X45.out.grown hg69 (fun e => by have u0 := Option.some.inj e; have ui := I38.out; have q0 := z6.out; have q1 := e4.out; have q2 := z10.out; have q3 := z20.out; have q4 := z24.out; have q5 := z30.out; have q6 := e28.out; have q7 := z40.out; have q8 := z46.out; have q9 := e44.out; have q10 := z51.out; have q11 := z57.out; have q12 := e55.out; have q13 := z63.out; have q14 := z67.out; omega))
      replace X56 := hide (X56.out.grown hg69 (fun e => by have u0 := Option.some.inj e; have ui := I38.out; have q0 := z6.out; have q1 := e4.out; have q2 := z10.out; have q3 := z20.out; have q4 := z24.out; have q5 := z30.out; have q6 := e28.out; have q7 := z40.out; have q8 := z46.out; have q9 := e44.out; have q10 := z51.out; have q11 := z57.out; have q12 := e55.out; have q13 := z63.out; have q14 := z67.out; omega))
      replace Ox0 := hide (own_grown Ox0.out hg69 (fun y hy e => by have u0 := Option.some.inj e; have ui := I38.out; have u2 := Lx0.out y hy; have q0 := z6.out; have q1 := e4.out; have q2 := z10.out; have q3 := z20.out; have q4 := z24.out; have q5 := z30.out; have q6 := e28.out; have q7 := z40.out; have q8 := z46.out; have q9 := e44.out; have q10 := z51.out; have q11 := z57.out; have q12 := e55.out; have q13 := z63.out; have q14 := z67.out; omega))
      replace Oy0 := hide (own_grown Oy0.out hg69 (fun y hy e => by have u0 := Option.some.inj e; have ui := I38.out; have u2 := Ly0.out y hy; have q0 := z6.out; have q1 := e4.out; have q2 := z10.out; have q3 := z20.out; have q4 := z24.out; have q5 := z30.out; have q6 := e28.out; have q7 := z40.out; have q8 := z46.out; have q9 := e44.out; have q10 := z51.out; have q11 := z57.out; have q12 := e55.out; have q13 := z63.out; have q14 := z67.out; omega))
      have z72 := hide hg69.size
      replace hB := hide (hB.out.grown hg69 hB.out.size (fun y e => by have u0 := Option.some.inj e; have ui := I38.out; have q0 := z6.out; have q1 := e4.out; have q2 := z10.out; have q3 := z20.out; have q4 := z24.out; have q5 := z30.out; have q6 := e28.out; have q7 := z40.out; have q8 := z46.out; have q9 := e44.out; have q10 := z51.out; have q11 := z57.out; have q12 := e55.out; have q13 := z63.out; have q14 := z67.out; omega))
      clear hg69
      have k76 := X56.out.cell
      have k77 := X29.out.cell
      have E75 := hide (eqSeq_own Oy0.out Ox0.out (by omega))
      go_wp2_with fail
      refine (E75.out).mono ?_
      rintro e w73 ⟨rfl, hb74⟩
      clear E75 k76 k77
      replace X5 := hide (X5.out.later hb74)
      replace X29 := hide (X29.out.later hb74)
      replace X45 := hide (X45.out.later hb74)
      replace X56 := hide (X56.out.later hb74)
      replace Ox0 := hide (own_below Ox0.out hb74)
      replace Oy0 := hide (own_below Oy0.out hb74)
      have z78 := hide hb74.size
      replace hB := hide (hB.out.trans (hb74.mono hB.out.size))
      clear hb74
      have k83 := X56.out.cell
      have M81 := hide (markSeq_own Oy0.out (by omega) 1 (by omega))
      have em0 : decide (((1 + R0.length * 6 : Nat) : Int) < 0) = false := by rw [decide_eq_false_iff_not]; omega
      obtain ⟨KM, hKM⟩ : ∃ KM : Int, ((1 + R0.length * 6 : Nat) : Int) = KM := ⟨_, rfl⟩
      rw [hKM] at em0 M81
      have HKM := hide hKM
      clear hKM
      have em1 : (KM != KM) = false := by simp
      go_wp2_with fail
      refine (M81.out).mono ?_
      rintro e w79 ⟨rfl, hg80, mk82⟩
      clear M81 k83
      clear Oy0
      replace X5 := hide (X5.out.grown hg80 (fun e => by have u0 := Ly0.out _ e; have q0 := z6.out; have q1 := e4.out; have q2 := z10.out; have q3 := z20.out; have q4 := z24.out; have q5 := z30.out; have q6 := e28.out; have q7 := z40.out; have q8 := z46.out; have q9 := e44.out; have q10 := z51.out; have q11 := z57.out; have q12 := e55.out; have q13 := z63.out; have q14 := z67.out; have q15 := z72.out; have q16 := z78.out; omega))
      replace X29 := hide (X29.out.grown hg80 (fun e => by have u0 := Ly0.out _ e; have q0 := z6.out; have q1 := e4.out; have q2 := z10.out; have q3 := z20.out; have q4 := z24.out; have q5 := z30.out; have q6 := e28.out; have q7 := z40.out; have q8 := z46.out; have q9 := e44.out; have q10 := z51.out; have q11 := z57.out; have q12 := e55.out; have q13 := z63.out; have q14 := z67.out; have q15 := z72.out; have q16 := z78.out; omega))
      replace X45 := hide (X45.out.grown hg80 (fun e => by have u0 := Ly0.out _ e; have q0 := z6.out; have q1 := e4.out; have q2 := z10.out; have q3 := z20.out; have q4 := z24.out; have q5 := z30.out; have q6 := e28.out; have q7 := z40.out; have q8 := z46.out; have q9 := e44.out; have q10 := z51.out; have q11 := z57.out; have q12 := e55.out; have q13 := z63.out; have q14 := z67.out; have q15 := z72.out; have q16 := z78.out; omega))
      replace X56 := hide (X56.out.grown hg80 (fun e => by have u0 := Ly0.out _ e; have q0 := z6.out; have q1 := e4.out; have q2 := z10.out; have q3 := z20.out; have q4 := z24.out; have q5 := z30.out; have q6 := e28.out; have q7 := z40.out; have q8 := z46.out; have q9 := e44.out; have q10 := z51.out; have q11 := z57.out; have q12 := e55.out; have q13 := z63.out; have q14 := z67.out; have q15 := z72.out; have q16 := z78.out; omega))
      replace Ox0 := hide (own_grown Ox0.out hg80 (fun y hy e => by have u0 := Ly0.out _ e; have u2 := Lx0.out y hy; have q0 := z6.out; have q1 := e4.out; have q2 := z10.out; have q3 := z20.out; have q4 := z24.out; have q5 := z30.out; have q6 := e28.out; have q7 := z40.out; have q8 := z46.out; have q9 := e44.out; have q10 := z51.out; have q11 := z57.out; have q12 := e55.out; have q13 := z63.out; have q14 := z67.out; have q15 := z72.out; have q16 := z78.out; omega))
      have z84 := hide hg80.size
      replace hB := hide (hB.out.grown hg80 hB.out.size (fun y e => by have u0 := Ly0.out _ e; have q0 := z6.out; have q1 := e4.out; have q2 := z10.out; have q3 := z20.out; have q4 := z24.out; have q5 := z30.out; have q6 := e28.out; have q7 := z40.out; have q8 := z46.out; have q9 := e44.out; have q10 := z51.out; have q11 := z57.out; have q12 := e55.out; have q13 := z63.out; have q14 := z67.out; have q15 := z72.out; have q16 := z78.out; omega))
      clear hg80
      have Y85 := hide mk82
      clear mk82
      have k89 := X56.out.cell
      have D88 := hide (heldSeq_of Y85.out (by omega) (by omega))
      rw [HKM.out] at D88
      go_wp2_with fail
      refine (D88.out).mono ?_
      rintro e w86 ⟨rfl, hb87⟩
      clear D88 k89
      replace X5 := hide (X5.out.later hb87)
      replace X29 := hide (X29.out.later hb87)
      replace X45 := hide (X45.out.later hb87)
      replace X56 := hide (X56.out.later hb87)
      replace Y85 := hide (Y85.out.later hb87)
      replace Ox0 := hide (own_below Ox0.out hb87)
      have z90 := hide hb87.size
      replace hB := hide (hB.out.trans (hb87.mono hB.out.size))
      clear hb87
      have T96 := hide (TCl.out w86 (HAl.out.later hB.out))
      have k97 := X5.out.cell
      go_wp2_with fail
      refine (T96.out).mono ?_
      rintro e w91 ⟨g93, rfl, hg94, C95, hb92⟩
      clear T96 k97
      have I98 : Hid (w86.heap.size ≤ g93 ∧ g93 < w91.heap.size) := hide ⟨hg94, C95.lt⟩
      have P99 := hide C95
      clear C95 hg94
      replace X5 := hide (X5.out.later hb92)
      replace X29 := hide (X29.out.later hb92)
      replace X45 := hide (X45.out.later hb92)
      replace X56 := hide (X56.out.later hb92)
      replace Y85 := hide (Y85.out.later hb92)
      replace Ox0 := hide (own_below Ox0.out hb92)
      have z100 := hide hb92.size
      replace hB := hide (hB.out.trans (hb92.mono hB.out.size))
      clear hb92
      have H103 := hide (HI.out w91 ⟨P99.out.inn2 (by omega), hll, HTXl.out⟩ (HTb.out.below hB.out))
      go_wp2_with fail
      refine (H103.out).mono ?_
      rintro e w101 ⟨z0, rfl, oz0, hb102⟩
      clear H103
      obtain ⟨az0, cz0, rfl, -⟩ := own_shp oz0
      have Lz0 : Hid (∀ y, (Value.slice az0 R0.length cz0).ownBlock = some y → w91.heap.size ≤ y ∧ y < w101.heap.size) := hide (fun y hy => World.ownsRow.lt oz0 y hy)
      have Oz0 := hide oz0
      clear oz0
      replace X5 := hide (X5.out.later hb102)
      replace X29 := hide (X29.out.later hb102)
      replace X45 := hide (X45.out.later hb102)
      replace X56 := hide (X56.out.later hb102)
      replace P99 := hide (P99.out.later hb102)
      replace Y85 := hide (Y85.out.later hb102)
      replace Ox0 := hide (own_below Ox0.out hb102)
      have z104 := hide hb102.size
      replace hB := hide (hB.out.trans (hb102.mono hB.out.size))
      clear hb102
      obtain ⟨w105, hw106⟩ : ∃ wq0, wq0 = w101.alloc (.cells #[.slice az0 R0.length cz0] 25) := ⟨_, rfl⟩
      have hb107 : Below w101.heap.size w101 w105 := by rw [hw106]; exact (Below.refl _ _).alloc (Nat.le_refl _) _
      have e108 : Hid (w105.heap.size = w101.heap.size + 1) := hide (by rw [hw106]; simp)
      have X109 : Hid (CellT 25 w105 w101.heap.size (.slice az0 R0.length cz0)) := hide (by rw [hw106]; exact CellT.new _ _ _)
      replace X5 := hide (X5.out.later hb107)
      replace X29 := hide (X29.out.later hb107)
      replace X45 := hide (X45.out.later hb107)
      replace X56 := hide (X56.out.later hb107)
      replace P99 := hide (P99.out.later hb107)
      replace Y85 := hide (Y85.out.later hb107)
      replace Ox0 := hide (own_below Ox0.out hb107)
      replace Oz0 := hide (own_below Oz0.out hb107)
      have z110 := hide hb107.size
      replace hB := hide (hB.out.trans (hb107.mono hB.out.size))
      clear hb107
      have k114 := X109.out.cell
      rw [hw106] at k114
      have k115 := X29.out.cell
      rw [hw106] at k115
      have E113 := hide (eqSeq_own Oz0.out Ox0.out (by omega))
      go_wp2_with fail
      rw [← hw106]
      clear hw106
      refine (E113.out).mono ?_
      rintro e w111 ⟨rfl, hb112⟩
      clear E113 k114 k115
      replace X5 := hide (X5.out.later hb112)
      replace X29 := hide (X29.out.later hb112)
      replace X45 := hide (X45.out.later hb112)
      replace X56 := hide (X56.out.later hb112)
      replace X109 := hide (X109.out.later hb112)
      replace P99 := hide (P99.out.later hb112)
      replace Y85 := hide (Y85.out.later hb112)
      replace Ox0 := hide (own_below Ox0.out hb112)
      replace Oz0 := hide (own_below Oz0.out hb112)
      have z116 := hide hb112.size
      replace hB := hide (hB.out.trans (hb112.mono hB.out.size))
      clear hb112
      have k120 := X56.out.cell
      have D119 := hide (heldSeq_of Y85.out (by omega) (by omega))
      rw [HKM.out] at D119
      go_wp2_with fail
      refine (D119.out).mono ?_
      rintro e w117 ⟨rfl, hb118⟩
      clear D119 k120
      replace X5 := hide (X5.out.later hb118)
      replace X29 := hide (X29.out.later hb118)
      replace X45 := hide (X45.out.later hb118)
      replace X56 := hide (X56.out.later hb118)
      replace X109 := hide (X109.out.later hb118)
      replace P99 := hide (P99.out.later hb118)
      replace Y85 := hide (Y85.out.later hb118)
      replace Ox0 := hide (own_below Ox0.out hb118)
      replace Oz0 := hide (own_below Oz0.out hb118)
      have z121 := hide hb118.size
      replace hB := hide (hB.out.trans (hb118.mono hB.out.size))
      clear hb118
      go_wp2
      go_ret
      exact ⟨rfl, hB.out⟩
    · have hbz0 : Below w.heap.size w w := Below.refl _ _
      have hbbl : Below w.heap.size w (w.alloc (.cells #[.slice al ml cl] 49)) := hbz0.alloc (Nat.le_refl _) _
      have HB0 := hide hbbl
      have Zl := hide (fun w' (hb : Below w.heap.size w w') => szSeq_from (hal.later hb) hrl (1048576) (by omega))
      rw [if_neg fsl] at Zl
      clear hbz0 hbbl hal hrl fsl
      go_enter Tryd.func7, Tryd.ntmps7
      go_wp2_with fail
      refine (Zl.out _ HB0.out).mono ?_
      rintro e zl ⟨rfl, hzl⟩
      have HZl : Hid (Below w.heap.size w zl) := hide (HB0.out.trans (hzl.mono HB0.out.size))
      clear hzl
      go_wp2
      go_ret
      exact ⟨rfl, HZl.out⟩
  · go_enter Tryd.func7, Tryd.ntmps7
    go_wp2
    go_ret
    exact ⟨rfl, by first | exact Below.refl _ _ | exact (Below.refl _ _).alloc (Nat.le_refl _) _⟩
end Go.Proofs.YtnhooalibadeeaaDoor
