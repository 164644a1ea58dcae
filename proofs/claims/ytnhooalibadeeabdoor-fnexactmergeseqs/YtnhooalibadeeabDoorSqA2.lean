/- The program's seqOf: a sequence in memory of its own. -/
import Derived.Test.YtnhooalibadeeabDoorSqA1
import Derived.Test.YtnhooalibadeeabDoorSqW5
import Derived.Test.YtnhooalibadeeabDoorSeq3
set_option linter.unusedVariables false
namespace Go.Proofs.YtnhooalibadeeabDoor
open Go.RowKit
open Doc1

def sqR (l : List Am) : List Am := if goodQ l = true then l else []
theorem sqR_len (l : List Am) : (sqR l).length ≤ 80 := by
  unfold sqR
  split
  · exact good_len (by assumption)
  · simp

/-- Between two rounds: the box that holds the row that is built. -/
structure SO (l : List Am) (w2 : World) (O k : Nat) (v : Value) (wr : World) : Prop where
  box : CellR wr O v
  own : AmOwn wr (O + 1) v (l.take k)
  bel : Below O w2 wr
theorem SO.lt {l : List Am} {w2 : World} {O k : Nat} {v : Value} {wr : World} (h : SO l w2 O k v wr) : O < wr.heap.size := h.box.lt
theorem set_keepA {w : World} {B : Nat} {v : Value} {l : List Am} (h : AmOwn w B v l) {g : Nat} (hg : w.heap.size ≤ g) {w1 : World} (hb : Below w.heap.size w w1) (j : Nat) (x : Value) : AmOwn (w1.setCell ⟨g, j, none⟩ x) B v l :=
  (own_below h hb).kept (row := some g) (grown_set (grown_self _ _) j _) (by
    cases hv : v.ownBlock with
    | none => exact Or.inl rfl
    | some b => exact Or.inr (fun e => by have := (World.ownsRow.lt h b hv).2; cases e; omega))
/-- What a round leaves. -/
theorem SO.next {l : List Am} {w2 : World} {O k : Nat} {v : Value} {wr : World} (h : SO l w2 O k v wr) (hk : k < l.length) (hO : O ≤ w2.heap.size) {wd w5 : World} {v5 : Value} (hd : AmOwn wd (O + 1) v (l.take k)) (hbx : CellR wd O v) (hbd : Below O w2 wd)
    (o5 : AmOwn w5 (O + 1) v5 (l.take k ++ [l[k]])) (g5 : (wd.alloc (.cells #[.int .i64 l[k].time, .int .i64 l[k].actor, .int .i64 l[k].above, .int .i64 l[k].maker, .string l[k].byte, .bool l[k].gone] 47)).grownBy w5 v.ownBlock) :
    CellR w5 O v ∧ SO l w2 O (k + 1) v5 (w5.setCell ⟨O, 0, none⟩ v5) := by
  have hlo : ∀ y, v.ownBlock = some y → O + 1 ≤ y := fun y hy => (World.ownsRow.lt hd y hy).1
  have e5 : CellR w5 O v := by
    unfold CellR
    rw [g5.block O (by have := hbx.lt; simp; omega) (fun c => by have := hlo O c.symm; omega), Below.heap_alloc _ _ _ hbx.lt]
    exact hbx
  refine ⟨e5, e5.put _, ?_, ?_⟩
  · rw [List.take_succ_eq_append_getElem hk]
    exact own_aside o5 (by omega) _ _
  · exact ((hbd.alloc (by have := hbd.size; omega) _).grown g5 (by have := hbd.size; simp; omega) (fun y hy => by have := hlo y hy; omega)).setCell (p := ⟨O, 0, none⟩) (Nat.le_refl _) _

set_option maxRecDepth 100000 in
set_option maxHeartbeats 2000000 in
theorem seqOf_any {w : World} {a : Option Addr} {cap : Nat} {l : List Am} (h : SIn w a cap l) (hT : Tab w) :
    Calls Tryd.prog 33 #[.slice a l.length cap] w fun e w' => ∃ v, e = .returned (.tuple #[.agg #[v], .bool (goodQ l)]) ∧ AmOwn w' w.heap.size v (sqR l) ∧ Below w.heap.size w w' := by
  have hb0 : Below w.heap.size w (w.alloc (.cells #[.slice none 0 0] 28)) := (Below.refl _ _).alloc (Nat.le_refl _) _
  have hk0 : CellR (w.alloc (.cells #[.slice none 0 0] 28)) w.heap.size (.slice none 0 0) := CellR.new _ _
  obtain ⟨w0, hw0⟩ : ∃ w0, w0 = w.alloc (.cells #[.slice none 0 0] 28) := ⟨_, rfl⟩
  rw [← hw0] at hb0 hk0
  have HB0 := hide hb0
  have HK0 := hide hk0
  have H := hide h
  have G := hide (goodSeqI (h.later hb0) (hT.below hb0))
  clear h hT hb0 hk0
  cases hq : goodQ l with
  | false =>
    have HR : Hid (sqR l = []) := hide (by unfold sqR; rw [if_neg (by rw [hq]; simp)])
    rw [HR.out]
    rw [hq] at G
    clear hq
    go_enter Tryd.func33, Tryd.ntmps33
    go_wp2_with fail
    rw [← hw0]
    clear hw0
    refine G.out.mono ?_
    rintro e w1 ⟨rfl, hb1⟩
    have HK1 := hide (HK0.out.later hb1)
    have HB1 := hide (HB0.out.trans (hb1.mono HB0.out.size))
    have k1 := HK1.out.cell
    have f1 := HK1.out.fz
    clear hb1
    go_wp2
    refine bodyPost_ret (results_cell_tmp rfl _ _ w.heap.size 28 _ (0, 0) _ (.bool false) rfl rfl (HK1.out.put _) Tryd.underlying28 rfl sizeSeqI) rfl ?_
    exact ⟨_, rfl, World.ownsRow_nil _ _ _ _, HB1.out.setCell (p := ⟨w.heap.size, 0, none⟩) (Nat.le_refl _) _⟩
  | true =>
    have HR : Hid (sqR l = l) := hide (by unfold sqR; rw [if_pos hq])
    have hln := good_len hq
    have HX : Hid (∀ k (hk : k < l.length), l[k].byte.size ≤ 10000000) := hide (fun k hk => by have := good_at hq hk; have h1 := this.1; unfold isOk at h1; simp at h1; omega)
    rw [HR.out]
    rw [hq] at G
    clear hq
    go_enter Tryd.func33, Tryd.ntmps33
    go_wp2_with fail
    rw [← hw0]
    clear hw0
    refine G.out.mono ?_
    rintro e w1 ⟨rfl, hb1⟩
    have HK1 := hide (HK0.out.later hb1)
    have HB1 := hide (HB0.out.trans (hb1.mono HB0.out.size))
    obtain ⟨w2, hw2⟩ : ∃ w2, w2 = w1.alloc (.cells #[.slice none 0 0] 28) := ⟨_, rfl⟩
    have hb2 : Below w1.heap.size w1 w2 := by rw [hw2]; exact (Below.refl _ _).alloc (Nat.le_refl _) _
    have R0 : Hid (SO l w2 w1.heap.size 0 (.slice none 0 0) w2) := hide ⟨by rw [hw2]; exact CellR.new _ _, World.ownsRow_nil _ _ _ _, Below.refl _ _⟩
    have HK2 := hide (HK1.out.later hb2)
    have HB2 := hide (HB1.out.trans (hb2.mono HB1.out.size))
    have HS2 := hide hb2.size
    have hO : w.heap.size < w1.heap.size := HK1.out.lt
    clear hb1 hb2
    go_wp2
    rw [← hw2]
    clear hw2
    go_loopw [14] (fun i wr => ∃ k : Nat, k ≤ l.length ∧ i = .int .i64 k ∧ ∃ v, Hid (SO l w2 w1.heap.size k v wr)) (fun i _ => l.length - (intOf i).toNat)
    case atStart => exact ⟨0, by omega, rfl, _, R0⟩
    case round =>
      obtain ⟨k, hk, rfl, v, HT⟩ := hrel
      clear R0
      have HBW := hide (HB2.out.trans (HT.out.bel.mono (Nat.le_of_lt hO)))
      by_cases hlt : k < l.length
      · obtain ⟨av, cv, hv, -⟩ := own_shp HT.out.own
        rw [List.length_take, Nat.min_eq_left (by omega)] at hv
        subst hv
        obtain ⟨g, rfl, hg, hc⟩ := (H.out.later HBW.out).inn.ad (by intro c; rw [c] at hlt; simp at hlt)
        obtain ⟨c0, c1, c2, c3, c4, c5⟩ := hc.amat k hlt
        have hxs := HX.out k hlt
        obtain ⟨wb, hwb⟩ : ∃ wb, wb = wr.alloc (.cells #[.int .i64 l[k].time, .int .i64 l[k].actor, .int .i64 l[k].above, .int .i64 l[k].maker, .string l[k].byte, .bool l[k].gone] 47) := ⟨_, rfl⟩
        have hbb : Below wr.heap.size wr wb := by rw [hwb]; exact (Below.refl _ _).alloc (Nat.le_refl _) _
        have BX : Hid (BxA wb wr.heap.size l[k]) := hide (by rw [hwb]; exact BxA.new _ _)
        have CL := hide (clone_A l[k].byte wb hxs)
        have HBB := hide hbb
        clear hc hbb
        have NX := hide (fun (wd w5 : World) (v5 : Value) a1 a2 a3 a4 a5 => HT.out.next hlt HS2.out (wd := wd) (w5 := w5) (v5 := v5) a1 a2 a3 a4 a5)
        have HLK : Hid ((l.take k).length + 1 ≤ 1000000) := hide (by rw [List.length_take]; omega)
        have bx0 := BX.out.cells.2.2.2.2.1
        rw [hwb] at bx0
        go_wp2_with fail
        rw [← hwb]
        clear hwb c0 c1 c2 c3 c4 c5 bx0
        refine CL.out.mono ?_
        rintro e wc ⟨rfl, hbc⟩
        have BXc := hide (BX.out.later hbc)
        have HBC := hide (HBB.out.trans (hbc.mono HBB.out.size))
        obtain ⟨wd, hwd⟩ : ∃ wd, wd = wc.setCell ⟨wr.heap.size, 4, none⟩ (.string l[k].byte) := ⟨_, rfl⟩
        have hlo := HT.out.lt
        have BXd : Hid (BxA wd wr.heap.size l[k]) := hide (by rw [hwd]; unfold BxA; rw [cell_put BXc.out]; rfl)
        have OWd : Hid (AmOwn wd (w1.heap.size + 1) (.slice av k cv) (l.take k)) := hide (by rw [hwd]; exact set_keepA HT.out.own (Nat.le_refl _) HBC.out _ _)
        have CRd : Hid (CellR wd w1.heap.size (.slice av k cv)) := hide (by rw [hwd]; exact (HT.out.box.later HBC.out).other1 (by omega) _ _)
        have HBd : Hid (Below w1.heap.size w2 wd) := hide (by rw [hwd]; exact (HT.out.bel.trans (HBC.out.mono (Nat.le_of_lt hlo))).setCell (p := ⟨wr.heap.size, 4, none⟩) (Nat.le_of_lt hlo) _)
        have HSd : Hid (w1.heap.size + 1 ≤ wc.heap.size) := hide (by have := CRd.out.lt; rw [hwd] at this; simp [World.setCell] at this; omega)
        have HAI : Hid (AmIn (wd.alloc (.cells #[.int .i64 l[k].time, .int .i64 l[k].actor, .int .i64 l[k].above, .int .i64 l[k].maker, .string l[k].byte, .bool l[k].gone] 47)) (some ⟨wc.heap.size, 0, none⟩) 1 [l[k]]) := hide (by have := AmIn.one wd l[k]; rwa [show wd.heap.size = wc.heap.size by rw [hwd]; simp [World.setCell]] at this)
        obtain ⟨d0, d1, d2, d3, d4, d5⟩ := BXd.out.cells
        have e4 := BXc.out.cells.2.2.2.2.1
        have e5 := frozen_of_row BXc.out 4
        have e6 := (HT.out.box.later HBC.out).cell
        have n1 : ¬ wr.heap.size = w1.heap.size := by omega
        have n2 : ¬ w1.heap.size = wr.heap.size := by omega
        obtain ⟨b0, b1, b2, b3, -, b5⟩ := BXc.out.cells
        clear hbc BX HBB CL
        subst hwd
        go_wp2_with (at_builtin; go_loud (refine append_ams _ rfl _ _ rfl (w1.heap.size + 1) _ (l.take k) (OWd.out.alloc _) _ 1 [l[k]] HLK.out rfl rfl HAI.out (by have := HSd.out; simp; omega) ?_); intro v5 w5 own5 grow5 _; obtain ⟨y1, y2⟩ := NX.out _ w5 v5 OWd.out CRd.out HBd.out own5 grow5; have N5 := hide y2; have k5 := y1.cell; have f5 := y1.fz; obtain ⟨a5, c5, he5, -⟩ := own_shp own5; rw [show (l.take k ++ [l[k]]).length = k + 1 by simp; omega] at he5; subst he5; clear own5 grow5 y1 y2)
        exact ⟨⟨k + 1, by omega, by go_num, _, N5⟩, by simp [intOf]; omega⟩
      · obtain rfl : k = l.length := by omega
        have hkk : CellR wr w.heap.size (.slice none 0 0) := by
          unfold CellR
          rw [HT.out.bel.block w.heap.size hO]
          exact HK2.out
        have HKR := hide hkk
        have k1 := hkk.cell
        have f1 := hkk.fz
        have k2 := HT.out.box.cell
        have HO : Hid (AmOwn wr (w1.heap.size + 1) v l) := hide (by have := HT.out.own; rw [List.take_length] at this; exact this)
        obtain ⟨a5, c5, rfl, -⟩ := own_shp HO.out
        clear hkk HT
        go_wp2
        refine bodyPost_ret (results_cell_tmp rfl _ _ w.heap.size 28 _ (0, 0) _ (.bool true) rfl rfl (HKR.out.put _) Tryd.underlying28 rfl sizeSeqI) rfl ?_
        exact ⟨_, rfl, AmOwn.mono (own_aside HO.out (by omega) _ _) (by omega), HBW.out.setCell (p := ⟨w.heap.size, 0, none⟩) (Nat.le_refl _) _⟩
end Go.Proofs.YtnhooalibadeeabDoor
