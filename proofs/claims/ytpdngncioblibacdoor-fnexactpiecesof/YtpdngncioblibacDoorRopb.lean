/- The program's functions over ropes: GoodRope, TextIn, RopeOf, JoinRopes, Rebalance. -/
import Derived.Test.YtpdngncioblibacDoorRopa
set_option linter.unusedVariables false
namespace Go.Proofs.YtpdngncioblibacDoor
open Go.RowKit
open Doc1

/-- A rope that comes in. -/
structure RIn (w : World) (a : Option Addr) (cap : Nat) (l : List Bg) : Prop where
  inn : BoIn w a cap l
  len : l.length ≤ 1048576
  txt : ∀ i (hi : i < l.length), l[i].text.size ≤ 1048576

theorem RIn.later {w w1 : World} {a : Option Addr} {cap : Nat} {l : List Bg} (h : RIn w a cap l) (hb : Below w.heap.size w w1) : RIn w1 a cap l := ⟨h.inn.later hb, h.len, h.txt⟩

theorem root_of {w : World} {a : Option Addr} {cap : Nat} {l : List Bg} (h : RIn w a cap l) (hT : Tab w) : Calls Tryd.prog 17 #[.agg #[.slice a l.length cap]] w (RtPost (rtO l) (rtB l) w) := rootOf_any a cap l w h.inn hT h.len h.txt

theorem rt_ok (l : List Bg) : gdO (rtO l) ∧ nbO (rtO l) ≤ 200 ∧ szO (rtO l) ≤ 300 := by
  unfold rtO
  cases h : dc l with
  | none => exact ⟨(fun s hs => by cases hs), (by simp [nbO]), (by simp [szO])⟩
  | some o => exact (RO_bo (dc_ro h)).2

theorem pcO_len (o : Option Lm) : (pcO o).length ≤ nbO o := by
  cases o with
  | none => exact Nat.le_refl _
  | some t => have := Lm.nb_pcs t; simp only [pcO, nbO]; have := Lm.nb_pos t; omega

theorem pcO_tot (o : Option Lm) : tot (pcO o) = szO o := (szO_pc o).symm

/-- A result that lies in a block of one cell. -/
def CellR (w : World) (c : Nat) (x : Value) : Prop := w.heap[c]? = some (.cells #[x] 31)

theorem CellR.later {w w1 : World} {c : Nat} {x : Value} (h : CellR w c x) (hb : Below w.heap.size w w1) : CellR w1 c x := by
  have hc : c < w.heap.size := (Array.getElem?_eq_some_iff.1 h).1
  unfold CellR; rw [hb.block c hc]; exact h

theorem CellR.cell {w : World} {c : Nat} {x : Value} (h : CellR w c x) : w.cell? ⟨c, 0, none⟩ = some x := by rw [cell_of_row _ _ 0 _ _ (0, 0) h]; rfl

theorem CellR.fz {w : World} {c : Nat} {x : Value} (h : CellR w c x) : w.frozen? ⟨c, 0, none⟩ = false := frozen_of_row h 0

theorem CellR.lt {w : World} {c : Nat} {x : Value} (h : CellR w c x) : c < w.heap.size := (Array.getElem?_eq_some_iff.1 h).1

theorem CellR.put {w : World} {c : Nat} {x : Value} (h : CellR w c x) (y : Value) : CellR (w.setCell ⟨c, 0, none⟩ y) c y := cell_put h 0 y

theorem CellR.new (w : World) (x : Value) : CellR (w.alloc (.cells #[x] 31)) w.heap.size x := heap_alloc_new w _

theorem boxes2 (w : World) (x y : Value) : ((w.alloc (.cells #[x] 31)).alloc (.cells #[y] 31)).heap.size = w.heap.size + 2 ∧ Below w.heap.size w ((w.alloc (.cells #[x] 31)).alloc (.cells #[y] 31)) ∧ CellR ((w.alloc (.cells #[x] 31)).alloc (.cells #[y] 31)) w.heap.size x ∧ CellR ((w.alloc (.cells #[x] 31)).alloc (.cells #[y] 31)) (w.heap.size + 1) y := by
  refine ⟨by simp, ((Below.refl _ _).alloc (Nat.le_refl _) _).alloc (by simp) _, (CellR.new w x).later ((Below.refl _ _).alloc (Nat.le_refl _) _), ?_⟩
  have := CellR.new (w.alloc (.cells #[x] 31)) y
  rwa [show (w.alloc (.cells #[x] 31)).heap.size = w.heap.size + 1 by simp] at this

theorem boxes3 (w : World) (x y z : Value) : (((w.alloc (.cells #[x] 31)).alloc (.cells #[y] 31)).alloc (.cells #[z] 31)).heap.size = w.heap.size + 3 ∧ Below w.heap.size w (((w.alloc (.cells #[x] 31)).alloc (.cells #[y] 31)).alloc (.cells #[z] 31)) ∧ CellR (((w.alloc (.cells #[x] 31)).alloc (.cells #[y] 31)).alloc (.cells #[z] 31)) w.heap.size x ∧ CellR (((w.alloc (.cells #[x] 31)).alloc (.cells #[y] 31)).alloc (.cells #[z] 31)) (w.heap.size + 1) y ∧ CellR (((w.alloc (.cells #[x] 31)).alloc (.cells #[y] 31)).alloc (.cells #[z] 31)) (w.heap.size + 2) z := by
  obtain ⟨h1, h2, h3, h4⟩ := boxes2 w x y
  have hb := (Below.refl ((w.alloc (.cells #[x] 31)).alloc (.cells #[y] 31)).heap.size ((w.alloc (.cells #[x] 31)).alloc (.cells #[y] 31))).alloc (Nat.le_refl _) (.cells #[z] 31)
  refine ⟨by simp, h2.trans (hb.mono h2.size), h3.later hb, h4.later hb, ?_⟩
  have := CellR.new ((w.alloc (.cells #[x] 31)).alloc (.cells #[y] 31)) z
  rwa [h1] at this

set_option maxRecDepth 100000 in
set_option maxHeartbeats 4000000 in
theorem addPieces_opt (o : Option Lm) (w : World) (hn : nbO o ≤ 10000) (hz : szO o ≤ 100000) : Calls Tryd.prog 18 #[.slice none 0 0, lvO o] w fun e w' => ∃ v, e = .returned v ∧ PcOwn w' w.heap.size v (pcO o) ∧ Below w.heap.size w w' := by
  cases o with
  | none => exact (addPieces_none w.heap.size _ [] w (PcOwn.nil _ _) (Nat.le_refl _)).mono (fun e w' ⟨v, h1, h2, h3, _⟩ => ⟨v, h1, h2, h3.b⟩)
  | some t => exact (addPieces_any t w.heap.size _ [] w (PcOwn.nil _ _) (Nat.le_refl _) (by simp only [nbO] at hn; simp; omega) (by simp only [szO] at hz; omega)).mono (fun e w' ⟨v, h1, h2, h3, _⟩ => ⟨v, h1, h2, h3.b⟩)

/-- A rope of a text. -/
noncomputable def roL (s : ByteArray) : List Bg := if good s.data.toList then okB (evn (cutL s)) else []

noncomputable def roB (s : ByteArray) : Bool := good s.data.toList && fit (evn (cutL s))

theorem cutP_app (s : ByteArray) (k : Nat) : catB ((List.range k).map (cutP s)) = s.extract 0 (min (8 * k) s.size) := by
  induction k with
  | zero => simp [catB]; rfl
  | succ k ih =>
    rw [List.range_succ, List.map_append, List.map_singleton, catB_snoc, ih]
    unfold cutP
    apply Doc1.ba_eq
    rw [apdB]
    simp only [ByteArray.data_extract, Array.toList_extract, List.extract_eq_take_drop]
    rw [List.drop_zero, Nat.sub_zero, Nat.sub_zero, show 8 * (k + 1) = 8 * k + 8 by omega]
    have hs : s.size = s.data.toList.length := szB s
    by_cases h : 8 * k ≤ s.size
    · rw [Nat.min_eq_left h]
      have : min (8 * k + 8) s.size = 8 * k + (min (8 * k + 8) s.size - 8 * k) := by omega
      rw [this, List.take_add, ← this]
    · rw [Nat.min_eq_right (by omega), Nat.min_eq_right (by omega), List.drop_eq_nil_of_le (by omega)]
      simp

theorem catB_cut (s : ByteArray) : catB (cutL s) = s := by
  unfold cutL
  rw [cutP_app, Nat.min_eq_right (by unfold cutN; omega), ByteArray.extract_zero_size]

theorem tot_cut (s : ByteArray) : tot (cutL s) = s.size := by rw [← catB_size, catB_cut]

theorem cutL_le (s : ByteArray) (hs : s.size ≤ 300) : (cutL s).length ≤ 38 := by rw [cutL_len]; unfold cutN; omega

theorem fit_cut (s : ByteArray) (hs : s.size ≤ 300) : fit (evn (cutL s)) = true := by
  unfold fit
  rw [nbO_evn, szO_evn, tot_cut]
  have := cutL_le s hs
  simp; omega

/-- Two ropes joined. -/
noncomputable def jnL (l m : List Bg) : List Bg := if rtB l && rtB m then okB (jo (rtO l) (rtO m)) else []

noncomputable def jnB (l m : List Bg) : Bool := (rtB l && rtB m) && fit (jo (rtO l) (rtO m))

theorem jo_nb (a b : Option Lm) : nbO (jo a b) ≤ nbO a + nbO b + 1 := by
  cases a <;> cases b <;> simp [jo, nbO, Lm.nb]

end Go.Proofs.YtpdngncioblibacDoor
