/- Cells of a sequence; the contracts of the laws' own helpers over sequences. -/
import Derived.Test.YtnhooalibadeeabDoorRowsAtom
import Derived.Test.YtnhooalibadeeabDoorRow1c
import Derived.Deep.Onto
set_option linter.unusedVariables false
namespace Go.Proofs.YtnhooalibadeeabDoor
open Go.RowKit
open Doc1

/-- A result that lies in a block of one cell. -/
def CellR (w : World) (c : Nat) (x : Value) : Prop := w.heap[c]? = some (.cells #[x] 28)

theorem CellR.later {w w1 : World} {c : Nat} {x : Value} (h : CellR w c x) (hb : Below w.heap.size w w1) : CellR w1 c x := by
  have hc : c < w.heap.size := (Array.getElem?_eq_some_iff.1 h).1
  unfold CellR; rw [hb.block c hc]; exact h

theorem CellR.cell {w : World} {c : Nat} {x : Value} (h : CellR w c x) : w.cell? ⟨c, 0, none⟩ = some x := by rw [cell_of_row _ _ 0 _ _ (0, 0) h]; rfl

theorem CellR.fz {w : World} {c : Nat} {x : Value} (h : CellR w c x) : w.frozen? ⟨c, 0, none⟩ = false := frozen_of_row h 0

theorem CellR.lt {w : World} {c : Nat} {x : Value} (h : CellR w c x) : c < w.heap.size := (Array.getElem?_eq_some_iff.1 h).1

theorem CellR.put {w : World} {c : Nat} {x : Value} (h : CellR w c x) (y : Value) : CellR (w.setCell ⟨c, 0, none⟩ y) c y := cell_put h 0 y

theorem CellR.new (w : World) (x : Value) : CellR (w.alloc (.cells #[x] 28)) w.heap.size x := heap_alloc_new w _

theorem boxesS2 (w : World) (x y : Value) : ((w.alloc (.cells #[x] 28)).alloc (.cells #[y] 28)).heap.size = w.heap.size + 2 ∧ Below w.heap.size w ((w.alloc (.cells #[x] 28)).alloc (.cells #[y] 28)) ∧ CellR ((w.alloc (.cells #[x] 28)).alloc (.cells #[y] 28)) w.heap.size x ∧ CellR ((w.alloc (.cells #[x] 28)).alloc (.cells #[y] 28)) (w.heap.size + 1) y := by
  refine ⟨by simp, ((Below.refl _ _).alloc (Nat.le_refl _) _).alloc (by simp) _, (CellR.new w x).later ((Below.refl _ _).alloc (Nat.le_refl _) _), ?_⟩
  have := CellR.new (w.alloc (.cells #[x] 28)) y
  rwa [show (w.alloc (.cells #[x] 28)).heap.size = w.heap.size + 1 by simp] at this

theorem CellR.other {w : World} {c d : Nat} {x : Value} (h : CellR w c x) (hd : d ≠ c) (y : Value) : CellR (w.setCell ⟨d, 0, none⟩ y) c x := by
  unfold CellR at h ⊢
  rw [Below.heap_setCell _ _ _ _ (fun e => hd e.symm)]
  exact h

/-- A block of one cell. -/
def CellT (T : TypeId) (w : World) (c : Nat) (x : Value) : Prop := w.heap[c]? = some (.cells #[x] T)

theorem CellT.later {T : TypeId} {w w1 : World} {c : Nat} {x : Value} (h : CellT T w c x) (hb : Below w.heap.size w w1) : CellT T w1 c x := by
  have hc : c < w.heap.size := (Array.getElem?_eq_some_iff.1 h).1
  unfold CellT; rw [hb.block c hc]; exact h

theorem CellT.cell {T : TypeId} {w : World} {c : Nat} {x : Value} (h : CellT T w c x) : w.cell? ⟨c, 0, none⟩ = some x := by rw [cell_of_row _ _ 0 _ _ (0, 0) h]; rfl

theorem CellT.lt {T : TypeId} {w : World} {c : Nat} {x : Value} (h : CellT T w c x) : c < w.heap.size := (Array.getElem?_eq_some_iff.1 h).1

theorem CellT.new (T : TypeId) (w : World) (x : Value) : CellT T (w.alloc (.cells #[x] T)) w.heap.size x := heap_alloc_new w _

theorem CellT.grown {T : TypeId} {w w1 : World} {c : Nat} {x : Value} {r : Option Nat} (h : CellT T w c x) (hg : w.grownBy w1 r) (hne : r ≠ some c) : CellT T w1 c x := by
  unfold CellT
  rw [hg.block c h.lt (fun e => hne e.symm)]
  exact h

set_option maxRecDepth 100000 in
set_option maxHeartbeats 2000000 in
theorem eqSeq_of {w : World} {va vb : Value} {na nb ca cb : Nat} {aa ab : Option Addr} (ea : va = .slice aa na ca) (eb : vb = .slice ab nb cb) (h : ∀ w1, Below w.heap.size w w1 → Calls Tryd.prog 34 #[va, vb] w1 fun e w' => e = .returned (.bool true) ∧ Below w1.heap.size w1 w') :
    Calls Tryd.prog 10 #[.agg #[va], .agg #[vb]] w fun e w' => e = .returned (.bool true) ∧ Below w.heap.size w w' := by
  subst ea eb
  obtain ⟨hs1, hb1, -, -⟩ := boxesS2 w (.slice aa na ca) (.slice ab nb cb)
  have H := hide (h _ hb1)
  have HB := hide hb1
  have HS := hide hs1
  clear h hb1 hs1
  go_enter Tryd.func10, Tryd.ntmps10
  go_wp2_with fail
  refine H.out.mono ?_
  rintro e w2 ⟨rfl, hb2⟩
  have HB2 : Hid (Below w.heap.size w w2) := hide (HB.out.trans (hb2.mono (by have := HS.out; omega)))
  clear hb2
  go_wp2
  go_ret
  exact ⟨rfl, HB2.out⟩

theorem eqSeq_own {w : World} {Ba Bb : Nat} {va vb : Value} {l : List Am} (ha : AmOwn w Ba va l) (hb : AmOwn w Bb vb l) (hm : l.length ≤ 10000000) :
    Calls Tryd.prog 10 #[.agg #[va], .agg #[vb]] w fun e w' => e = .returned (.bool true) ∧ Below w.heap.size w w' := by
  obtain ⟨aa, ca, ea, -, -⟩ := own_shp ha
  obtain ⟨ab, cb, eb, -, -⟩ := own_shp hb
  exact eqSeq_of ea eb (fun w1 h1 => eqAm_own (own_below ha h1) (own_below hb h1) hm)

theorem eqSeq_cp {w : World} {ga gb : Nat} {l : List Am} (ha : AmCp w ga l) (hb : AmCp w gb l) (hm : l.length ≤ 2000000) :
    Calls Tryd.prog 10 #[.agg #[.slice (some ⟨ga, 0, none⟩) l.length l.length], .agg #[.slice (some ⟨gb, 0, none⟩) l.length l.length]] w fun e w' => e = .returned (.bool true) ∧ Below w.heap.size w w' :=
  eqSeq_of rfl rfl (fun w1 h1 => eqAm_cp (ha.later h1) (hb.later h1) hm)

set_option maxRecDepth 100000 in
set_option maxHeartbeats 2000000 in
theorem markSeq_of {w : World} {v : Value} {n c K K2 : Nat} {a : Option Addr} (ea : v = .slice a n c) {Φ : World → Prop} (hv : ∀ y, v.ownBlock = some y → y < w.heap.size)
    (h : ∀ w1, Below w.heap.size w w1 → Calls Tryd.prog 35 #[v, .int .i64 (K : Int)] w1 fun e w' => e = .returned (.int .i64 (K2 : Int)) ∧ w1.grownBy w' v.ownBlock ∧ Φ w') :
    Calls Tryd.prog 11 #[.agg #[v], .int .i64 (K : Int)] w fun e w' => e = .returned (.int .i64 (K2 : Int)) ∧ w.grownBy w' v.ownBlock ∧ Φ w' := by
  subst ea
  have hb1 : Below w.heap.size w (w.alloc (.cells #[.slice a n c] 28)) := (Below.refl _ _).alloc (Nat.le_refl _) _
  have H := hide (h _ hb1)
  have HG : Hid (w.grownBy (w.alloc (.cells #[.slice a n c] 28)) (Value.slice a n c).ownBlock) := hide (World.grownBy_alloc w _ _)
  clear h hb1
  go_enter Tryd.func11, Tryd.ntmps11
  go_wp2_with fail
  refine H.out.mono ?_
  rintro e w2 ⟨rfl, hg2, hp2⟩
  have HG2 := hide (HG.out.trans hg2)
  have HP := hide hp2
  clear hg2 hp2
  go_wp2
  go_ret
  exact ⟨rfl, HG2.out, HP.out⟩

theorem markSeq_own {w : World} {B : Nat} {v : Value} {l : List Am} (h : AmOwn w B v l) (hm : l.length ≤ 10000000) (K : Nat) (hK : 0 < K ∧ K ≤ 400000000) :
    Calls Tryd.prog 11 #[.agg #[v], .int .i64 (K : Int)] w fun e w' => e = .returned (.int .i64 (K + l.length * 6 : Nat)) ∧ w.grownBy w' v.ownBlock ∧ AmMk K w' v l.length := by
  obtain ⟨a, c, ea, -, -⟩ := own_shp h
  exact markSeq_of (K := K) (K2 := K + l.length * 6) ea (fun y hy => (World.ownsRow.lt h y hy).2) (fun w1 h1 => markAm_own (own_below h h1) hm K hK)

theorem markSeq_on {w : World} {g : Nat} {l : List Am} (h : AmCp w g l) (hm : l.length ≤ 2000000) (K : Nat) (hK : 0 < K ∧ K ≤ 400000000) :
    Calls Tryd.prog 11 #[.agg #[.slice (some ⟨g, 0, none⟩) l.length l.length], .int .i64 (K : Int)] w fun e w' => e = .returned (.int .i64 (K + l.length * 6 : Nat)) ∧ w.grownBy w' (some g) := by
  refine (markSeq_of (K := K) (K2 := K + l.length * 6) (Φ := fun _ => True) (v := .slice (some ⟨g, 0, none⟩) l.length l.length) rfl (fun y hy => by cases hy; exact h.lt) (fun w1 h1 => (markAm_from (h.later h1) hm K hK).mono (fun e w' ⟨k1, k2⟩ => ⟨k1, k2, trivial⟩))).mono ?_
  rintro e w' ⟨rfl, h1, -⟩
  exact ⟨rfl, h1⟩

set_option maxRecDepth 100000 in
set_option maxHeartbeats 2000000 in
theorem heldSeq_of {w : World} {v : Value} {n M : Nat} (h : AmMk M w v n) (hm : n ≤ 10000000) (hM : 0 < M ∧ M ≤ 400000000) :
    Calls Tryd.prog 12 #[.agg #[v], .int .i64 (M : Int)] w fun e w' => e = .returned (.int .i64 (M + n * 6 : Nat)) ∧ Below w.heap.size w w' := by
  have hb1 : Below w.heap.size w (w.alloc (.cells #[v] 28)) := (Below.refl _ _).alloc (Nat.le_refl _) _
  have H := hide (heldAm_own (h.later hb1) hm hM)
  obtain ⟨a, c, m, ev⟩ : ∃ a c m, v = .slice a m c := by
    rcases h with ⟨-, a, c, e⟩ | ⟨g, c, e, -⟩
    · exact ⟨a, c, 0, e⟩
    · exact ⟨_, c, n, e⟩
  subst ev
  have HB := hide hb1
  have hK : decide (((M + n * 6 : Nat) : Int) < 0) = false := by rw [decide_eq_false_iff_not]; omega
  obtain ⟨K, hKe⟩ : ∃ K : Int, ((M + n * 6 : Nat) : Int) = K := ⟨_, rfl⟩
  rw [hKe] at H hK ⊢
  clear hb1 h hKe
  go_enter Tryd.func12, Tryd.ntmps12
  go_wp2_with fail
  refine H.out.mono ?_
  rintro e w2 ⟨rfl, hb2⟩
  have HB2 : Hid (Below w.heap.size w w2) := hide (HB.out.trans (hb2.mono (by simp)))
  clear hb2
  go_wp2
  go_ret
  exact ⟨rfl, HB2.out⟩

set_option maxRecDepth 100000 in
set_option maxHeartbeats 2000000 in
theorem szSeq_from {w : World} {v : Value} {l : List Am} (h : ArgAm w v l) (hs : ∀ i (hi : i < l.length), l[i].byte.size ≤ 9223372036854775807) (left : Nat) (hlf : left ≤ 1048576) :
    Calls Tryd.prog 6 #[.agg #[v], .int .i64 (left : Int)] w fun e w' => e = .returned (.int .i64 (if szAmn l ≤ left then ((left - szAmn l : Nat) : Int) else -1)) ∧ Below w.heap.size w w' := by
  have hb1 : Below w.heap.size w (w.alloc (.cells #[v] 24)) := (Below.refl _ _).alloc (Nat.le_refl _) _
  have H := hide (szAm_from (h.later hb1) hs (argAm_len h) left hlf)
  obtain ⟨a, c, m, ev⟩ : ∃ a c m, v = .slice a m c := by
    cases h with
    | nil a c => exact ⟨a, c, 0, rfl⟩
    | row b off c p h1 h2 h3 h4 h5 => exact ⟨_, c, _, rfl⟩
  subst ev
  have HB := hide hb1
  clear hb1 h hs
  by_cases hq : szAmn l ≤ left
  · rw [if_pos hq] at H ⊢
    obtain ⟨K, hKe⟩ : ∃ K : Nat, left - szAmn l = K := ⟨_, rfl⟩
    rw [hKe] at H ⊢
    have hK : decide ((K : Int) < 0) = false := by rw [decide_eq_false_iff_not]; omega
    clear hKe hq
    go_enter Tryd.func6, Tryd.ntmps6
    go_wp2_with fail
    refine H.out.mono ?_
    rintro e w2 ⟨rfl, hb2⟩
    have HB2 : Hid (Below w.heap.size w w2) := hide (HB.out.trans (hb2.mono (by simp)))
    clear hb2
    go_wp2
    go_ret
    exact ⟨rfl, HB2.out⟩
  · rw [if_neg hq] at H ⊢
    clear hq
    go_enter Tryd.func6, Tryd.ntmps6
    go_wp2_with fail
    refine H.out.mono ?_
    rintro e w2 ⟨rfl, hb2⟩
    have HB2 : Hid (Below w.heap.size w w2) := hide (HB.out.trans (hb2.mono (by simp)))
    clear hb2
    go_wp2
    go_ret
    exact ⟨rfl, HB2.out⟩

set_option maxRecDepth 100000 in
set_option maxHeartbeats 2000000 in
theorem toSeq_cp {w : World} {v : Value} {l : List Am} (h : ArgAm w v l) (hm : l.length ≤ 2000000) :
    Calls Tryd.prog 8 #[.agg #[v]] w fun e w' => ∃ g, e = .returned (.agg #[.slice (some ⟨g, 0, none⟩) l.length l.length]) ∧ w.heap.size ≤ g ∧ AmCp w' g l ∧ Below w.heap.size w w' := by
  obtain ⟨a, c, m, ev⟩ : ∃ a c m, v = .slice a m c := by
    cases h with
    | nil a c => exact ⟨a, c, 0, rfl⟩
    | row b off c p h1 h2 h3 h4 h5 => exact ⟨_, c, _, rfl⟩
  subst ev
  obtain ⟨w1, hw1⟩ : ∃ w1, w1 = ((w.alloc (.cells #[.slice a m c] 24)).alloc (.cells #[.slice none 0 0] 28)).alloc (.cells #[.slice none 0 0] 28) := ⟨_, rfl⟩
  have hs1 : w1.heap.size = w.heap.size + 3 := by rw [hw1]; simp
  have hb0 : Below w.heap.size w (w.alloc (.cells #[.slice a m c] 24)) := (Below.refl _ _).alloc (Nat.le_refl _) _
  have h0s : (w.alloc (.cells #[.slice a m c] 24)).heap.size = w.heap.size + 1 := by simp
  obtain ⟨-, hb1, hc1, hc2⟩ := boxesS2 (w.alloc (.cells #[.slice a m c] 24)) (.slice none 0 0) (.slice none 0 0)
  rw [← hw1] at hb1 hc1 hc2
  rw [h0s] at hc1 hc2 hb1
  have hbw : Below w.heap.size w w1 := hb0.trans (hb1.mono (by omega))
  have H := hide (toAm_cp (h.later hbw) hm)
  have HB := hide hbw
  have HC1 := hide hc1
  have HC2 := hide hc2
  clear h hb0 hb1 hbw hc1 hc2 h0s
  go_enter Tryd.func8, Tryd.ntmps8
  go_wp2_with fail
  rw [← hw1]
  clear hw1
  refine H.out.mono ?_
  rintro e w2 ⟨rfl, hcp, hb2⟩
  have HB2 : Hid (Below w.heap.size w w2) := hide (HB.out.trans (hb2.mono HB.out.size))
  have HD1 := hide (HC1.out.later hb2)
  have HD2 := hide (HC2.out.later hb2)
  have q1 := HD1.out.cell
  have q2 := HD1.out.fz
  have q3 := HD2.out.cell
  have q4 := HD2.out.fz
  have HCP := hide hcp
  have n1 : ¬ w.heap.size + 1 = w.heap.size + 1 + 1 := by omega
  have n2 : ¬ w.heap.size + 1 + 1 = w.heap.size + 1 := by omega
  clear hcp hb2
  go_wp2
  have HS := hide hs1
  rw [hs1] at HCP
  refine bodyPost_ret (results_cell_row rfl _ _ (w.heap.size + 1) 28 _ (0, 0) _ rfl ((HD1.out.other (d := w.heap.size + 1 + 1) (by omega) _).put _) Tryd.underlying28 rfl (by kernel_rfl)) rfl ?_
  refine ⟨w.heap.size + 3, rfl, by omega, ?_, (HB2.out.setCell (by show w.heap.size ≤ w.heap.size + 1 + 1; omega) _).setCell (by show w.heap.size ≤ w.heap.size + 1; omega) _⟩
  exact (HCP.out.grown (grown_set (grown_self _ _) 0 _) (fun e => by have := Option.some.inj e; omega)).grown (grown_set (grown_self _ _) 0 _) (fun e => by have := Option.some.inj e; omega)
end Go.Proofs.YtnhooalibadeeabDoor
