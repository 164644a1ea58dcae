/- The contracts of the laws' own helpers over ropes. Lengths, for the exact laws of chapter 12. The answer's cell, wherever it was made among the calls. Rows of boughs, and ropes, are marked from any number on. Rows of boughs, and ropes, are marked from any number on, and held so. -/
import Derived.Test.YtpeconmdmddkfaaDoorRopB
import Derived.Test.YtpeconmdmddkfaaDoorRptA
import Derived.Deep.Onto
import Derived.Test.YtpeconmdmddkfaaDoorWBk
set_option linter.unusedVariables false
namespace Go.Proofs.YtpeconmdmddkfaaDoor
open Go.RowKit
open Doc1

/-- A block of one cell. -/
def CellT (T : TypeId) (w : World) (c : Nat) (x : Value) : Prop := w.heap[c]? = some (.cells #[x] T)

theorem CellT.later {T : TypeId} {w w1 : World} {c : Nat} {x : Value} (h : CellT T w c x) (hb : Below w.heap.size w w1) : CellT T w1 c x := by
  have hc : c < w.heap.size := (Array.getElem?_eq_some_iff.1 h).1
  unfold CellT; rw [hb.block c hc]; exact h

theorem CellT.cell {T : TypeId} {w : World} {c : Nat} {x : Value} (h : CellT T w c x) : w.cell? ⟨c, 0, none⟩ = some x := by rw [cell_of_row _ _ 0 _ _ (0, 0) h]; rfl

theorem CellT.lt {T : TypeId} {w : World} {c : Nat} {x : Value} (h : CellT T w c x) : c < w.heap.size := (Array.getElem?_eq_some_iff.1 h).1

theorem CellT.new (T : TypeId) (w : World) (x : Value) : CellT T (w.alloc (.cells #[x] T)) w.heap.size x := heap_alloc_new w _

theorem CellT.grown {T : TypeId} {w w1 : World} {c : Nat} {x : Value} {r : Option Nat} (h : CellT T w c x) (hg : w.grownBy w1 r) (hne : r ≠ some c) : CellT T w1 c x := by
  unfold CellT
  rw [hg.block c h.lt (fun e => hne e.symm)]
  exact h

theorem BoCp.grown {w w1 : World} {g : Nat} {l : List Bg} {r : Option Nat} (h : BoCp w g l) (hg : w.grownBy w1 r) (hne : r ≠ some g) : BoCp w1 g l :=
  ⟨fun j u hu => (World.cell?_of_block (a := ⟨g, j, none⟩) (hg.block g h.lt (fun e => hne e.symm))).trans (h.at' j u hu), ⟨fun j hj => by obtain ⟨v, hv⟩ := h.blk.ex j hj; exact ⟨v, (World.cell?_of_block (a := ⟨g, j, none⟩) (hg.block g h.lt (fun e => hne e.symm))).trans hv⟩, fun j => (World.frozen?_of_block (a := ⟨g, j, none⟩) (hg.block g h.lt (fun e => hne e.symm))).trans (h.blk.fz j)⟩, Nat.lt_of_lt_of_le h.lt hg.size⟩

theorem BoMk.grown {w w1 : World} {v : Value} {n : Nat} {r : Option Nat} (h : BoMk w v n) (hg : w.grownBy w1 r) (hne : ∀ y, v.ownBlock = some y → r ≠ some y) : BoMk w1 v n := by
  rcases h with h | ⟨g, cap, rfl, h1, h2, h3, h4⟩
  · exact .inl h
  · exact .inr ⟨g, cap, rfl, h1, h2, Nat.lt_of_lt_of_le h3 hg.size, fun j u hu => (World.cell?_of_block (a := ⟨g, j, none⟩) (hg.block g h3 (fun e => hne g rfl e.symm))).trans (h4 j u hu)⟩

set_option maxRecDepth 100000 in
set_option maxHeartbeats 2000000 in
theorem eqRope_of {w : World} {va vb : Value} {na nb ca cb : Nat} {aa ab : Option Addr} (ea : va = .slice aa na ca) (eb : vb = .slice ab nb cb) (h : ∀ w1, Below w.heap.size w w1 → Calls Tryd.prog 96 #[va, vb] w1 fun e w' => e = .returned (.bool true) ∧ Below w1.heap.size w1 w') :
    Calls Tryd.prog 36 #[.agg #[va], .agg #[vb]] w fun e w' => e = .returned (.bool true) ∧ Below w.heap.size w w' := by
  subst ea eb
  obtain ⟨hs1, hb1, -, -⟩ := boxes2 w (.slice aa na ca) (.slice ab nb cb)
  have H := hide (h _ hb1)
  have HB := hide hb1
  have HS := hide hs1
  clear h hb1 hs1
  go_enter Tryd.func36, Tryd.ntmps36
  go_wp2_with fail
  refine H.out.mono ?_
  rintro e w2 ⟨rfl, hb2⟩
  have HB2 : Hid (Below w.heap.size w w2) := hide (HB.out.trans (hb2.mono (by have := HS.out; omega)))
  clear hb2
  go_wp2
  go_ret
  exact ⟨rfl, HB2.out⟩

theorem eqRope_own {w : World} {Ba Bb : Nat} {va vb : Value} {l : List Bg} (ha : BoOwn w Ba va l) (hb : BoOwn w Bb vb l) (hm : l.length ≤ 10000000) :
    Calls Tryd.prog 36 #[.agg #[va], .agg #[vb]] w fun e w' => e = .returned (.bool true) ∧ Below w.heap.size w w' := by
  obtain ⟨aa, ca, ea, -, -⟩ := own_shp ha
  obtain ⟨ab, cb, eb, -, -⟩ := own_shp hb
  exact eqRope_of ea eb (fun w1 h1 => eqBo_own (own_below ha h1) (own_below hb h1) hm)

theorem eqRope_cp {w : World} {ga gb : Nat} {l : List Bg} (ha : BoCp w ga l) (hb : BoCp w gb l) (hm : l.length ≤ 2000000) :
    Calls Tryd.prog 36 #[.agg #[.slice (some ⟨ga, 0, none⟩) l.length l.length], .agg #[.slice (some ⟨gb, 0, none⟩) l.length l.length]] w fun e w' => e = .returned (.bool true) ∧ Below w.heap.size w w' :=
  eqRope_of rfl rfl (fun w1 h1 => eqBo_cp (ha.later h1) (hb.later h1) hm)

set_option maxRecDepth 100000 in
set_option maxHeartbeats 2000000 in
theorem markRope_of {w : World} {v : Value} {n c K K2 : Nat} {a : Option Addr} (ea : v = .slice a n c) {Φ : World → Prop} (hv : ∀ y, v.ownBlock = some y → y < w.heap.size)
    (h : ∀ w1, Below w.heap.size w w1 → Calls Tryd.prog 97 #[v, .int .i64 (K : Int)] w1 fun e w' => e = .returned (.int .i64 (K2 : Int)) ∧ w1.grownBy w' v.ownBlock ∧ Φ w') :
    Calls Tryd.prog 37 #[.agg #[v], .int .i64 (K : Int)] w fun e w' => e = .returned (.int .i64 (K2 : Int)) ∧ w.grownBy w' v.ownBlock ∧ Φ w' := by
  subst ea
  have hb1 : Below w.heap.size w (w.alloc (.cells #[.slice a n c] 62)) := (Below.refl _ _).alloc (Nat.le_refl _) _
  have H := hide (h _ hb1)
  have HG : Hid (w.grownBy (w.alloc (.cells #[.slice a n c] 62)) (Value.slice a n c).ownBlock) := hide (World.grownBy_alloc w _ _)
  clear h hb1
  go_enter Tryd.func37, Tryd.ntmps37
  go_wp2_with fail
  refine H.out.mono ?_
  rintro e w2 ⟨rfl, hg2, hp2⟩
  have HG2 := hide (HG.out.trans hg2)
  have HP := hide hp2
  clear hg2 hp2
  go_wp2
  go_ret
  exact ⟨rfl, HG2.out, HP.out⟩

theorem markRope_own {w : World} {B : Nat} {v : Value} {l : List Bg} (h : BoOwn w B v l) (hm : l.length ≤ 10000000) :
    Calls Tryd.prog 37 #[.agg #[v], .int .i64 1] w fun e w' => e = .returned (.int .i64 (1 + l.length * 5 : Nat)) ∧ w.grownBy w' v.ownBlock ∧ BoMk w' v l.length := by
  obtain ⟨a, c, ea, -, -⟩ := own_shp h
  exact markRope_of (K := 1) (K2 := 1 + l.length * 5) ea h.lt (fun w1 h1 => markBo_own (own_below h h1) hm)

theorem markRope_cp {w : World} {g : Nat} {l : List Bg} (h : BoCp w g l) (hm : l.length ≤ 2000000) :
    Calls Tryd.prog 37 #[.agg #[.slice (some ⟨g, 0, none⟩) l.length l.length], .int .i64 1] w fun e w' => e = .returned (.int .i64 (1 + l.length * 5 : Nat)) ∧ w.grownBy w' (some g) := by
  refine (markRope_of (K := 1) (K2 := 1 + l.length * 5) (Φ := fun _ => True) (v := .slice (some ⟨g, 0, none⟩) l.length l.length) rfl (fun y hy => by cases hy; exact h.lt) (fun w1 h1 => (markBo_cp (h.later h1) hm).mono (fun e w' ⟨k1, k2⟩ => ⟨k1, k2, trivial⟩))).mono ?_
  rintro e w' ⟨rfl, h1, -⟩
  exact ⟨rfl, h1⟩

set_option maxRecDepth 100000 in
set_option maxHeartbeats 2000000 in
theorem heldRope_of {w : World} {v : Value} {n : Nat} (h : BoMk w v n) (hm : n ≤ 10000000) :
    Calls Tryd.prog 38 #[.agg #[v], .int .i64 1] w fun e w' => e = .returned (.int .i64 (1 + n * 5 : Nat)) ∧ Below w.heap.size w w' := by
  have hb1 : Below w.heap.size w (w.alloc (.cells #[v] 62)) := (Below.refl _ _).alloc (Nat.le_refl _) _
  have H := hide (heldBo_own (h.later hb1) hm)
  obtain ⟨a, c, m, ev⟩ : ∃ a c m, v = .slice a m c := by
    rcases h with ⟨-, a, c, e⟩ | ⟨g, c, e, -⟩
    · exact ⟨a, c, 0, e⟩
    · exact ⟨_, c, n, e⟩
  subst ev
  have HB := hide hb1
  have hK : decide (((1 + n * 5 : Nat) : Int) < 0) = false := by rw [decide_eq_false_iff_not]; omega
  obtain ⟨K, hKe⟩ : ∃ K : Int, ((1 + n * 5 : Nat) : Int) = K := ⟨_, rfl⟩
  rw [hKe] at H hK ⊢
  clear hb1 h hKe
  go_enter Tryd.func38, Tryd.ntmps38
  go_wp2_with fail
  refine H.out.mono ?_
  rintro e w2 ⟨rfl, hb2⟩
  have HB2 : Hid (Below w.heap.size w w2) := hide (HB.out.trans (hb2.mono (by simp)))
  clear hb2
  go_wp2
  go_ret
  exact ⟨rfl, HB2.out⟩

set_option maxRecDepth 100000 in
set_option maxHeartbeats 2000000 in
theorem szRope_from {w : World} {v : Value} {l : List Bg} (h : ArgBo w v l) (hs : ∀ i (hi : i < l.length), l[i].text.size ≤ 9223372036854775807) (left : Nat) (hlf : left ≤ 1048576) :
    Calls Tryd.prog 32 #[.agg #[v], .int .i64 (left : Int)] w fun e w' => e = .returned (.int .i64 (if szBon l ≤ left then ((left - szBon l : Nat) : Int) else -1)) ∧ Below w.heap.size w w' := by
  have hb1 : Below w.heap.size w (w.alloc (.cells #[v] 58)) := (Below.refl _ _).alloc (Nat.le_refl _) _
  have H := hide (szBo_from (h.later hb1) hs (argBo_len h) left hlf)
  obtain ⟨a, c, m, ev⟩ : ∃ a c m, v = .slice a m c := by
    cases h with
    | nil a c => exact ⟨a, c, 0, rfl⟩
    | row b off c p h1 h2 h3 h4 h5 => exact ⟨_, c, _, rfl⟩
  subst ev
  have HB := hide hb1
  clear hb1 h hs
  by_cases hq : szBon l ≤ left
  · rw [if_pos hq] at H ⊢
    obtain ⟨K, hKe⟩ : ∃ K : Nat, left - szBon l = K := ⟨_, rfl⟩
    rw [hKe] at H ⊢
    have hK : decide ((K : Int) < 0) = false := by rw [decide_eq_false_iff_not]; omega
    clear hKe hq
    go_enter Tryd.func32, Tryd.ntmps32
    go_wp2_with fail
    refine H.out.mono ?_
    rintro e w2 ⟨rfl, hb2⟩
    have HB2 : Hid (Below w.heap.size w w2) := hide (HB.out.trans (hb2.mono (by simp)))
    clear hb2
    go_wp2
    go_ret
    exact ⟨rfl, HB2.out⟩
  · rw [if_neg hq] at H ⊢
    clear hq
    go_enter Tryd.func32, Tryd.ntmps32
    go_wp2_with fail
    refine H.out.mono ?_
    rintro e w2 ⟨rfl, hb2⟩
    have HB2 : Hid (Below w.heap.size w w2) := hide (HB.out.trans (hb2.mono (by simp)))
    clear hb2
    go_wp2
    go_ret
    exact ⟨rfl, HB2.out⟩

set_option maxRecDepth 100000 in
set_option maxHeartbeats 2000000 in
theorem toRope_cp {w : World} {v : Value} {l : List Bg} (h : ArgBo w v l) (hm : l.length ≤ 2000000) :
    Calls Tryd.prog 34 #[.agg #[v]] w fun e w' => ∃ g, e = .returned (.agg #[.slice (some ⟨g, 0, none⟩) l.length l.length]) ∧ w.heap.size ≤ g ∧ BoCp w' g l ∧ Below w.heap.size w w' := by
  obtain ⟨a, c, m, ev⟩ : ∃ a c m, v = .slice a m c := by
    cases h with
    | nil a c => exact ⟨a, c, 0, rfl⟩
    | row b off c p h1 h2 h3 h4 h5 => exact ⟨_, c, _, rfl⟩
  subst ev
  obtain ⟨w1, hw1⟩ : ∃ w1, w1 = ((w.alloc (.cells #[.slice a m c] 58)).alloc (.cells #[.slice none 0 0] 62)).alloc (.cells #[.slice none 0 0] 62) := ⟨_, rfl⟩
  have hs1 : w1.heap.size = w.heap.size + 3 := by rw [hw1]; simp
  have hb0 : Below w.heap.size w (w.alloc (.cells #[.slice a m c] 58)) := (Below.refl _ _).alloc (Nat.le_refl _) _
  have h0s : (w.alloc (.cells #[.slice a m c] 58)).heap.size = w.heap.size + 1 := by simp
  obtain ⟨-, hb1, hc1, hc2⟩ := boxes2 (w.alloc (.cells #[.slice a m c] 58)) (.slice none 0 0) (.slice none 0 0)
  rw [← hw1] at hb1 hc1 hc2
  rw [h0s] at hc1 hc2 hb1
  have hbw : Below w.heap.size w w1 := hb0.trans (hb1.mono (by omega))
  have H := hide (toBo_cp (h.later hbw) hm)
  have HB := hide hbw
  have HC1 := hide hc1
  have HC2 := hide hc2
  clear h hb0 hb1 hbw hc1 hc2 h0s
  go_enter Tryd.func34, Tryd.ntmps34
  go_wp2_with fail
  rw [← hw1]
  clear hw1
  refine H.out.mono ?_
  rintro e w2 ⟨rfl, hcp, hb2⟩
  have HB2 : Hid (Below w.heap.size w w2) := hide (HB.out.trans (hb2.mono HB.out.size))
  have HD1 := hide (HC1.out.later hb2)
  have HD2 := hide (HC2.out.later hb2)
  have q1 := HD1.out.cell
  have q2 := HD1.out.fz
  have q3 := HD2.out.cell
  have q4 := HD2.out.fz
  have HCP := hide hcp
  have n1 : ¬ w.heap.size + 1 = w.heap.size + 1 + 1 := by omega
  have n2 : ¬ w.heap.size + 1 + 1 = w.heap.size + 1 := by omega
  clear hcp hb2
  go_wp2
  have HS := hide hs1
  rw [hs1] at HCP
  refine bodyPost_ret (results_cell_row rfl _ _ (w.heap.size + 1) 62 _ (0, 0) _ rfl ((HD1.out.other (d := w.heap.size + 1 + 1) (by omega) _).put _) Tryd.underlying62 rfl Tryd.sizeRope) rfl ?_
  refine ⟨w.heap.size + 3, rfl, by omega, ?_, (HB2.out.setCell (by show w.heap.size ≤ w.heap.size + 1 + 1; omega) _).setCell (by show w.heap.size ≤ w.heap.size + 1; omega) _⟩
  exact (HCP.out.grown (grown_set (grown_self _ _) 0 _) (fun e => by have := Option.some.inj e; omega)).grown (grown_set (grown_self _ _) 0 _) (fun e => by have := Option.some.inj e; omega)
end Go.Proofs.YtpeconmdmddkfaaDoor

set_option linter.unusedVariables false
namespace Go.Proofs.YtpeconmdmddkfaaDoor
open Go.RowKit
open Doc1

theorem arg_shape {w : World} {v : Value} {l : List Bg} (h : ArgBo w v l) : ∃ a c m, v = .slice a m c := by
  cases h with
  | nil a c => exact ⟨a, c, 0, rfl⟩
  | row b off c p h1 h2 h3 h4 h5 => exact ⟨_, c, _, rfl⟩

theorem szBon_txt (l : List Bg) (i : Nat) (hi : i < l.length) : l[i].text.size ≤ szBon l := by
  have h1 := szBoU_succ l i hi
  have h2 := szBoU_mono l (i + 1) l.length hi
  unfold szBon
  omega

theorem okB_len (o : Option Lm) : (okB o).length ≤ 1000000 := by
  unfold okB
  by_cases h : fit o = true
  · rw [if_pos h]
    unfold fit at h
    simp at h
    cases o with
    | none => simp [bo]
    | some t => simp only [bo, Lm.pd_len]; simp only [nbO] at h; omega
  · rw [if_neg h]; simp

theorem roL_len (s : ByteArray) : (roL s).length ≤ 1000000 := by
  unfold roL
  split
  · exact okB_len _
  · simp

theorem rbL_len (l : List Bg) : (rbL l).length ≤ 1000000 := by
  unfold rbL
  split
  · exact okB_len _
  · simp

theorem jnL_len (l m : List Bg) : (jnL l m).length ≤ 1000000 := by
  unfold jnL
  split
  · exact okB_len _
  · simp

theorem pcR_len (l : List Bg) : (pcO (rtO l)).length ≤ 1000000 := by
  have := pcO_len (rtO l)
  have := rt_ok l
  omega
end Go.Proofs.YtpeconmdmddkfaaDoor

set_option linter.unusedVariables false
namespace Go.Proofs.YtpeconmdmddkfaaDoor
open Go.RowKit
open Doc1

/-- What stands behind a call whose rope is laid into a cell. -/
def JnQ (T : TypeId) (w0 w1 : World) (c n : Nat) (a : Option Addr) (cc : Nat) (R : List Bg) : Prop :=
  CellT T w1 c (.slice a n cc) ∧ w0.heap.size ≤ c ∧ BoOwn w1 w0.heap.size (.slice a n cc) R ∧ (∀ y, (Value.slice a n cc).ownBlock = some y → y ≠ c) ∧ Below w0.heap.size w0 w1

theorem jn_new (T : TypeId) {w0 wc : World} {b n cc : Nat} {a : Option Addr} {R : List Bg} (h : Below w0.heap.size w0 wc) (hb : w0.heap.size ≤ b) (O : BoOwn wc b (.slice a n cc) R) :
    JnQ T w0 (wc.alloc (.cells #[.slice a n cc] T)) wc.heap.size n a cc R :=
  ⟨CellT.new _ _ _, h.size, own_below (World.ownsRow.mono O hb) ((Below.refl _ _).alloc (Nat.le_refl _) _), fun y hy e => by have := World.ownsRow.lt O y hy; omega, h.alloc h.size _⟩

theorem jn_set (T : TypeId) {w0 wc : World} {b c n cc : Nat} {a : Option Addr} {R : List Bg} {x : Value} (h : Below w0.heap.size w0 wc) (hb : w0.heap.size ≤ c ∧ c < b) (O : BoOwn wc b (.slice a n cc) R) (Y : CellT T wc c x) :
    JnQ T w0 (wc.setCell ⟨c, 0, none⟩ (.slice a n cc)) c n a cc R :=
  ⟨cell_put Y 0 _, hb.1, World.ownsRow.mono (own_aside O hb.2 0 _) (by omega), fun y hy e => by have := World.ownsRow.lt O y hy; omega, h.setCell hb.1 _⟩
end Go.Proofs.YtpeconmdmddkfaaDoor

set_option linter.unusedVariables false
namespace Go.Proofs.YtpeconmdmddkfaaDoor
open Go.RowKit
open Doc1

set_option maxHeartbeats 4000000 in
theorem markBoughS_wk (g c n K : Nat) (w : World) (hm : n ≤ 10000000) (hK : 0 < K ∧ K ≤ 500000000) (_h1 : n ≤ c ∧ c ≤ maxLen) (hg : g < w.heap.size) (hb : Blk w g (n * 5)) :
    Calls Tryd.prog 97 #[.slice (some ⟨g, 0, none⟩) n c, .int .i64 (K : Int)] w fun e w' => e = .returned (.int .i64 (K + n * 5 : Nat)) ∧ w.grownBy w' (some g) := by
  have T : Hid (∀ (K : Nat) w, 0 < K → K ≤ 1000000000 → Calls Tryd.prog 69 #[.int .i64 (K : Int)] w fun e w' => e = .returned (.string (mkT K)) ∧ Below w.heap.size w w') := hide (fun K w h1 h2 => markText_any K w h1 h2)
  go_enter Tryd.func97, Tryd.ntmps97
  go_wp2
  go_loopw [1, 5] (fun k1 i wr => ∃ k : Nat, k ≤ n ∧ i = .int .i64 k ∧ k1 = .int .i64 (K + k * 5 : Nat) ∧ Hid (WB w g (n * 5) wr)) (fun _ i _ => n - (intOf i).toNat)
  case atStart => exact ⟨0, by omega, rfl, rfl, hide (wb_start hb hg)⟩
  case round =>
    obtain ⟨k, hk, rfl, rfl, R0⟩ := hrel
    by_cases hlt : k < n
    · clear hb
      have r0 := R0.out
      obtain ⟨y0, hy0⟩ := r0.blk.ex (k * 5) (by omega)
      have f0 := r0.blk.fz (k * 5)
      have R1 := hide (r0.put (k * 5) (.int .i64 ((K : Int) + (k : Int) * 5)))
      clear r0
      have r1 := R1.out
      obtain ⟨y1, hy1⟩ := r1.blk.ex (k * 5 + 1) (by omega)
      have f1 := r1.blk.fz (k * 5 + 1)
      have R2 := hide (r1.put (k * 5 + 1) (.int .i64 ((K : Int) + (k : Int) * 5 + 1)))
      clear r1
      have r2 := R2.out
      obtain ⟨W2, hW2⟩ : ∃ W, W = ((wr.setCell ⟨g, k * 5, none⟩ (.int .i64 ((K : Int) + (k : Int) * 5))).setCell ⟨g, k * 5 + 1, none⟩ (.int .i64 ((K : Int) + (k : Int) * 5 + 1))) := ⟨_, rfl⟩
      rw [← hW2] at R2
      clear r2
      go_wp2_with fail
      rw [← hW2]
      clear hW2 hy0 f0 hy1 f1
      go_wp2_with fail
      refine (T.out (K + k * 5 + 2) W2 (by omega) (by omega)).mono ?_
      rintro e x2 ⟨rfl, hb2⟩
      have r2 := R2.out.below hb2
      obtain ⟨y2, hy2⟩ := r2.blk.ex (k * 5 + 2) (by omega)
      have f2 := r2.blk.fz (k * 5 + 2)
      have R3 := hide (r2.put (k * 5 + 2) (.string (mkT (K + k * 5 + 2))))
      clear r2 hb2
      have r3 := R3.out
      obtain ⟨y3, hy3⟩ := r3.blk.ex (k * 5 + 3) (by omega)
      have f3 := r3.blk.fz (k * 5 + 3)
      have R4 := hide (r3.put (k * 5 + 3) (.int .i64 ((K : Int) + (k : Int) * 5 + 1 + 1 + 1)))
      clear r3
      have r4 := R4.out
      obtain ⟨y4, hy4⟩ := r4.blk.ex (k * 5 + 4) (by omega)
      have f4 := r4.blk.fz (k * 5 + 4)
      have R5 := hide (r4.put (k * 5 + 4) (.int .i64 ((K : Int) + (k : Int) * 5 + 1 + 1 + 1 + 1)))
      clear r4
      obtain ⟨WZ, hWZ⟩ : ∃ W, W = (((x2.setCell ⟨g, k * 5 + 2, none⟩ (.string (mkT (K + k * 5 + 2)))).setCell ⟨g, k * 5 + 3, none⟩ (.int .i64 ((K : Int) + (k : Int) * 5 + 1 + 1 + 1))).setCell ⟨g, k * 5 + 4, none⟩ (.int .i64 ((K : Int) + (k : Int) * 5 + 1 + 1 + 1 + 1))) := ⟨_, rfl⟩
      rw [← hWZ] at R5
      go_wp2
      rw [← hWZ]
      refine ⟨⟨k + 1, by omega, by go_num, by rw [show (K : Int) + ↑k * 5 + 1 + 1 + 1 + 1 + 1 = ((K + (k + 1) * 5 : Nat) : Int) by omega], R5⟩, by simp [intOf]; omega⟩
    · obtain rfl : k = n := by omega
      go_wp2
      go_ret
      exact ⟨rfl, R0.out.grown⟩
theorem markBo_from {w : World} {g : Nat} {l : List Bg} (h : BoCp w g l) (hm : l.length ≤ 2000000) (K : Nat) (hK : 0 < K ∧ K ≤ 500000000) :
    Calls Tryd.prog 97 #[.slice (some ⟨g, 0, none⟩) l.length l.length, .int .i64 (K : Int)] w fun e w' => e = .returned (.int .i64 (K + l.length * 5 : Nat)) ∧ w.grownBy w' (some g) :=
  markBoughS_wk g l.length l.length K w (by omega) hK ⟨Nat.le_refl _, by unfold maxLen; omega⟩ h.lt h.blk
theorem markBo_on {w : World} {g : Nat} {l : List Bg} (h : BoCp w g l) (hm : l.length ≤ 2000000) (K : Nat) (hK : 0 < K ∧ K ≤ 500000000) {a : Int} (ha : a = (K : Int)) :
    Calls Tryd.prog 97 #[.slice (some ⟨g, 0, none⟩) l.length l.length, .int .i64 a] w fun e w' => e = .returned (.int .i64 (K + l.length * 5 : Nat)) ∧ w.grownBy w' (some g) := by
  subst ha; exact markBo_from h hm K hK

theorem markRope_on {w : World} {g : Nat} {l : List Bg} (h : BoCp w g l) (hm : l.length ≤ 2000000) (K : Nat) (hK : 0 < K ∧ K ≤ 500000000) :
    Calls Tryd.prog 37 #[.agg #[.slice (some ⟨g, 0, none⟩) l.length l.length], .int .i64 (K : Int)] w fun e w' => e = .returned (.int .i64 (K + l.length * 5 : Nat)) ∧ w.grownBy w' (some g) := by
  refine (markRope_of (K := K) (K2 := K + l.length * 5) (Φ := fun _ => True) (v := .slice (some ⟨g, 0, none⟩) l.length l.length) rfl (fun y hy => by cases hy; exact h.lt) (fun w1 h1 => (markBo_from (h.later h1) hm K hK).mono (fun e w' ⟨k1, k2⟩ => ⟨k1, k2, trivial⟩))).mono ?_
  rintro e w' ⟨rfl, h1, -⟩
  exact ⟨rfl, h1⟩
end Go.Proofs.YtpeconmdmddkfaaDoor

set_option linter.unusedVariables false
namespace Go.Proofs.YtpeconmdmddkfaaDoor
open Go.RowKit
open Doc1

/-- The mark at a place, from K on. -/
def mkc (K j : Nat) : Value := if j % 5 = 2 then .string (mkT (K + j)) else .int .i64 ((K + j : Nat) : Int)
theorem mkc_i {K j : Nat} {x : Int} (h : j % 5 ≠ 2) (hx : x = ((K + j : Nat) : Int)) : mkc K j = .int .i64 x := by unfold mkc; rw [if_neg h, hx]
theorem mkc_s {K j x : Nat} (h : j % 5 = 2) (hx : x = K + j) : mkc K j = .string (mkT x) := by unfold mkc; rw [if_pos h, hx]
/-- The first of a block are marked. -/
def MkA (K : Nat) (w : World) (g m : Nat) : Prop := ∀ j, j < m → w.cell? ⟨g, j, none⟩ = some (mkc K j)
theorem MkA.later {K : Nat} {w w1 : World} {B g m : Nat} (h : MkA K w g m) (hb : Below B w w1) (hg : g < B) : MkA K w1 g m := fun j hj => (World.cell?_of_block (hb.block g hg)).trans (h j hj)
structure WK (K : Nat) (w : World) (g n m : Nat) (wr : World) : Prop where
  wb : WB w g n wr
  c : MkA K wr g m
theorem WK.below {K : Nat} {w wr w1 : World} {g n m : Nat} (h : WK K w g n m wr) (hb : Below wr.heap.size wr w1) : WK K w g n m w1 :=
  ⟨h.wb.below hb, h.c.later hb (Nat.lt_of_lt_of_le h.wb.lt h.wb.grown.size)⟩
theorem WK.put {K : Nat} {w wr : World} {g n m : Nat} (h : WK K w g n m wr) (hm : m < n) (v : Value) (hv : mkc K m = v) : WK K w g n (m + 1) (wr.setCell ⟨g, m, none⟩ v) :=
  ⟨h.wb.put m v, fun j hj => by
    obtain ⟨y, hy⟩ := h.wb.blk.ex m hm
    by_cases e : j = m
    · subst e; rw [hv]; exact World.cell?_setCell_same _ _ _ hy
    · rw [World.cell?_setCell_other _ _ _ _ (fun c => e (Addr.mk.inj c).2.1.symm)]; exact h.c j (by omega)⟩
theorem wk_start (K : Nat) {w : World} {g n : Nat} (hb : Blk w g n) (hg : g < w.heap.size) : WK K w g n (0 * 5) w := ⟨wb_start hb hg, fun j hj => by omega⟩

set_option maxHeartbeats 4000000 in
theorem markBoughS_k (g c n K : Nat) (w : World) (hm : n ≤ 10000000) (hK : 0 < K ∧ K ≤ 500000000) (_h1 : n ≤ c ∧ c ≤ maxLen) (hg : g < w.heap.size) (hb : Blk w g (n * 5)) :
    Calls Tryd.prog 97 #[.slice (some ⟨g, 0, none⟩) n c, .int .i64 (K : Int)] w fun e w' => e = .returned (.int .i64 (K + n * 5 : Nat)) ∧ w.grownBy w' (some g) ∧ MkA K w' g (n * 5) := by
  have T : Hid (∀ (K : Nat) w, 0 < K → K ≤ 1000000000 → Calls Tryd.prog 69 #[.int .i64 (K : Int)] w fun e w' => e = .returned (.string (mkT K)) ∧ Below w.heap.size w w') := hide (fun K w h1 h2 => markText_any K w h1 h2)
  go_enter Tryd.func97, Tryd.ntmps97
  go_wp2
  go_loopw [1, 5] (fun k1 i wr => ∃ k : Nat, k ≤ n ∧ i = .int .i64 k ∧ k1 = .int .i64 (K + k * 5 : Nat) ∧ Hid (WK K w g (n * 5) (k * 5) wr)) (fun _ i _ => n - (intOf i).toNat)
  case atStart => exact ⟨0, by omega, rfl, rfl, hide (wk_start K hb hg)⟩
  case round =>
    obtain ⟨k, hk, rfl, rfl, R0⟩ := hrel
    by_cases hlt : k < n
    · clear hb
      have r0 := R0.out
      obtain ⟨y0, hy0⟩ := r0.wb.blk.ex (k * 5) (by omega)
      have f0 := r0.wb.blk.fz (k * 5)
      have R1 := hide (r0.put (by omega) (.int .i64 ((K : Int) + (k : Int) * 5)) (mkc_i (by omega) (by omega)))
      clear r0
      have r1 := R1.out
      obtain ⟨y1, hy1⟩ := r1.wb.blk.ex (k * 5 + 1) (by omega)
      have f1 := r1.wb.blk.fz (k * 5 + 1)
      have R2 := hide (r1.put (by omega) (.int .i64 ((K : Int) + (k : Int) * 5 + 1)) (mkc_i (by omega) (by omega)))
      clear r1
      have r2 := R2.out
      obtain ⟨W2, hW2⟩ : ∃ W, W = ((wr.setCell ⟨g, k * 5, none⟩ (.int .i64 ((K : Int) + (k : Int) * 5))).setCell ⟨g, k * 5 + 1, none⟩ (.int .i64 ((K : Int) + (k : Int) * 5 + 1))) := ⟨_, rfl⟩
      rw [← hW2] at R2
      clear r2
      go_wp2_with fail
      rw [← hW2]
      clear hW2 hy0 f0 hy1 f1
      go_wp2_with fail
      refine (T.out (K + k * 5 + 2) W2 (by omega) (by omega)).mono ?_
      rintro e x2 ⟨rfl, hb2⟩
      have r2 := R2.out.below hb2
      obtain ⟨y2, hy2⟩ := r2.wb.blk.ex (k * 5 + 2) (by omega)
      have f2 := r2.wb.blk.fz (k * 5 + 2)
      have R3 := hide (r2.put (by omega) (.string (mkT (K + k * 5 + 2))) (mkc_s (by omega) (by omega)))
      clear r2 hb2
      have r3 := R3.out
      obtain ⟨y3, hy3⟩ := r3.wb.blk.ex (k * 5 + 3) (by omega)
      have f3 := r3.wb.blk.fz (k * 5 + 3)
      have R4 := hide (r3.put (by omega) (.int .i64 ((K : Int) + (k : Int) * 5 + 1 + 1 + 1)) (mkc_i (by omega) (by omega)))
      clear r3
      have r4 := R4.out
      obtain ⟨y4, hy4⟩ := r4.wb.blk.ex (k * 5 + 4) (by omega)
      have f4 := r4.wb.blk.fz (k * 5 + 4)
      have R5 := hide (r4.put (by omega) (.int .i64 ((K : Int) + (k : Int) * 5 + 1 + 1 + 1 + 1)) (mkc_i (by omega) (by omega)))
      clear r4
      obtain ⟨WZ, hWZ⟩ : ∃ W, W = (((x2.setCell ⟨g, k * 5 + 2, none⟩ (.string (mkT (K + k * 5 + 2)))).setCell ⟨g, k * 5 + 3, none⟩ (.int .i64 ((K : Int) + (k : Int) * 5 + 1 + 1 + 1))).setCell ⟨g, k * 5 + 4, none⟩ (.int .i64 ((K : Int) + (k : Int) * 5 + 1 + 1 + 1 + 1))) := ⟨_, rfl⟩
      rw [← hWZ] at R5
      go_wp2
      rw [← hWZ]
      refine ⟨⟨k + 1, by omega, by go_num, by rw [show (K : Int) + ↑k * 5 + 1 + 1 + 1 + 1 + 1 = ((K + (k + 1) * 5 : Nat) : Int) by omega], by rw [show (k + 1) * 5 = k * 5 + 4 + 1 by omega]; exact R5⟩, by simp [intOf]; omega⟩
    · obtain rfl : k = n := by omega
      go_wp2
      go_ret
      exact ⟨rfl, R0.out.wb.grown, R0.out.c⟩

set_option maxHeartbeats 4000000 in
theorem heldBoughS_k (g c n K : Nat) (w : World) (hK : 0 < K ∧ K ≤ 500000000) (hm : n ≤ 10000000) (_h1 : n ≤ c ∧ c ≤ maxLen) (hg : g < w.heap.size) (hb : MkA K w g (n * 5)) :
    Calls Tryd.prog 98 #[.slice (some ⟨g, 0, none⟩) n c, .int .i64 (K : Int)] w fun e w' => e = .returned (.int .i64 (K + n * 5 : Nat)) ∧ Below w.heap.size w w' := by
  have T : Hid (∀ (K : Nat) w, 0 < K → K ≤ 1000000000 → Calls Tryd.prog 69 #[.int .i64 (K : Int)] w fun e w' => e = .returned (.string (mkT K)) ∧ Below w.heap.size w w') := hide (fun K w h1 h2 => markText_any K w h1 h2)
  go_enter Tryd.func98, Tryd.ntmps98
  go_wp2
  go_loopw [1, 5] (fun k1 i wr => ∃ k : Nat, k ≤ n ∧ i = .int .i64 k ∧ k1 = .int .i64 (K + k * 5 : Nat) ∧ Below w.heap.size w wr) (fun _ i _ => n - (intOf i).toNat)
  case atStart => exact ⟨0, by omega, rfl, by rw [Nat.zero_mul]; rfl, Below.refl _ _⟩
  case round =>
    obtain ⟨k, hk, rfl, rfl, hbel⟩ := hrel
    by_cases hlt : k < n
    · have C : Hid (∀ wx, Below w.heap.size w wx → wx.cell? ⟨g, k * 5, none⟩ = some (.int .i64 ((K : Int) + (k : Int) * 5)) ∧ wx.cell? ⟨g, k * 5 + 1, none⟩ = some (.int .i64 ((K : Int) + (k : Int) * 5 + 1)) ∧ wx.cell? ⟨g, k * 5 + 2, none⟩ = some (.string (mkT (K + k * 5 + 2))) ∧ wx.cell? ⟨g, k * 5 + 3, none⟩ = some (.int .i64 ((K : Int) + (k : Int) * 5 + 1 + 1 + 1)) ∧ wx.cell? ⟨g, k * 5 + 4, none⟩ = some (.int .i64 ((K : Int) + (k : Int) * 5 + 1 + 1 + 1 + 1))) := hide (fun wx hx => by
        have h := hb.later hx hg
        exact ⟨by rw [h _ (by omega), mkc_i (x := (K : Int) + (k : Int) * 5) (by omega) (by omega)], by rw [h _ (by omega), mkc_i (x := (K : Int) + (k : Int) * 5 + 1) (by omega) (by omega)], by rw [h _ (by omega), mkc_s (x := K + k * 5 + 2) (by omega) (by omega)], by rw [h _ (by omega), mkc_i (x := (K : Int) + (k : Int) * 5 + 1 + 1 + 1) (by omega) (by omega)], by rw [h _ (by omega), mkc_i (x := (K : Int) + (k : Int) * 5 + 1 + 1 + 1 + 1) (by omega) (by omega)]⟩)
      clear hb
      obtain ⟨c0, c1, c2, c3, c4⟩ := C.out wr hbel
      have T2 := hide (fun w => T.out (K + k * 5 + 2) w (by omega) (by omega))
      go_wp2_with fail
      go_region_with (go_at_call 69; refine (T2.out _).mono ?_; rintro e w2 ⟨rfl, hb2⟩; have hB2 := hbel.trans ((Below.refl _ _).drew.trans (hb2.mono (show w.heap.size ≤ wr.drew.heap.size from hbel.size))); obtain ⟨d2_0, d2_1, d2_2, d2_3, d2_4⟩ := C.out w2 hB2)
      all_goals
        (try clear c0)
        (try clear c1)
        (try clear c2)
        (try clear c3)
        (try clear c4)
        clear hb2 hbel T2
        go_wp2
        refine ⟨⟨k + 1, by omega, by go_num, by rw [show (K : Int) + ↑k * 5 + 1 + 1 + 1 + 1 + 1 = ((K + (k + 1) * 5 : Nat) : Int) by omega], hB2⟩, by simp [intOf]; omega⟩
    · obtain rfl : k = n := by omega
      go_wp2
      go_ret
      exact ⟨rfl, hbel⟩

/-- A row that is marked from K on. -/
def BoMq (K : Nat) (w : World) (v : Value) (n : Nat) : Prop := (n = 0 ∧ ∃ a cap, v = .slice a 0 cap) ∨ ∃ g cap, v = .slice (some ⟨g, 0, none⟩) n cap ∧ n ≤ cap ∧ cap ≤ maxLen ∧ g < w.heap.size ∧ MkA K w g (n * 5)
theorem BoMq.later {K : Nat} {w w1 : World} {v : Value} {n : Nat} (h : BoMq K w v n) (hb : Below w.heap.size w w1) : BoMq K w1 v n :=
  h.imp id (fun ⟨g, cap, e, h1, h2, h3, h4⟩ => ⟨g, cap, e, h1, h2, Nat.lt_of_lt_of_le h3 hb.size, h4.later hb h3⟩)
theorem BoMq.grown {K : Nat} {w w1 : World} {v : Value} {n : Nat} {r : Option Nat} (h : BoMq K w v n) (hg : w.grownBy w1 r) (hne : ∀ y, v.ownBlock = some y → r ≠ some y) : BoMq K w1 v n := by
  rcases h with h | ⟨g, cap, rfl, h1, h2, h3, h4⟩
  · exact .inl h
  · exact .inr ⟨g, cap, rfl, h1, h2, Nat.lt_of_lt_of_le h3 hg.size, fun j hj => (World.cell?_of_block (a := ⟨g, j, none⟩) (hg.block g h3 (fun e => hne g rfl e.symm))).trans (h4 j hj)⟩

set_option maxHeartbeats 400000 in
theorem markBoughS_z (a : Option Addr) (ca : Nat) (K : Int) (w : World) :
    Calls Tryd.prog 97 #[.slice a 0 ca, .int .i64 K] w fun e w' => e = .returned (.int .i64 K) ∧ w' = w := by
  go_enter Tryd.func97, Tryd.ntmps97
  go_wp2
  go_loop [1, 5] (fun k i => k = .int .i64 K ∧ i = .int .i64 0) (fun _ _ => 0)
  case atStart => exact ⟨rfl, rfl⟩
  case round =>
    obtain ⟨rfl, rfl⟩ := hrel
    go_wp2
    go_ret
    exact ⟨rfl, rfl⟩

set_option maxHeartbeats 400000 in
theorem heldBoughS_z (a : Option Addr) (ca : Nat) (K : Int) (w : World) :
    Calls Tryd.prog 98 #[.slice a 0 ca, .int .i64 K] w fun e w' => e = .returned (.int .i64 K) ∧ w' = w := by
  go_enter Tryd.func98, Tryd.ntmps98
  go_wp2
  go_loop [1, 5] (fun k i => k = .int .i64 K ∧ i = .int .i64 0) (fun _ _ => 0)
  case atStart => exact ⟨rfl, rfl⟩
  case round =>
    obtain ⟨rfl, rfl⟩ := hrel
    go_wp2
    go_ret
    exact ⟨rfl, rfl⟩

theorem markBo_k {w : World} {B : Nat} {v : Value} {l : List Bg} (h : BoOwn w B v l) (hm : l.length ≤ 10000000) (K : Nat) (hK : 0 < K ∧ K ≤ 400000000) :
    Calls Tryd.prog 97 #[v, .int .i64 (K : Int)] w fun e w' => e = .returned (.int .i64 (K + l.length * 5 : Nat)) ∧ w.grownBy w' v.ownBlock ∧ BoMq K w' v l.length := by
  unfold BoOwn at h
  by_cases h0 : l = []
  · subst h0
    obtain ⟨a, ca, rfl, -, -⟩ := own_shp h
    refine (markBoughS_z a ca K w).mono ?_
    rintro e w' ⟨rfl, rfl⟩
    exact ⟨rfl, grown_self _ _, .inl ⟨rfl, a, ca, rfl⟩⟩
  · obtain ⟨ga, ca, rfl, a1, a2, -, a3, a4, a5⟩ := own_cat h (List.length_pos_iff.2 h0)
    refine (markBoughS_k ga ca l.length K w hm (by omega) ⟨a1, a2⟩ a3 (by rw [← encBo_len]; exact a5)).mono ?_
    rintro e w' ⟨rfl, hg, hi⟩
    exact ⟨rfl, hg, .inr ⟨ga, ca, rfl, a1, a2, Nat.lt_of_lt_of_le a3 hg.size, hi⟩⟩
theorem heldBo_k {w : World} {v : Value} {n K : Nat} (h : BoMq K w v n) (hm : n ≤ 10000000) (hK : 0 < K ∧ K ≤ 400000000) :
    Calls Tryd.prog 98 #[v, .int .i64 (K : Int)] w fun e w' => e = .returned (.int .i64 (K + n * 5 : Nat)) ∧ Below w.heap.size w w' := by
  rcases h with ⟨rfl, a, ca, rfl⟩ | ⟨g, cap, rfl, h1, h2, h3, h4⟩
  · refine (heldBoughS_z a ca K w).mono ?_
    rintro e w' ⟨rfl, rfl⟩
    exact ⟨rfl, Below.refl _ _⟩
  · exact heldBoughS_k g cap n K w (by omega) hm ⟨h1, h2⟩ h3 h4
theorem markRope_k {w : World} {B : Nat} {v : Value} {l : List Bg} (h : BoOwn w B v l) (hm : l.length ≤ 10000000) (K : Nat) (hK : 0 < K ∧ K ≤ 400000000) :
    Calls Tryd.prog 37 #[.agg #[v], .int .i64 (K : Int)] w fun e w' => e = .returned (.int .i64 (K + l.length * 5 : Nat)) ∧ w.grownBy w' v.ownBlock ∧ BoMq K w' v l.length := by
  obtain ⟨a, c, ea, -, -⟩ := own_shp h
  exact markRope_of (K := K) (K2 := K + l.length * 5) ea h.lt (fun w1 h1 => markBo_k (own_below h h1) hm K hK)

set_option maxRecDepth 100000 in
set_option maxHeartbeats 2000000 in
theorem heldRope_k {w : World} {v : Value} {n M : Nat} (h : BoMq M w v n) (hm : n ≤ 10000000) (hM : 0 < M ∧ M ≤ 400000000) :
    Calls Tryd.prog 38 #[.agg #[v], .int .i64 (M : Int)] w fun e w' => e = .returned (.int .i64 (M + n * 5 : Nat)) ∧ Below w.heap.size w w' := by
  have hb1 : Below w.heap.size w (w.alloc (.cells #[v] 62)) := (Below.refl _ _).alloc (Nat.le_refl _) _
  have H := hide (heldBo_k (h.later hb1) hm hM)
  obtain ⟨a, c, m, ev⟩ : ∃ a c m, v = .slice a m c := by
    rcases h with ⟨-, a, c, e⟩ | ⟨g, c, e, -⟩
    · exact ⟨a, c, 0, e⟩
    · exact ⟨_, c, n, e⟩
  subst ev
  have HB := hide hb1
  have hK : decide (((M + n * 5 : Nat) : Int) < 0) = false := by rw [decide_eq_false_iff_not]; omega
  obtain ⟨K, hKe⟩ : ∃ K : Int, ((M + n * 5 : Nat) : Int) = K := ⟨_, rfl⟩
  rw [hKe] at H hK ⊢
  clear hb1 h hKe
  go_enter Tryd.func38, Tryd.ntmps38
  go_wp2_with fail
  refine H.out.mono ?_
  rintro e w2 ⟨rfl, hb2⟩
  have HB2 : Hid (Below w.heap.size w w2) := hide (HB.out.trans (hb2.mono (by simp)))
  clear hb2
  go_wp2
  go_ret
  exact ⟨rfl, HB2.out⟩
end Go.Proofs.YtpeconmdmddkfaaDoor
