/- The heap of ends in memory, and its order and its swap. The heap's order and its swap. The heap's order. What rises in the heap of ends. What sinks in the heap of ends. An end is pushed onto the heap. The first end is taken from the heap. A mark's two ends are pushed. The heap is emptied: the marks that its ends make. The program's CutMarks. The program's AddMark. -/
import Derived.Test.YtbooongkbninhaaDoorHeapQ
import Derived.Test.YtbooongkbninhaaDoorCells
import Derived.Test.YtbooongkbninhaaDoorOwnG
import Derived.BigRegion
import Derived.Test.YtbooongkbninhaaDoorRange
import Derived.Deep.RegionHeld3
import Derived.Deep.RegionLaw
import Derived.Deep.AppendLies
import Derived.Maps.AppendAt
import Derived.Test.YtbooongkbninhaaDoorRowsMark
import Derived.Test.YtbooongkbninhaaDoorShelf
import Derived.Test.YtbooongkbninhaaDoorMarkWA
namespace Go.Proofs.YtbooongkbninhaaDoor
open Go.RowKit
open Doc1

def enC (x : En) : List Value := [.string x.st, .int .i64 x.at', .int .i64 x.op]
def enV (x : En) : Value := .agg #[.string x.st, .int .i64 x.at', .int .i64 x.op]
def encE (l : List En) : List Value := l.flatMap enC
theorem encE_len (l : List En) : (encE l).length = l.length * 3 := by
  induction l with
  | nil => rfl
  | cons x l ih => rw [encE, List.flatMap_cons, List.length_append]; change _ + (encE l).length = _; rw [ih]; simp [enC]; omega
theorem encE_app (a b : List En) : encE (a ++ b) = encE a ++ encE b := by simp [encE]
theorem encE_at (l : List En) : ∀ i (h : i < l.length), (encE l)[i * 3]? = some (.string l[i].st) ∧ (encE l)[i * 3 + 1]? = some (.int .i64 l[i].at') ∧ (encE l)[i * 3 + 2]? = some (.int .i64 l[i].op) := by
  induction l with
  | nil => intro i h; simp at h
  | cons x l ih =>
    intro i h
    have e : encE (x :: l) = enC x ++ encE l := by simp [encE]
    cases i with
    | zero => rw [e]; simp [enC]
    | succ i =>
      have := ih i (by simpa using h)
      rw [e, show (i + 1) * 3 = 3 + i * 3 by omega, show 3 + i * 3 + 1 = 3 + (i * 3 + 1) by omega, show 3 + i * 3 + 2 = 3 + (i * 3 + 2) by omega]
      rw [List.getElem?_append_right (by simp [enC]), List.getElem?_append_right (by simp [enC]), List.getElem?_append_right (by simp [enC])]
      simpa [enC] using this
theorem encE_set (l : List En) (x : En) : ∀ i, i < l.length → (((encE l).set (i * 3) (.string x.st)).set (i * 3 + 1) (.int .i64 x.at')).set (i * 3 + 2) (.int .i64 x.op) = encE (l.set i x) := by
  induction l with
  | nil => intro i h; simp at h
  | cons y l ih =>
    intro i h
    have e : ∀ z (m : List En), encE (z :: m) = .string z.st :: .int .i64 z.at' :: .int .i64 z.op :: encE m := fun z m => by simp [encE, enC]
    cases i with
    | zero => simp [e]
    | succ i =>
      have := ih i (by simpa using h)
      rw [show (i + 1) * 3 = i * 3 + 2 + 1 by omega]
      simp only [e, List.set_cons_succ]
      rw [← this]

/-- The heap: a box that names a row of its own. -/
structure Hb (h g n cap : Nat) (cs : List Value) (w : World) : Prop where
  c : w.cell? ⟨h, 0, none⟩ = some (.slice (some ⟨g, 0, none⟩) n cap)
  fz : w.frozen? ⟨h, 0, none⟩ = false
  ne : h ≠ g
  row : w.heap[g]? = some (.cells cs.toArray 93 (0, 0))
  len : cs.length = cap * 3
  cap : n ≤ cap ∧ cap ≤ maxLen
/-- It holds these ends. -/
structure Hl (h g cap : Nat) (l : List En) (w : World) : Prop where
  ex : ∃ cs, Hb h g l.length cap cs w ∧ cs.take (l.length * 3) = encE l
theorem Hb.hlt {h g n cap : Nat} {cs : List Value} {w : World} (H : Hb h g n cap cs w) : h < w.heap.size := World.block_lt_of_cell? w _ H.c
theorem Hb.glt {h g n cap : Nat} {cs : List Value} {w : World} (H : Hb h g n cap cs w) : g < w.heap.size := (Array.getElem?_eq_some_iff.1 H.row).1
theorem Hb.kept {h g n cap : Nat} {cs : List Value} {w w2 : World} (H : Hb h g n cap cs w) (h1 : w2.heap[h]? = w.heap[h]?) (h2 : w2.heap[g]? = w.heap[g]?) : Hb h g n cap cs w2 :=
  ⟨(World.cell?_of_block h1).trans H.c, (World.frozen?_of_block h1).trans H.fz, H.ne, h2.trans H.row, H.len, H.cap⟩
theorem Hb.up {h g n cap : Nat} {cs : List Value} {w w2 : World} (H : Hb h g n cap cs w) (hb : Below w.heap.size w w2) : Hb h g n cap cs w2 := H.kept (hb.block _ H.hlt) (hb.block _ H.glt)
theorem Hb.at {h g n cap : Nat} {cs : List Value} {w : World} (H : Hb h g n cap cs w) (j : Nat) (u : Value) (hu : cs[j]? = some u) : w.cell? ⟨g, j, none⟩ = some u := by
  unfold World.cell?
  rw [show w.heap[g]? = _ from H.row]
  simpa using hu
theorem Hb.gz {h g n cap : Nat} {cs : List Value} {w : World} (H : Hb h g n cap cs w) (j : Nat) : w.frozen? ⟨g, j, none⟩ = false := by
  unfold World.frozen?
  rw [show w.heap[g]? = _ from H.row]
  simp
theorem Hb.set {h g n cap : Nat} {cs : List Value} {w : World} (H : Hb h g n cap cs w) (j : Nat) (v : Value) : Hb h g n cap (cs.set j v) (w.setCell ⟨g, j, none⟩ v) := by
  have hl := H.glt
  refine ⟨?_, ?_, H.ne, ?_, by simpa using H.len, H.cap⟩
  · rw [World.cell?_setCell_other _ _ _ _ (fun e => H.ne (by cases e; rfl))]; exact H.c
  · rw [World.frozen?_setCell]; exact H.fz
  · show (w.heap.modify g _)[g]? = _
    rw [Array.getElem?_eq_getElem (by rw [Array.size_modify]; exact hl), Array.getElem_modify_self]
    have e : w.heap[g] = .cells cs.toArray 93 (0, 0) := by have := H.row; rw [Array.getElem?_eq_getElem hl] at this; exact Option.some.inj this
    rw [e]
    simp
theorem Hl.up {h g cap : Nat} {l : List En} {w w2 : World} (H : Hl h g cap l w) (hb : Below w.heap.size w w2) : Hl h g cap l w2 := by
  obtain ⟨cs, h1, h2⟩ := H.ex
  exact ⟨cs, h1.up hb, h2⟩
theorem Hl.cells {h g cap : Nat} {l : List En} {w : World} (H : Hl h g cap l w) {i : Nat} (hi : i < l.length) : w.cell? ⟨g, i * 3, none⟩ = some (.string l[i].st) ∧ w.cell? ⟨g, i * 3 + 1, none⟩ = some (.int .i64 l[i].at') ∧ w.cell? ⟨g, i * 3 + 2, none⟩ = some (.int .i64 l[i].op) := by
  obtain ⟨cs, h1, h2⟩ := H.ex
  have hl := h1.len
  have hc := h1.cap
  have e := encE_at l i hi
  rw [← h2] at e
  have key : ∀ m u, m < 3 → (cs.take (l.length * 3))[i * 3 + m]? = some u → cs[i * 3 + m]? = some u := fun m u hm hu => by
    rw [List.getElem?_take_of_lt (by omega)] at hu; exact hu
  exact ⟨h1.at _ _ (key 0 _ (by omega) e.1), h1.at _ _ (key 1 _ (by omega) e.2.1), h1.at _ _ (key 2 _ (by omega) e.2.2)⟩
theorem Hl.put {h g cap : Nat} {l : List En} {w : World} (H : Hl h g cap l w) {i : Nat} (hi : i < l.length) (x : En) :
    Hl h g cap (l.set i x) (((w.setCell ⟨g, i * 3, none⟩ (.string x.st)).setCell ⟨g, i * 3 + 1, none⟩ (.int .i64 x.at')).setCell ⟨g, i * 3 + 2, none⟩ (.int .i64 x.op)) := by
  obtain ⟨cs, h1, h2⟩ := H.ex
  refine ⟨_, by simpa using ((h1.set (i * 3) (.string x.st)).set (i * 3 + 1) (.int .i64 x.at')).set (i * 3 + 2) (.int .i64 x.op), ?_⟩
  rw [List.length_set, ← encE_set l x i hi, ← h2, List.take_set, List.take_set, List.take_set]
end Go.Proofs.YtbooongkbninhaaDoor

namespace Go.Proofs.YtbooongkbninhaaDoor
open Go.RowKit
open Doc1

set_option maxRecDepth 100000 in
set_option maxHeartbeats 4000000 in
theorem swap_any {h g cap : Nat} {l : List En} {w : World} (H : Hl h g cap l w) {i j : Nat} (hi : i < l.length) (hj : j < l.length) :
    Calls Tryd.prog 81 #[.pointer (some ⟨h, 0, none⟩), .int .i64 (i : Int), .int .i64 (j : Int)] w fun e w' => e = .returned (.tuple #[]) ∧ Hl h g cap ((l.set i l[j]).set j l[i]) w' ∧ Moves (fun k => k = g) w (fun k => k = g) w' := by
  obtain ⟨c0, c1, c2⟩ := H.cells hi
  obtain ⟨d0, d1, d2⟩ := H.cells hj
  have hh : w.cell? ⟨h, 0, none⟩ = some (.slice (some ⟨g, 0, none⟩) l.length cap) := by obtain ⟨cs, h1, _⟩ := H.ex; exact h1.c
  have hcap : l.length ≤ cap ∧ cap ≤ maxLen := by obtain ⟨cs, h1, _⟩ := H.ex; exact h1.cap
  have fz : ∀ k, w.frozen? ⟨g, k, none⟩ = false := by obtain ⟨cs, h1, _⟩ := H.ex; exact h1.gz
  have hgl : g < w.heap.size := by obtain ⟨cs, h1, _⟩ := H.ex; exact h1.glt
  have hhg : h ≠ g := by obtain ⟨cs, h1, _⟩ := H.ex; exact h1.ne
  have i0 : (0 : Int) ≤ (i : Int) := by omega
  have i1 : (i : Int) < (l.length : Int) := by omega
  have j0 : (0 : Int) ≤ (j : Int) := by omega
  have j1 : (j : Int) < (l.length : Int) := by omega
  have hp := H.put hi l[j]
  obtain ⟨e0, e1, e2⟩ := hp.cells (i := j) (by simpa using hj)
  have HQ := hide (hp.put (i := j) (by simpa using hj) l[i])
  have HM := hide ((((((((Moves.refl (fun k => k = g) w).setCell (p := ⟨g, i * 3, none⟩) (fun _ => rfl) (.string l[j].st)).setCell (p := ⟨g, i * 3 + 1, none⟩) (fun _ => rfl) (.int .i64 l[j].at')).setCell (p := ⟨g, i * 3 + 2, none⟩) (fun _ => rfl) (.int .i64 l[j].op)).setCell (p := ⟨g, j * 3, none⟩) (fun _ => rfl) (.string l[i].st)).setCell (p := ⟨g, j * 3 + 1, none⟩) (fun _ => rfl) (.int .i64 l[i].at')).setCell (p := ⟨g, j * 3 + 2, none⟩) (fun _ => rfl) (.int .i64 l[i].op)).drew)
  clear hp
  have HH := hide H
  clear H
  go_enter Tryd.func81, Tryd.ntmps81
  go_wp2_with fail
  go_region
  all_goals
    go_wp2
    go_end0
    refine ⟨rfl, ?_, ?_⟩
    · exact HQ.out.up (Below.refl _ _).drew
    · exact HM.out
end Go.Proofs.YtbooongkbninhaaDoor

namespace Go.Proofs.YtbooongkbninhaaDoor
open Go.RowKit
open Doc1

set_option maxRecDepth 100000 in
set_option maxHeartbeats 4000000 in
theorem ahead_any {h g cap : Nat} {l : List En} {w : World} (H : Hl h g cap l w) {i j : Nat} (hi : i < l.length) (hj : j < l.length) :
    Calls Tryd.prog 80 #[.pointer (some ⟨h, 0, none⟩), .int .i64 (i : Int), .int .i64 (j : Int)] w fun e w' => e = .returned (.bool (ahE l[i] l[j])) ∧ Below w.heap.size w w' := by
  obtain ⟨c0, c1, c2⟩ := H.cells hi
  obtain ⟨d0, d1, d2⟩ := H.cells hj
  have hh : w.cell? ⟨h, 0, none⟩ = some (.slice (some ⟨g, 0, none⟩) l.length cap) := by obtain ⟨cs, h1, _⟩ := H.ex; exact h1.c
  have hcap : l.length ≤ cap ∧ cap ≤ maxLen := by obtain ⟨cs, h1, _⟩ := H.ex; exact h1.cap
  have hgl : g < w.heap.size := by obtain ⟨cs, h1, _⟩ := H.ex; exact h1.glt
  have hhl : h < w.heap.size := by obtain ⟨cs, h1, _⟩ := H.ex; exact h1.hlt
  have i0 : (0 : Int) ≤ (i : Int) := by omega
  have i1 : (i : Int) < (l.length : Int) := by omega
  have j0 : (0 : Int) ≤ (j : Int) := by omega
  have j1 : (j : Int) < (l.length : Int) := by omega
  obtain ⟨x, hx⟩ : ∃ x, x = l[i] := ⟨_, rfl⟩
  obtain ⟨y, hy⟩ : ∃ y, y = l[j] := ⟨_, rfl⟩
  rw [← hx] at c0 c1 c2 ⊢
  rw [← hy] at d0 d1 d2 ⊢
  clear H hx hy
  unfold ahE
  cases he : x.st.toList == y.st.toList with
  | false =>
    rw [if_neg (by simp)]
    go_enter Tryd.func80, Tryd.ntmps80
    go_wp2_with fail
    go_region_held3 (fun w' => w'.cell? ⟨h, 0, none⟩ = some (.slice (some ⟨g, 0, none⟩) l.length cap) ∧ w'.cell? ⟨g, i * 3, none⟩ = some (.string x.st) ∧ w'.cell? ⟨g, i * 3 + 1, none⟩ = some (.int .i64 x.at') ∧ w'.cell? ⟨g, i * 3 + 2, none⟩ = some (.int .i64 x.op) ∧ w'.cell? ⟨g, j * 3, none⟩ = some (.string y.st) ∧ w'.cell? ⟨g, j * 3 + 1, none⟩ = some (.int .i64 y.at') ∧ w'.cell? ⟨g, j * 3 + 2, none⟩ = some (.int .i64 y.op)) (go_keep) (fail)
    all_goals
      go_wp2
      go_ret
      refine ⟨rfl, ?_⟩
      exact (((Below.refl _ _).alloc (Nat.le_refl _) _).alloc (by simp) _).drew
  | true =>
    rw [if_pos rfl]
    by_cases ha : x.at' = y.at'
    · rw [if_pos ha]
      have ha' : (x.at' == y.at') = true := by simpa using ha
      clear ha
      go_enter Tryd.func80, Tryd.ntmps80
      go_wp2_with fail
      go_region_held3 (fun w' => w'.cell? ⟨h, 0, none⟩ = some (.slice (some ⟨g, 0, none⟩) l.length cap) ∧ w'.cell? ⟨g, i * 3, none⟩ = some (.string x.st) ∧ w'.cell? ⟨g, i * 3 + 1, none⟩ = some (.int .i64 x.at') ∧ w'.cell? ⟨g, i * 3 + 2, none⟩ = some (.int .i64 x.op) ∧ w'.cell? ⟨g, j * 3, none⟩ = some (.string y.st) ∧ w'.cell? ⟨g, j * 3 + 1, none⟩ = some (.int .i64 y.at') ∧ w'.cell? ⟨g, j * 3 + 2, none⟩ = some (.int .i64 y.op)) (go_keep) (fail)
      all_goals
        go_wp2
        go_ret
        refine ⟨rfl, ?_⟩
        exact (((Below.refl _ _).alloc (Nat.le_refl _) _).alloc (by simp) _).drew
    · rw [if_neg ha]
      have ha' : (x.at' == y.at') = false := by simpa using ha
      clear ha
      go_enter Tryd.func80, Tryd.ntmps80
      go_wp2_with fail
      go_region_held3 (fun w' => w'.cell? ⟨h, 0, none⟩ = some (.slice (some ⟨g, 0, none⟩) l.length cap) ∧ w'.cell? ⟨g, i * 3, none⟩ = some (.string x.st) ∧ w'.cell? ⟨g, i * 3 + 1, none⟩ = some (.int .i64 x.at') ∧ w'.cell? ⟨g, i * 3 + 2, none⟩ = some (.int .i64 x.op) ∧ w'.cell? ⟨g, j * 3, none⟩ = some (.string y.st) ∧ w'.cell? ⟨g, j * 3 + 1, none⟩ = some (.int .i64 y.at') ∧ w'.cell? ⟨g, j * 3 + 2, none⟩ = some (.int .i64 y.op)) (go_keep) (fail)
      all_goals
        go_wp2
        go_ret
        refine ⟨rfl, ?_⟩
        exact (((Below.refl _ _).alloc (Nat.le_refl _) _).alloc (by simp) _).drew
end Go.Proofs.YtbooongkbninhaaDoor

namespace Go.Proofs.YtbooongkbninhaaDoor
open Go.RowKit
open Doc1

def dE : En := ⟨ByteArray.empty, 0, 0⟩
/-- From one row of ends to another: as many, and the same. -/
structure Same (l l' : List En) : Prop where
  len : l'.length = l.length
  cnt : ∀ x, l'.count x = l.count x
theorem Same.refl (l : List En) : Same l l := ⟨rfl, fun _ => rfl⟩
theorem Same.trans {a b c : List En} (h : Same a b) (k : Same b c) : Same a c := ⟨k.len.trans h.len, fun x => (k.cnt x).trans (h.cnt x)⟩
theorem same_sw {l : List En} {i j : Nat} (hi : i < l.length) (hj : j < l.length) : Same l (sw dE l i j) := ⟨sw_len _ _ _, fun x => sw_count x hi hj⟩
theorem sw_eq {l : List En} {i j : Nat} (hi : i < l.length) (hj : j < l.length) : (l.set i l[j]).set j l[i] = sw dE l i j := by
  unfold sw; rw [gt_at hi, gt_at hj]
theorem mv_up {O : Nat → Prop} {W X : World} (h : Below W.heap.size W X) : Moves O W O X := moves_below h (fun k a b => absurd b (by omega)) (fun _ _ h => h)
def aheadV (h : Nat) : Value := .func (.func 80) #[.pointer (some ⟨h, 0, none⟩)] #[]
def swapV (h : Nat) : Value := .func (.func 81) #[.pointer (some ⟨h, 0, none⟩)] #[]

set_option maxRecDepth 100000 in
set_option maxHeartbeats 4000000 in
theorem rise_any {h g cap : Nat} {l : List En} {w : World} (H : Hl h g cap l w) {i : Nat} (hi : i < l.length) (hx : HpX dE ahE l i) (hl : l.length ≤ 1000000) :
    Calls Tryd.prog 79 #[.int .i64 (i : Int), aheadV h, swapV h] w fun e w' => e = .returned (.tuple #[]) ∧ ∃ l', Same l l' ∧ Hp dE ahE l' ∧ Hl h g cap l' w' ∧ Moves (fun k => k = g) w (fun k => k = g) w' := by
  have H0 : Hid (∃ l', Same l l' ∧ HpX dE ahE l' i ∧ Hl h g cap l' w ∧ Moves (fun k => k = g) w (fun k => k = g) w) := hide ⟨l, Same.refl l, hx, H, Moves.refl _ _⟩
  unfold aheadV swapV
  clear H hx
  go_enter Tryd.func79, Tryd.ntmps79
  go_wp2_with fail
  go_loopw [0] (fun a wr => ∃ k : Nat, a = .int .i64 (k : Int) ∧ k < l.length ∧ Hid (∃ l', Same l l' ∧ HpX dE ahE l' k ∧ Hl h g cap l' wr ∧ Moves (fun k => k = g) w (fun k => k = g) wr)) (fun a _ => (intOf a).toNat)
  case atStart => exact ⟨i, rfl, hi, H0⟩
  case round =>
    obtain ⟨k, rfl, hk, HK⟩ := hrel
    by_cases h0 : k = 0
    · subst h0
      go_wp2
      go_end0
      obtain ⟨l', s, x, hl', m⟩ := HK.out
      exact ⟨rfl, l', s, hpx_done x (.inl rfl), hl', m⟩
    · obtain ⟨l', s, x, hl', m⟩ := HK.out
      have hsl := s.len
      have kp : (k - 1) / 2 < l'.length := by omega
      have kl : k < l'.length := by omega
      obtain ⟨p, hp⟩ : ∃ p, p = (k - 1) / 2 := ⟨_, rfl⟩
      rw [← hp] at kp
      have hq : Int.tdiv ((k : Int) - 1) 2 = (p : Int) := by rw [hp, Int.tdiv_eq_ediv_of_nonneg (by omega)]; omega
      have hpk : p < k := by omega
      have HA := hide (ahead_any hl' kl kp)
      have HS := hide (fun w2 (hb : Below wr.heap.size wr w2) => swap_any (hl'.up hb) kl kp)
      cases ha : ahE l'[k] l'[p] with
      | false =>
        rw [ha] at HA
        have HF : Hid (Hp dE ahE l') := hide (hpx_done x (.inr (by rw [← hp, gt_at kl, gt_at kp]; exact ha)))
        have HL := hide hl'
        have HM := hide m
        have Hs := hide s
        clear ha x hl' m s hp HK hsl
        go_wp2_with (go_at_call 80; refine HA.out.mono ?_; rintro e w2 ⟨rfl, hb2⟩)
        go_end0
        exact ⟨rfl, l', Hs.out, HF.out, HL.out.up hb2, HM.out.trans (mv_up hb2)⟩
      | true =>
        rw [ha] at HA
        have HX : Hid (HpX dE ahE (sw dE l' k p) p) := hide (by rw [hp]; exact hpx_swap ahE_ord x kl (by omega) (by rw [← hp, gt_at kl, gt_at kp]; exact ha))
        have HW := hide (sw_eq kl kp)
        have HL := hide (same_sw kl kp)
        have HM := hide m
        have Hs := hide s
        clear ha x hl' m s hp HK hsl
        go_wp2_with (first | (go_at_call 80; refine HA.out.mono ?_; rintro e w2 ⟨rfl, hb2⟩) | (go_at_call 81; refine (HS.out _ hb2).mono ?_; rintro e w3 ⟨rfl, hl3, hm3⟩))
        go_roundw
        case rel =>
          rw [HW.out] at hl3
          exact ⟨p, by go_num, by omega, hide ⟨_, Hs.out.trans HL.out, HX.out, hl3, (HM.out.trans (mv_up hb2)).trans hm3⟩⟩
        case measure => simp [intOf]; omega
end Go.Proofs.YtbooongkbninhaaDoor

namespace Go.Proofs.YtbooongkbninhaaDoor
open Go.RowKit
open Doc1

theorem ahead_at {h g cap : Nat} {l : List En} {w : World} (H : Hl h g cap l w) {i j : Nat} (hi : i < l.length) (hj : j < l.length) {a b : Int} (ha : a = i) (hb : b = j) :
    Calls Tryd.prog 80 #[.pointer (some ⟨h, 0, none⟩), .int .i64 a, .int .i64 b] w fun e w' => e = .returned (.bool (ahE l[i] l[j])) ∧ Below w.heap.size w w' := by
  subst ha hb; exact ahead_any H hi hj
theorem swap_at {h g cap : Nat} {l : List En} {w : World} (H : Hl h g cap l w) {i j : Nat} (hi : i < l.length) (hj : j < l.length) {a b : Int} (ha : a = i) (hb : b = j) :
    Calls Tryd.prog 81 #[.pointer (some ⟨h, 0, none⟩), .int .i64 a, .int .i64 b] w fun e w' => e = .returned (.tuple #[]) ∧ Hl h g cap (sw dE l i j) w' ∧ Moves (fun k => k = g) w (fun k => k = g) w' := by
  subst ha hb; rw [← sw_eq hi hj]; exact swap_any H hi hj

set_option maxRecDepth 100000 in
set_option maxHeartbeats 8000000 in
theorem sink_any {h g cap : Nat} {l : List En} {w : World} (H : Hl h g cap l w) (hx : HpS dE ahE l 0) (hl : l.length ≤ 1000000) :
    Calls Tryd.prog 82 #[.int .i64 (l.length : Int), aheadV h, swapV h] w fun e w' => e = .returned (.tuple #[]) ∧ ∃ l', Same l l' ∧ Hp dE ahE l' ∧ Hl h g cap l' w' ∧ Moves (fun k => k = g) w (fun k => k = g) w' := by
  have H0 : Hid (∃ l', Same l l' ∧ HpS dE ahE l' 0 ∧ Hl h g cap l' w ∧ Moves (fun k => k = g) w (fun k => k = g) w) := hide ⟨l, Same.refl l, hx, H, Moves.refl _ _⟩
  unfold aheadV swapV
  clear H hx
  go_enter Tryd.func82, Tryd.ntmps82
  go_wp2_with fail
  go_loopw [6] (fun a wr => ∃ k : Nat, a = .int .i64 (k : Int) ∧ k ≤ l.length ∧ Hid (∃ l', Same l l' ∧ HpS dE ahE l' k ∧ Hl h g cap l' wr ∧ Moves (fun k => k = g) w (fun k => k = g) wr)) (fun a _ => l.length - (intOf a).toNat)
  case atStart => exact ⟨0, rfl, by omega, H0⟩
  case round =>
    obtain ⟨k, rfl, hk, HK⟩ := hrel
    obtain ⟨l', s, x, hl', m⟩ := HK.out
    have hsl := s.len
    have HM := hide m
    have Hs := hide s
    clear HK m s
    by_cases hn : 2 * k + 1 < l.length
    · have n1 : 2 * (k : Int) + 1 < (l.length : Int) := by omega
      have kl : k < l'.length := by omega
      have ql : 2 * k + 1 < l'.length := by omega
      by_cases hn2 : 2 * k + 2 < l.length
      · have n2 : 2 * (k : Int) + 1 + 1 < (l.length : Int) := by omega
        have rl : 2 * k + 2 < l'.length := by omega
        have HA1 := hide (ahead_at hl' rl ql (a := 2 * (k : Int) + 1 + 1) (b := 2 * (k : Int) + 1) (by omega) (by omega))
        cases h1 : ahE l'[2 * k + 2] l'[2 * k + 1] with
        | true =>
          rw [h1] at HA1
          have hm : ∀ kk, 0 < kk → kk < l'.length → (kk - 1) / 2 = k → le ahE (gt dE l' (2 * k + 2)) (gt dE l' kk) := fun kk a b c => by
            have : kk = 2 * k + 1 ∨ kk = 2 * k + 2 := by omega
            rcases this with rfl | rfl
            · rw [gt_at rl, gt_at ql]; exact ahE_ord.le_of_lt h1
            · exact ahE_ord.refl _
          clear h1
          have HA2 := hide (fun w2 (hb : Below wr.heap.size wr w2) => ahead_at (hl'.up hb) rl kl (a := (2 * (k : Int) + 1 + 1)) (b := (k : Int)) (by omega) rfl)
          cases h2 : ahE l'[(2 * k + 2)] l'[k] with
          | false =>
            rw [h2] at HA2
            have HF : Hid (Hp dE ahE l') := hide (hps_done x (fun kk a b c => ahE_ord.trans (by rw [gt_at kl, gt_at rl]; exact h2) (hm kk a b c)))
            have HL := hide hl'
            clear h2 hm x hl'
            go_wp2_with (first | (go_at_call 80; have _tk := hb1; refine (HA2.out _ hb1).mono ?_; rintro e w2 ⟨rfl, hb2⟩) | (go_at_call 80; refine HA1.out.mono ?_; rintro e w1 ⟨rfl, hb1⟩))
            (try simp only [Exit.inBlock, Exit.then])
            refine bodyPost_ret (results_none rfl _ _ _) rfl ?_
            exact ⟨rfl, l', Hs.out, HF.out, HL.out.up (hb1.trans (hb2.mono hb1.size)), HM.out.trans (mv_up (hb1.trans (hb2.mono hb1.size)))⟩
          | true =>
            rw [h2] at HA2
            have HX : Hid (HpS dE ahE (sw dE l' k (2 * k + 2)) (2 * k + 2)) := hide (hps_swap ahE_ord x kl rl (by omega) (by omega) (by rw [gt_at kl, gt_at rl]; exact h2) hm)
            have HS := hide (fun w2 (hb : Below wr.heap.size wr w2) => swap_at (hl'.up hb) kl rl (a := (k : Int)) (b := (2 * (k : Int) + 1 + 1)) rfl (by omega))
            have HL := hide (same_sw kl rl)
            clear h2 hm x hl'
            go_wp2_with (first | (go_at_call 81; refine (HS.out _ (hb1.trans (hb2.mono hb1.size))).mono ?_; rintro e w3 ⟨rfl, hl3, hm3⟩) | (go_at_call 80; have _tk := hb1; refine (HA2.out _ hb1).mono ?_; rintro e w2 ⟨rfl, hb2⟩) | (go_at_call 80; refine HA1.out.mono ?_; rintro e w1 ⟨rfl, hb1⟩))
            go_roundw
            case rel => exact ⟨(2 * k + 2), by go_num, by omega, hide ⟨_, Hs.out.trans HL.out, HX.out, hl3, (HM.out.trans (mv_up (hb1.trans (hb2.mono hb1.size)))).trans hm3⟩⟩
            case measure => simp [intOf]; omega
        | false =>
          rw [h1] at HA1
          have hm : ∀ kk, 0 < kk → kk < l'.length → (kk - 1) / 2 = k → le ahE (gt dE l' (2 * k + 1)) (gt dE l' kk) := fun kk a b c => by
            have : kk = 2 * k + 1 ∨ kk = 2 * k + 2 := by omega
            rcases this with rfl | rfl
            · exact ahE_ord.refl _
            · rw [gt_at rl, gt_at ql]; exact h1
          clear h1
          have HA2 := hide (fun w2 (hb : Below wr.heap.size wr w2) => ahead_at (hl'.up hb) ql kl (a := (2 * (k : Int) + 1)) (b := (k : Int)) (by omega) rfl)
          cases h2 : ahE l'[(2 * k + 1)] l'[k] with
          | false =>
            rw [h2] at HA2
            have HF : Hid (Hp dE ahE l') := hide (hps_done x (fun kk a b c => ahE_ord.trans (by rw [gt_at kl, gt_at ql]; exact h2) (hm kk a b c)))
            have HL := hide hl'
            clear h2 hm x hl'
            go_wp2_with (first | (go_at_call 80; have _tk := hb1; refine (HA2.out _ hb1).mono ?_; rintro e w2 ⟨rfl, hb2⟩) | (go_at_call 80; refine HA1.out.mono ?_; rintro e w1 ⟨rfl, hb1⟩))
            (try simp only [Exit.inBlock, Exit.then])
            refine bodyPost_ret (results_none rfl _ _ _) rfl ?_
            exact ⟨rfl, l', Hs.out, HF.out, HL.out.up (hb1.trans (hb2.mono hb1.size)), HM.out.trans (mv_up (hb1.trans (hb2.mono hb1.size)))⟩
          | true =>
            rw [h2] at HA2
            have HX : Hid (HpS dE ahE (sw dE l' k (2 * k + 1)) (2 * k + 1)) := hide (hps_swap ahE_ord x kl ql (by omega) (by omega) (by rw [gt_at kl, gt_at ql]; exact h2) hm)
            have HS := hide (fun w2 (hb : Below wr.heap.size wr w2) => swap_at (hl'.up hb) kl ql (a := (k : Int)) (b := (2 * (k : Int) + 1)) rfl (by omega))
            have HL := hide (same_sw kl ql)
            clear h2 hm x hl'
            go_wp2_with (first | (go_at_call 81; refine (HS.out _ (hb1.trans (hb2.mono hb1.size))).mono ?_; rintro e w3 ⟨rfl, hl3, hm3⟩) | (go_at_call 80; have _tk := hb1; refine (HA2.out _ hb1).mono ?_; rintro e w2 ⟨rfl, hb2⟩) | (go_at_call 80; refine HA1.out.mono ?_; rintro e w1 ⟨rfl, hb1⟩))
            go_roundw
            case rel => exact ⟨(2 * k + 1), by go_num, by omega, hide ⟨_, Hs.out.trans HL.out, HX.out, hl3, (HM.out.trans (mv_up (hb1.trans (hb2.mono hb1.size)))).trans hm3⟩⟩
            case measure => simp [intOf]; omega
      · have n2 : (l.length : Int) ≤ 2 * (k : Int) + 1 + 1 := by omega
        have hm : ∀ kk, 0 < kk → kk < l'.length → (kk - 1) / 2 = k → le ahE (gt dE l' (2 * k + 1)) (gt dE l' kk) := fun kk a b c => by
          have : kk = 2 * k + 1 := by omega
          subst this
          exact ahE_ord.refl _
        have HA2 := hide (fun w2 (hb : Below wr.heap.size wr w2) => ahead_at (hl'.up hb) ql kl (a := (2 * (k : Int) + 1)) (b := (k : Int)) (by omega) rfl)
        cases h2 : ahE l'[(2 * k + 1)] l'[k] with
        | false =>
          rw [h2] at HA2
          have HF : Hid (Hp dE ahE l') := hide (hps_done x (fun kk a b c => ahE_ord.trans (by rw [gt_at kl, gt_at ql]; exact h2) (hm kk a b c)))
          have HL := hide hl'
          clear h2 hm x hl'
          go_wp2_with ((go_at_call 80; refine (HA2.out _ (Below.refl _ _)).mono ?_; rintro e w2 ⟨rfl, hb2⟩))
          (try simp only [Exit.inBlock, Exit.then])
          refine bodyPost_ret (results_none rfl _ _ _) rfl ?_
          exact ⟨rfl, l', Hs.out, HF.out, HL.out.up hb2, HM.out.trans (mv_up hb2)⟩
        | true =>
          rw [h2] at HA2
          have HX : Hid (HpS dE ahE (sw dE l' k (2 * k + 1)) (2 * k + 1)) := hide (hps_swap ahE_ord x kl ql (by omega) (by omega) (by rw [gt_at kl, gt_at ql]; exact h2) hm)
          have HS := hide (fun w2 (hb : Below wr.heap.size wr w2) => swap_at (hl'.up hb) kl ql (a := (k : Int)) (b := (2 * (k : Int) + 1)) rfl (by omega))
          have HL := hide (same_sw kl ql)
          clear h2 hm x hl'
          go_wp2_with (first | (go_at_call 81; refine (HS.out _ hb2).mono ?_; rintro e w3 ⟨rfl, hl3, hm3⟩) | (go_at_call 80; refine (HA2.out _ (Below.refl _ _)).mono ?_; rintro e w2 ⟨rfl, hb2⟩))
          go_roundw
          case rel => exact ⟨(2 * k + 1), by go_num, by omega, hide ⟨_, Hs.out.trans HL.out, HX.out, hl3, (HM.out.trans (mv_up hb2)).trans hm3⟩⟩
          case measure => simp [intOf]; omega
    · have n1 : (l.length : Int) ≤ 2 * (k : Int) + 1 := by omega
      have HF : Hid (Hp dE ahE l') := hide (hps_done x (fun kk a b c => by omega))
      have HL := hide hl'
      clear x hl'
      go_wp2
      go_end0
      exact ⟨rfl, l', Hs.out, HF.out, HL.out, HM.out⟩
end Go.Proofs.YtbooongkbninhaaDoor

namespace Go.Proofs.YtbooongkbninhaaDoor
open Go.RowKit
open Doc1

theorem Tryd.infoEnd : (Tryd.prog.info? 93).map (fun i => (i.zero, i.size, i.bytes)) = some (some (.agg #[.string ⟨#[]⟩, .int .i64 0, .int .i64 0]), 3, 32) := by kernel_rfl
/-- The heap, with or without a row. -/
structure Hv (h : Nat) (v : Value) (l : List En) (w : World) : Prop where
  c : w.cell? ⟨h, 0, none⟩ = some v
  fz : w.frozen? ⟨h, 0, none⟩ = false
  own : w.ownsRow 0 93 3 v l.length (encE l)
  ne : v.ownBlock ≠ some h
def OV (h : Nat) (v : Value) (k : Nat) : Prop := k = h ∨ v.ownBlock = some k
theorem Hv.lt {h : Nat} {v : Value} {l : List En} {w : World} (H : Hv h v l w) : h < w.heap.size := World.block_lt_of_cell? w _ H.c
theorem Hv.ltO {h : Nat} {v : Value} {l : List En} {w : World} (H : Hv h v l w) {k : Nat} (hk : OV h v k) : k < w.heap.size := by
  rcases hk with rfl | e
  · exact H.lt
  · exact (H.own.lt k e).2
theorem Hv.kept {h : Nat} {v : Value} {l : List En} {w w2 : World} (H : Hv h v l w) (hk : ∀ k, OV h v k → w2.heap[k]? = w.heap[k]?) : Hv h v l w2 := by
  refine ⟨(World.cell?_of_block (hk h (.inl rfl))).trans H.c, (World.frozen?_of_block (hk h (.inl rfl))).trans H.fz, ⟨H.own.1, ?_⟩, H.ne⟩
  rcases H.own.2 with hn | ⟨g', cap, cur, hv, hb', hh, rest⟩
  · exact .inl hn
  · exact .inr ⟨g', cap, cur, hv, hb', (hk g' (.inr (by rw [hv]; rfl))).trans hh, rest⟩
theorem Hv.up {h : Nat} {v : Value} {l : List En} {w w2 : World} (H : Hv h v l w) (hb : Below w.heap.size w w2) : Hv h v l w2 := H.kept (fun k hk => hb.block k (H.ltO hk))
theorem Hv.hl {h g n cap : Nat} {l : List En} {w : World} (H : Hv h (.slice (some ⟨g, 0, none⟩) n cap) l w) : n = l.length ∧ Hl h g cap l w := by
  have hne : h ≠ g := fun e => H.ne (by rw [e]; rfl)
  rcases H.own.2 with ⟨hv, _⟩ | ⟨g', cap', cur, hv, hb', hh, h1, h2, h3, h4⟩
  · cases hv
  · cases hv
    refine ⟨rfl, ⟨cur.toList, ⟨H.c, H.fz, hne, by rw [hh], by simpa using h3, h1, h2⟩, h4⟩⟩
theorem Hl.hv {h g cap : Nat} {l : List En} {w : World} (H : Hl h g cap l w) : Hv h (.slice (some ⟨g, 0, none⟩) l.length cap) l w := by
  obtain ⟨cs, h1, h2⟩ := H.ex
  refine ⟨h1.c, h1.fz, ⟨encE_len l, .inr ⟨g, cap, cs.toArray, rfl, Nat.zero_le _, h1.row, h1.cap.1, h1.cap.2, by simpa using h1.len, by simpa using h2⟩⟩, fun e => h1.ne ?_⟩
  cases e; rfl
theorem grown_alE {w w2 : World} {ob : Obj} {row : Option Nat} (h : (w.alloc ob).drew.grownBy w2 row) : w.grownBy w2 row :=
  ⟨h.os, h.tape, h.output, Nat.le_trans (by show w.heap.size ≤ (w.alloc ob).heap.size; simp) h.size, fun k hk hn => (h.block k (by show k < (w.alloc ob).heap.size; simp; omega) hn).trans (Below.heap_alloc w ob k hk)⟩
theorem hv_put {h : Nat} {v v' : Value} {l l' : List En} {w w2 : World} (H : Hv h v l w) (hg : w.grownBy w2 v.ownBlock) (ho : w2.ownsRow 0 93 3 v' l'.length (encE l')) (hat : v'.ownBlock = v.ownBlock ∨ ∀ x, v'.ownBlock = some x → w.heap.size ≤ x) :
    Hv h v' l' (w2.setCell ⟨h, 0, none⟩ v') ∧ Moves (OV h v) w (OV h v') (w2.setCell ⟨h, 0, none⟩ v') := by
  have hlt := H.lt
  have hb : w2.heap[h]? = w.heap[h]? := hg.block h hlt (Ne.symm H.ne)
  have vg : v'.ownBlock ≠ some h := by
    rcases hat with e | e
    · rw [e]; exact H.ne
    · intro he; have := e h he; omega
  have far : ∀ k, k ≠ h → (w2.setCell ⟨h, 0, none⟩ v').heap[k]? = w2.heap[k]? := fun k hk => Below.heap_setCell _ _ _ _ hk
  refine ⟨⟨World.cell?_setCell_same _ _ _ ((World.cell?_of_block hb).trans H.c), by rw [World.frozen?_setCell]; exact (World.frozen?_of_block hb).trans H.fz, set_kept ho vg, vg⟩, ?_⟩
  refine ⟨hg.os, hg.tape, hg.output, by simpa using hg.size, fun k hk no => ?_, fun k hk c => ?_⟩
  · exact (far k (fun e => no (.inl e))).trans (hg.block k hk (fun e => no (.inr e.symm)))
  · rcases c with e | e
    · exact .inl e
    · rcases hat with e' | e'
      · exact .inr (e' ▸ e)
      · have := e' k e; omega
theorem rise_at {h g cap : Nat} {l : List En} {w : World} (H : Hl h g cap l w) {i : Nat} (hi : i < l.length) (hx : HpX dE ahE l i) (hl : l.length ≤ 1000000) {a : Int} (ha : a = i) :
    Calls Tryd.prog 79 #[.int .i64 a, .func (.func 80) #[.pointer (some ⟨h, 0, none⟩)] #[], .func (.func 81) #[.pointer (some ⟨h, 0, none⟩)] #[]] w fun e w' => e = .returned (.tuple #[]) ∧ ∃ l', Same l l' ∧ Hp dE ahE l' ∧ Hl h g cap l' w' ∧ Moves (fun k => k = g) w (fun k => k = g) w' := by
  subst ha; exact rise_any H hi hx hl
theorem sink_at {h g cap : Nat} {l : List En} {w : World} (H : Hl h g cap l w) (hx : HpS dE ahE l 0) (hl : l.length ≤ 1000000) {a : Int} (ha : a = l.length) :
    Calls Tryd.prog 82 #[.int .i64 a, .func (.func 80) #[.pointer (some ⟨h, 0, none⟩)] #[], .func (.func 81) #[.pointer (some ⟨h, 0, none⟩)] #[]] w fun e w' => e = .returned (.tuple #[]) ∧ ∃ l', Same l l' ∧ Hp dE ahE l' ∧ Hl h g cap l' w' ∧ Moves (fun k => k = g) w (fun k => k = g) w' := by
  subst ha; exact sink_any H hx hl
theorem cellsE_new (w : World) (a b c : Value) : (∀ t, (w.alloc (.cells #[a, b, c] t)).cell? ⟨w.heap.size, 0, none⟩ = some a) ∧ (∀ t, (w.alloc (.cells #[a, b, c] t)).cell? ⟨w.heap.size, 1, none⟩ = some b) ∧ (∀ t, (w.alloc (.cells #[a, b, c] t)).cell? ⟨w.heap.size, 2, none⟩ = some c) := by
  refine ⟨fun t => ?_, fun t => ?_, fun t => ?_⟩
  all_goals
    unfold World.cell?
    rw [heap_alloc_new]; rfl

set_option maxRecDepth 100000 in
set_option maxHeartbeats 4000000 in
theorem push_any {h : Nat} {v : Value} {l : List En} {w : World} (H : Hv h v l w) (hp : Hp dE ahE l) (x : En) (hl : l.length ≤ 100000) :
    Calls Tryd.prog 52 #[.pointer (some ⟨h, 0, none⟩), enV x] w fun e w' => e = .returned (.tuple #[]) ∧ ∃ v' l', Hv h v' l' w' ∧ Hp dE ahE l' ∧ Same (l ++ [x]) l' ∧ Moves (OV h v) w (OV h v') w' := by
  obtain ⟨i0, hi0, hz0, hz1, hz2⟩ := info_parts Tryd.infoEnd
  obtain ⟨y0, y1, y2⟩ := cellsE_new w (.string x.st) (.int .i64 x.at') (.int .i64 x.op)
  obtain ⟨w0, hw0⟩ : ∃ w0, w0 = w.alloc (.cells #[.string x.st, .int .i64 x.at', .int .i64 x.op] 93) := ⟨_, rfl⟩
  have z0 := y0 93
  have z1 := y1 93
  have z2 := y2 93
  rw [← hw0] at z0 z1 z2
  have hbw : Below w.heap.size w w0 := by rw [hw0]; exact (Below.refl _ _).alloc (Nat.le_refl _) _
  have H1 := H.up hbw
  have k0 := H1.c
  have kf := H1.fz
  have own0 := H1.own
  have ne0 := H1.ne
  have lg := H1.lt
  have HH := hide H1
  have HB := hide hbw
  have HP := hide hp
  clear H H1 hbw hp y0 y1 y2
  unfold enV
  go_enter Tryd.func52, Tryd.ntmps52
  go_wp2_with fail
  rw [← hw0]
  clear hw0
  go_region_law
    ((refine step_append_lies _ (by rfl) _ _ _ (by rfl) 0 93 i0 _ 3 32 Tryd.underlying57 hi0 hz0 hz1 hz2 rfl (by omega) v l.length (encE l) (by rfl) ((own0.alloc _).drew)
        ⟨w0.heap.size, 0, none⟩ 1 1 [.string x.st, .int .i64 x.at', .int .i64 x.op] (by rfl) (by rfl) (World.news_of_block (cs := #[.string x.st, .int .i64 x.at', .int .i64 x.op]) (t := 93) (fr := (0, 0)) (heap_alloc_new w0 _)) (by simp [Value.oneCell'])
        (by omega) (by unfold maxLen; omega) (by omega) (by omega) (w0.heap.size + 1) (by simp) ?_; intro gg cap w2 hown1 hgrow hat hlt; have hfz := (hgrow.frozen_far ⟨h, 0, none⟩ (by simp; omega) (Ne.symm ne0)).trans (fz_al w0 _ _ lg kf); have hcz := (hgrow.cell_far ⟨h, 0, none⟩ (by simp; omega) (Ne.symm ne0)).trans (cl_al w0 _ _ k0)))
  all_goals
    obtain ⟨T, M⟩ := hv_put (l' := l ++ [x]) (v' := .slice (some ⟨gg, 0, none⟩) (l.length + 1) cap) HH.out (grown_alE hgrow) (by rw [encE_app, List.length_append]; exact hown1) (by
      rcases hat with e | e
      · exact .inl e.symm
      · exact .inr (fun y hy => by have : gg = y := by injection hy
                                   omega))
    have L := T.hl.2
    have q0 := T.c
    have R := hide (fun w3 (hb : Below (w2.setCell ⟨h, 0, none⟩ (.slice (some ⟨gg, 0, none⟩) (l.length + 1) cap)).heap.size (w2.setCell ⟨h, 0, none⟩ (.slice (some ⟨gg, 0, none⟩) (l.length + 1) cap)) w3) => rise_at (L.up hb) (i := l.length) (by simp) (hp_push HP.out x) (by simp; omega) (a := (l.length : Int)) rfl)
    have HM := hide M
    clear T M L k0 kf own0 ne0 lg HH z0 z1 z2 hown1 hgrow hat hlt hfz hcz hi0 hz0 hz1 hz2
    go_wp2_with (go_at_call 79; refine (R.out _ (by first | exact Below.refl _ _ | exact (Below.refl _ _).drew)).mono ?_; rintro e w3 ⟨rfl, l', hs, hh, hl3, hm3⟩)
    go_end0
    refine ⟨rfl, _, l', hl3.hv, hh, hs, ((mv_up HB.out).trans HM.out).trans ?_⟩
    rw [show l'.length = l.length + 1 by rw [hs.len]; simp]
    exact hm3.wider (fun k _ e => .inr (by rw [e]; rfl)) (fun k _ c => c)
end Go.Proofs.YtbooongkbninhaaDoor

namespace Go.Proofs.YtbooongkbninhaaDoor
open Go.RowKit
open Doc1

theorem Hl.cut {h g cap : Nat} {l : List En} {w : World} (H : Hl h g cap l w) {m : Nat} (hm : m ≤ l.length) : Hl h g cap (l.take m) (w.setCell ⟨h, 0, none⟩ (.slice (some ⟨g, 0, none⟩) m cap)) := by
  obtain ⟨cs, h1, h2⟩ := H.ex
  have hlen : (l.take m).length = m := by rw [List.length_take]; omega
  refine ⟨cs, ?_, ?_⟩
  · rw [hlen]
    refine ⟨World.cell?_setCell_same _ _ _ h1.c, by rw [World.frozen?_setCell]; exact h1.fz, h1.ne, (Below.heap_setCell _ _ _ _ (Ne.symm h1.ne)).trans h1.row, h1.len, ?_⟩
    have := h1.cap
    omega
  · rw [hlen]
    have e : encE l = encE (l.take m) ++ encE (l.drop m) := by rw [← encE_app, List.take_append_drop]
    have : cs.take (m * 3) = (cs.take (l.length * 3)).take (m * 3) := by rw [List.take_take, Nat.min_eq_left (by omega)]
    rw [this, h2, e, List.take_left' (by rw [encE_len, hlen])]
theorem Tryd.sizeEnd : (Tryd.prog.info? 93).map (·.size) = some 3 := by kernel_rfl
theorem row1_set {w : World} {g : Nat} {cs : Array Value} {t : TypeId} {fr : Nat × Nat} (h : w.heap[g]? = some (.cells cs t fr)) (j : Nat) (v : Value) : (w.setCell ⟨g, j, none⟩ v).heap[g]? = some (.cells (cs.set! j v) t fr) := by
  have hl : g < w.heap.size := (Array.getElem?_eq_some_iff.1 h).1
  show (w.heap.modify g _)[g]? = _
  rw [Array.getElem?_eq_getElem (by rw [Array.size_modify]; exact hl), Array.getElem_modify_self]
  have e : w.heap[g] = .cells cs t fr := by rw [Array.getElem?_eq_getElem hl] at h; exact Option.some.inj h
  rw [e]
  rfl
theorem row3_set {w : World} {g : Nat} {a b c : Value} {t : TypeId} {fr : Nat × Nat} (h : w.heap[g]? = some (.cells #[a, b, c] t fr)) (x y z : Value) : (((w.setCell ⟨g, 0, none⟩ x).setCell ⟨g, 1, none⟩ y).setCell ⟨g, 2, none⟩ z).heap[g]? = some (.cells #[x, y, z] t fr) := row1_set (row1_set (row1_set h 0 x) 1 y) 2 z
theorem pop_same {l : List En} (h : 0 < l.length) : Same l (l[0] :: (sw dE l 0 (l.length - 1)).take (l.length - 1)) := by
  have hs := same_sw (i := 0) (j := l.length - 1) h (by omega)
  have hl : (sw dE l 0 (l.length - 1)).length = l.length := hs.len
  have e : (sw dE l 0 (l.length - 1)) = (sw dE l 0 (l.length - 1)).take (l.length - 1) ++ [l[0]] := by
    have hd : (sw dE l 0 (l.length - 1)).drop (l.length - 1) = [l[0]] := by
      rw [List.drop_eq_getElem_cons (by omega), List.drop_eq_nil_of_le (by omega)]
      congr 1
      have := gt_sw (d := dE) (l := l) (i := 0) (j := l.length - 1) h (by omega) (l.length - 1)
      rw [if_pos rfl, gt_at h, gt_at (by omega)] at this
      exact this
    rw [← hd, List.take_append_drop]
  refine ⟨by rw [List.length_cons, List.length_take]; omega, fun x => ?_⟩
  rw [← hs.cnt x]
  conv => rhs; rw [e]
  rw [List.count_cons, List.count_append, List.count_singleton]

set_option maxRecDepth 100000 in
set_option maxHeartbeats 4000000 in
theorem pop_any {h g cap : Nat} {l : List En} {w : World} (H : Hl h g cap l w) (hp : Hp dE ahE l) (hl : l.length ≤ 1000000) (h0 : 0 < l.length) :
    Calls Tryd.prog 53 #[.pointer (some ⟨h, 0, none⟩)] w fun e w' => e = .returned (enV l[0]) ∧ ∃ l', Hl h g cap l' w' ∧ Hp dE ahE l' ∧ Same l (l[0] :: l') ∧ Moves (fun k => k = h ∨ k = g) w (fun k => k = h ∨ k = g) w' := by
  obtain ⟨n, hn⟩ : ∃ n, l.length = n + 1 := ⟨l.length - 1, by omega⟩
  have hc : w.cell? ⟨h, 0, none⟩ = some (.slice (some ⟨g, 0, none⟩) (n + 1) cap) := by obtain ⟨cs, h1, _⟩ := H.ex; rw [← hn]; exact h1.c
  have hcap : n + 1 ≤ cap ∧ cap ≤ maxLen := by obtain ⟨cs, h1, _⟩ := H.ex; rw [← hn]; exact h1.cap
  have hh := World.block_lt_of_cell? w _ hc
  have hg : g < w.heap.size := by obtain ⟨cs, h1, _⟩ := H.ex; exact h1.glt
  have jw : IntKind.i64.wrap (n : Int) = (n : Int) := by rw [IntKind.wrap_i64] <;> omega
  have n0 : (0 : Int) ≤ (n : Int) := by omega
  have n1 : (n : Int) < (n : Int) + 1 := by omega
  obtain ⟨y0, y1, y2⟩ := cellsE_new w (.string ⟨#[]⟩) (.int .i64 0) (.int .i64 0)
  obtain ⟨w1, hw1⟩ : ∃ w1, w1 = w.alloc (.cells #[.string ⟨#[]⟩, .int .i64 0, .int .i64 0] 93) := ⟨_, rfl⟩
  have z0 := y0 93
  have z1 := y1 93
  have z2 := y2 93
  have zf : ∀ j, w1.frozen? ⟨w.heap.size, j, none⟩ = false := fun j => by rw [hw1]; exact World.frozen?_alloc_new _ _ _ _
  have zb : w1.heap[w.heap.size]? = some (.cells #[.string ⟨#[]⟩, .int .i64 0, .int .i64 0] 93 (0, 0)) := by rw [hw1]; exact heap_alloc_new _ _
  have ZB := hide zb
  clear zb
  have zs : w1.heap.size = w.heap.size + 1 := by rw [hw1]; simp
  rw [← hw1] at z0 z1 z2
  have hbw : Below w.heap.size w w1 := by rw [hw1]; exact (Below.refl _ _).alloc (Nat.le_refl _) _
  have hc1 : w1.cell? ⟨h, 0, none⟩ = some (.slice (some ⟨g, 0, none⟩) (n + 1) cap) := (World.cell?_of_block (hbw.block _ hh)).trans hc
  have HS := hide (swap_at (H.up hbw) h0 (j := n) (by omega) (a := 0) (b := (n : Int)) rfl rfl)
  have HP := hide hp
  have HB := hide hbw
  have hsl : (sw dE l 0 n).length = n + 1 := by rw [sw_len]; exact hn
  have hsn : (sw dE l 0 n)[n] = l[0] := by
    have := gt_sw (d := dE) (l := l) (i := 0) (j := n) h0 (by omega) n
    rw [if_pos rfl, gt_at h0, gt_at (by omega)] at this
    exact this
  obtain ⟨x, hx⟩ : ∃ x, x = l[0] := ⟨_, rfl⟩
  have HT := hide (pop_same h0)
  rw [show l.length - 1 = n by omega] at HT
  rw [← hx] at hsn HT ⊢
  clear hx
  have hca := hc1
  rw [hw1] at hca
  clear H hp y0 y1 y2 hbw hc
  unfold enV
  go_enter Tryd.func53, Tryd.ntmps53
  go_wp2_with fail
  rw [← hw1]
  clear hw1 hca
  refine HS.out.mono ?_
  rintro e w3 ⟨rfl, hl3, hm3⟩
  have hr : w3.heap[w.heap.size]? = w1.heap[w.heap.size]? := hm3.same _ (by omega) (by omega)
  have HR3 := hide (hr.trans ZB.out)
  have r0 := (World.cell?_of_block (a := ⟨w.heap.size, 0, none⟩) hr).trans z0
  have r1 := (World.cell?_of_block (a := ⟨w.heap.size, 1, none⟩) hr).trans z1
  have r2 := (World.cell?_of_block (a := ⟨w.heap.size, 2, none⟩) hr).trans z2
  have rf : ∀ j, w3.frozen? ⟨w.heap.size, j, none⟩ = false := fun j => (World.frozen?_of_block (a := ⟨w.heap.size, j, none⟩) hr).trans (zf j)
  have hs3 : w.heap.size < w3.heap.size := Nat.lt_of_lt_of_le (by omega) hm3.size
  obtain ⟨t0, t1, t2⟩ := hl3.cells (i := n) (by omega)
  rw [hsn] at t0 t1 t2
  have c3 : w3.cell? ⟨h, 0, none⟩ = some (.slice (some ⟨g, 0, none⟩) (n + 1) cap) := by obtain ⟨cs, h1, _⟩ := hl3.ex; rw [← hsl]; exact h1.c
  have cf : w3.frozen? ⟨h, 0, none⟩ = false := by obtain ⟨cs, h1, _⟩ := hl3.ex; exact h1.fz
  obtain ⟨y0, y1, y2⟩ := cellsE_new (w3.setCell ⟨h, 0, none⟩ (.slice (some ⟨g, 0, none⟩) n cap)) (.string x.st) (.int .i64 x.at') (.int .i64 x.op)
  have HK := hide (hp_pop HP.out h0)
  rw [show l.length - 1 = n by omega] at HK
  have hb4 : Below w3.heap.size w3 (w3.alloc (.cells #[.string x.st, .int .i64 x.at', .int .i64 x.op] 93)) := (Below.refl _ _).alloc (Nat.le_refl _) _
  have hh3 : h < w3.heap.size := by omega
  have c4 : (w3.alloc (.cells #[.string x.st, .int .i64 x.at', .int .i64 x.op] 93)).cell? ⟨h, 0, none⟩ = some (.slice (some ⟨g, 0, none⟩) (n + 1) cap) := (World.cell?_of_block (hb4.block _ hh3)).trans c3
  have cf4 : (w3.alloc (.cells #[.string x.st, .int .i64 x.at', .int .i64 x.op] 93)).frozen? ⟨h, 0, none⟩ = false := (World.frozen?_of_block (a := ⟨h, 0, none⟩) (hb4.block _ hh3)).trans cf
  have hsz : (w3.setCell ⟨h, 0, none⟩ (.slice (some ⟨g, 0, none⟩) n cap)).heap.size = w3.heap.size := by simp [World.setCell]
  have HC := hide (sink_at ((hl3.cut (m := n) (by omega)).up ((Below.refl _ _).alloc (Nat.le_refl _) (.cells #[.string x.st, .int .i64 x.at', .int .i64 x.op] 93))) HK.out (by rw [List.length_take]; omega) (a := (n : Int)) (by rw [List.length_take]; omega))
  rw [hsz] at y0 y1 y2
  have Y0 := hide (y0 93)
  have Y1 := hide (y1 93)
  have Y2 := hide (y2 93)
  have HM := hide hm3
  have H4 := hide hb4
  clear hl3 hm3 HS HP hsl hsn hr z0 z1 z2 zf hc1 HK y0 y1 y2 hb4
  go_wp2_with fail
  refine HC.out.mono ?_
  rintro e w5 ⟨rfl, l', hs, hp5, hl5, hm5⟩
  have hs5 : ((w3.setCell ⟨h, 0, none⟩ (.slice (some ⟨g, 0, none⟩) n cap)).alloc (.cells #[.string x.st, .int .i64 x.at', .int .i64 x.op] 93)).heap.size = w3.heap.size + 1 := by rw [World.size_alloc, hsz]
  have far : ∀ k, k < w3.heap.size + 1 → k ≠ g → w5.heap[k]? = ((w3.setCell ⟨h, 0, none⟩ (.slice (some ⟨g, 0, none⟩) n cap)).alloc (.cells #[.string x.st, .int .i64 x.at', .int .i64 x.op] 93)).heap[k]? := fun k hk h2 => hm5.same k (by rw [hs5]; exact hk) h2
  have u0 := (World.cell?_of_block (a := ⟨w3.heap.size, 0, none⟩) (far w3.heap.size (by omega) (by omega))).trans Y0.out
  have u1 := (World.cell?_of_block (a := ⟨w3.heap.size, 1, none⟩) (far w3.heap.size (by omega) (by omega))).trans Y1.out
  have u2 := (World.cell?_of_block (a := ⟨w3.heap.size, 2, none⟩) (far w3.heap.size (by omega) (by omega))).trans Y2.out
  have fr : w5.heap[w.heap.size]? = w3.heap[w.heap.size]? := (far _ (by omega) (by omega)).trans ((Below.heap_alloc (w3.setCell ⟨h, 0, none⟩ (.slice (some ⟨g, 0, none⟩) n cap)) (.cells #[.string x.st, .int .i64 x.at', .int .i64 x.op] 93) _ (by rw [hsz]; exact hs3)).trans (Below.heap_setCell _ _ _ _ (by show w.heap.size ≠ h; omega)))
  have HR5 := hide (row3_set (fr.trans HR3.out) (.string x.st) (.int .i64 x.at') (.int .i64 x.op))
  have v0 := (World.cell?_of_block (a := ⟨w.heap.size, 0, none⟩) fr).trans r0
  have v1 := (World.cell?_of_block (a := ⟨w.heap.size, 1, none⟩) fr).trans r1
  have v2 := (World.cell?_of_block (a := ⟨w.heap.size, 2, none⟩) fr).trans r2
  have vf : ∀ j, w5.frozen? ⟨w.heap.size, j, none⟩ = false := fun j => (World.frozen?_of_block (a := ⟨w.heap.size, j, none⟩) fr).trans (rf j)
  have HM5 := hide hm5
  have HL5 := hide hl5
  have HP5 := hide hp5
  have HS5 := hide hs
  clear far fr hm5 hl5 hp5 hs r0 r1 r2 rf t0 t1 t2 c3 cf c4 cf4 HC Y0 Y1 Y2
  go_wp2
  (try simp only [Exit.inBlock, Exit.then])
  refine bodyPost_ret (results_cell_row rfl _ _ w.heap.size 93 #[.string x.st, .int .i64 x.at', .int .i64 x.op] (0, 0) _ rfl HR5.out Tryd.underlying93 rfl Tryd.sizeEnd) rfl ?_
  have hrh : w.heap.size ≠ h := by omega
  have hrg : w.heap.size ≠ g := by omega
  refine ⟨rfl, l', ?_, HP5.out, ?_, ?_⟩
  · obtain ⟨cs, k1, k2⟩ := HL5.out.ex
    refine ⟨cs, k1.kept ?_ ?_, k2⟩
    · rw [Below.heap_setCell _ _ _ _ (Ne.symm hrh), Below.heap_setCell _ _ _ _ (Ne.symm hrh), Below.heap_setCell _ _ _ _ (Ne.symm hrh)]
    · rw [Below.heap_setCell _ _ _ _ (Ne.symm hrg), Below.heap_setCell _ _ _ _ (Ne.symm hrg), Below.heap_setCell _ _ _ _ (Ne.symm hrg)]
  · exact HT.out.trans ⟨by rw [List.length_cons, List.length_cons, HS5.out.len], fun y => by rw [List.count_cons, List.count_cons, HS5.out.cnt y]⟩
  · have m0 : Moves (fun k => k = h ∨ k = g) w (fun k => k = h ∨ k = g) w1 := mv_up HB.out
    have m1 : Moves (fun k => k = h ∨ k = g) w1 (fun k => k = h ∨ k = g) w3 := HM.out.wider (fun k _ e => .inr e) (fun k _ e => e)
    have m2 := (((m0.trans m1).setCell (p := ⟨h, 0, none⟩) (fun _ => .inl rfl) (.slice (some ⟨g, 0, none⟩) n cap)).trans (mv_up ((Below.refl _ _).alloc (Nat.le_refl _) (.cells #[.string x.st, .int .i64 x.at', .int .i64 x.op] 93)))).trans (HM5.out.wider (A' := fun k => k = h ∨ k = g) (B' := fun k => k = h ∨ k = g) (fun k _ e => .inr e) (fun k _ e => e))
    have nl : ∀ j, (⟨w.heap.size, j, none⟩ : Addr).block < w.heap.size → ((⟨w.heap.size, j, none⟩ : Addr).block = h ∨ (⟨w.heap.size, j, none⟩ : Addr).block = g) := fun j c => absurd c (by show ¬ w.heap.size < w.heap.size; omega)
    exact ((m2.setCell (nl 0) _).setCell (nl 1) _).setCell (nl 2) _
end Go.Proofs.YtbooongkbninhaaDoor

namespace Go.Proofs.YtbooongkbninhaaDoor
open Go.RowKit
open Doc1

set_option maxRecDepth 100000 in
set_option maxHeartbeats 4000000 in
theorem pushMark_any {h : Nat} {v : Value} {l : List En} {w : World} (H : Hv h v l w) (hp : Hp dE ahE l) (m : Mk) (hl : l.length ≤ 90000) :
    Calls Tryd.prog 27 #[.pointer (some ⟨h, 0, none⟩), mrV m] w fun e w' => e = .returned (.tuple #[]) ∧ ∃ v' l', Hv h v' l' w' ∧ Hp dE ahE l' ∧ Same (l ++ endsOf m) l' ∧ Moves (OV h v) w (OV h v') w' := by
  obtain ⟨y0, y1, y2⟩ := cellsE_new w (.int .i64 m.frm) (.int .i64 m.to) (.string m.style)
  have z0 := y0 34
  have z1 := y1 34
  have z2 := y2 34
  have hbw : Below w.heap.size w (w.alloc (.cells #[.int .i64 m.frm, .int .i64 m.to, .string m.style] 34)) := (Below.refl _ _).alloc (Nat.le_refl _) _
  unfold mrV
  by_cases hft : m.frm < m.to
  · have he : endsOf m = [opE m, clE m] := if_pos hft
    have P1 := push_any (H.up hbw) hp (opE m) (by omega)
    unfold enV opE at P1
    have HP1 := hide P1
    have HH := hide H
    have HB := hide hbw
    clear H hp hbw P1 y0 y1 y2
    go_enter Tryd.func27, Tryd.ntmps27
    go_wp2_with fail
    refine HP1.out.mono ?_
    rintro e w2 ⟨rfl, v2, l2, hv2, hp2, hs2, hm2⟩
    have hbx : w2.heap[w.heap.size]? = (w.alloc (.cells #[.int .i64 m.frm, .int .i64 m.to, .string m.style] 34)).heap[w.heap.size]? := hm2.same _ (by simp) (fun c => absurd (HH.out.ltO c) (by omega))
    have b1 := (World.cell?_of_block (a := ⟨w.heap.size, 1, none⟩) hbx).trans z1
    have b2 := (World.cell?_of_block (a := ⟨w.heap.size, 2, none⟩) hbx).trans z2
    have P2 := push_any hv2 hp2 (clE m) (by rw [hs2.len]; simp; omega)
    unfold enV clE at P2
    have HP2 := hide P2
    have HM := hide hm2
    have HS := hide hs2
    clear P2 hv2 hp2 hs2 hm2 z0 z1 z2 hbx
    go_wp2_with fail
    refine HP2.out.mono ?_
    rintro e w3 ⟨rfl, v3, l3, hv3, hp3, hs3, hm3⟩
    go_wp2
    go_end0
    refine ⟨rfl, v3, l3, hv3, hp3, ?_, ((mv_up HB.out).trans HM.out).trans hm3⟩
    rw [he]
    refine ⟨by rw [hs3.len, List.length_append, HS.out.len]; simp [opE], fun x => ?_⟩
    have e1 := HS.out.cnt x
    have e2 := hs3.cnt x
    rw [List.count_append] at e1 e2
    rw [e2, e1, List.count_append, Nat.add_assoc]
    congr 1
    rw [show [opE m, clE m] = [opE m] ++ [clE m] from rfl, List.count_append]
    rfl
  · rw [show endsOf m = [] from if_neg hft, List.append_nil]
    have HH := hide H
    have HP := hide hp
    have HB := hide hbw
    clear H hp hbw y0 y1 y2
    go_enter Tryd.func27, Tryd.ntmps27
    go_wp2
    go_end0
    refine ⟨rfl, v, l, HH.out.up HB.out, HP.out, ?_, mv_up HB.out⟩
    exact Same.refl l
end Go.Proofs.YtbooongkbninhaaDoor

namespace Go.Proofs.YtbooongkbninhaaDoor
open Go.RowKit
open Doc1

theorem Tryd.infoMk : (Tryd.prog.info? 34).map (fun i => (i.zero, i.size, i.bytes)) = some (some (.agg #[.int .i64 0, .int .i64 0, .string ⟨#[]⟩]), 3, 32) := by kernel_rfl
theorem cloneE_any (s : ByteArray) (w : World) (hs : s.size ≤ 1048576) :
    Calls Tryd.prog 39 #[.string s] w fun e w' => e = .returned (.string s) ∧ Below w.heap.size w w' := by
  have H := hide (Tryd.stringslite_Clone s w (by omega))
  go_enter Tryd.func39, Tryd.ntmps39
  go_wp2_with (go_at_call 60; refine H.out.mono ?_; rintro e w' ⟨rfl, hb⟩)
  go_ret
  exact ⟨rfl, hb⟩
/-- What has been told, and what is left. -/
structure MI (h g cap : Nat) (l : List En) (w : World) (pre l' : List En) (wr : World) : Prop where
  hl : Hl h g cap l' wr
  hp : Hp dE ahE l'
  sm : Same l (pre ++ l')
  srt : Srt ahE pre
  ab : ∀ a ∈ pre, ∀ b ∈ l', le ahE a b
  mv : Moves (fun k => k = h ∨ k = g) w (fun k => k = h ∨ k = g) wr
def MO (w : World) (pre : List En) (v : Value) (wr : World) : Prop := wr.ownsRow w.heap.size 34 3 v (mkF pre).1.length (encMr (mkF pre).1)
theorem same_mem {a b : List En} (h : Same a b) {x : En} (hx : x ∈ b) : x ∈ a := by
  have := h.cnt x
  rw [← List.count_pos_iff] at hx ⊢
  omega
theorem MI.pop {h g cap : Nat} {l : List En} {w : World} {pre l' l2 : List En} {wr w2 : World} (I : MI h g cap l w pre l' wr) (h0 : 0 < l'.length) (k1 : Hl h g cap l2 w2) (k2 : Hp dE ahE l2) (k3 : Same l' (l'[0] :: l2)) (k4 : Moves (fun k => k = h ∨ k = g) wr (fun k => k = h ∨ k = g) w2) : MI h g cap l w (pre ++ [l'[0]]) l2 w2 := by
  have hmin : ∀ b ∈ l', le ahE l'[0] b := fun b hb => by
    obtain ⟨k, hk, rfl⟩ := List.getElem_of_mem hb
    have := hp_min ahE_ord I.hp k k (Nat.le_refl _) hk
    rw [gt_at h0, gt_at hk] at this
    exact this
  have hmem : ∀ b ∈ l2, b ∈ l' := fun b hb => same_mem k3 (List.mem_cons_of_mem _ hb)
  refine ⟨k1, k2, I.sm.trans ⟨?_, fun x => ?_⟩, ?_, ?_, I.mv.trans k4⟩
  · have := k3.len
    simp only [List.length_append, List.length_cons, List.length_nil] at this ⊢
    omega
  · have := k3.cnt x
    rw [List.append_assoc, List.singleton_append, List.count_append, List.count_append, this]
  · unfold Srt
    rw [List.pairwise_append]
    refine ⟨I.srt, List.pairwise_singleton _ _, fun a ha b hb => ?_⟩
    rw [List.mem_singleton] at hb
    subst hb
    exact I.ab a ha _ (List.getElem_mem h0)
  · intro a ha b hb
    rcases List.mem_append.1 ha with c | c
    · exact I.ab a c b (hmem b hb)
    · rw [List.mem_singleton] at c
      subst c
      exact hmin b (hmem b hb)
theorem MI.up {h g cap : Nat} {l : List En} {w : World} {pre l' : List En} {wr w2 : World} (I : MI h g cap l w pre l' wr) (hb : Below wr.heap.size wr w2) : MI h g cap l w pre l' w2 := ⟨I.hl.up hb, I.hp, I.sm, I.srt, I.ab, I.mv.trans (mv_up hb)⟩
theorem MI.grow {h g cap : Nat} {l : List En} {w : World} {pre l' : List En} {wr w2 : World} {row : Option Nat} (I : MI h g cap l w pre l' wr) (hg : wr.grownBy w2 row) (hr : ∀ k, row = some k → w.heap.size ≤ k) (h1 : h < w.heap.size) (h2 : g < w.heap.size) : MI h g cap l w pre l' w2 := by
  have hsz := I.mv.size
  have fa : ∀ k, k < w.heap.size → w2.heap[k]? = wr.heap[k]? := fun k hk => hg.block k (by omega) (fun e => absurd (hr k e.symm) (by omega))
  obtain ⟨cs, k1, k2⟩ := I.hl.ex
  exact ⟨⟨cs, k1.kept (fa _ h1) (fa _ h2), k2⟩, I.hp, I.sm, I.srt, I.ab, ⟨hg.os.trans I.mv.os, hg.tape.trans I.mv.tape, hg.output.trans I.mv.output, Nat.le_trans hsz hg.size, fun k hk hn => (fa k hk).trans (I.mv.same k hk hn), I.mv.own⟩⟩
/-- A row from after the call bears whatever the heap does. -/
theorem row_mv {w wr w2 : World} {h g n : Nat} {v : Value} {xs : List Value} {e : TypeId} (ho : wr.ownsRow w.heap.size e 3 v n xs) (hm : Moves (fun k => k = h ∨ k = g) wr (fun k => k = h ∨ k = g) w2) (h1 : h < w.heap.size) (h2 : g < w.heap.size) : w2.ownsRow w.heap.size e 3 v n xs := by
  refine ⟨ho.1, ?_⟩
  rcases ho.2 with hn | ⟨g', cap, cur, hv, hb', hh, rest⟩
  · exact .inl hn
  · exact .inr ⟨g', cap, cur, hv, hb', (hm.same g' (Array.getElem?_eq_some_iff.1 hh).1 (by omega)).trans hh, rest⟩
theorem grow_cells {w1 w2 : World} {row : Option Nat} {b : Nat} {a0 a1 a2 : Value} (hg : w1.grownBy w2 row) (hne : row ≠ some b) (hl : b < w1.heap.size) (h : w1.cell? ⟨b, 1, none⟩ = some a1 ∧ w1.cell? ⟨b, 0, none⟩ = some a0 ∧ w1.cell? ⟨b, 2, none⟩ = some a2) : w2.cell? ⟨b, 1, none⟩ = some a1 ∧ w2.cell? ⟨b, 0, none⟩ = some a0 ∧ w2.cell? ⟨b, 2, none⟩ = some a2 := by
  have e := hg.block b hl (Ne.symm hne)
  exact ⟨(World.cell?_of_block (a := ⟨b, 1, none⟩) e).trans h.1, (World.cell?_of_block (a := ⟨b, 0, none⟩) e).trans h.2.1, (World.cell?_of_block (a := ⟨b, 2, none⟩) e).trans h.2.2⟩
/-- How many ends lie in the heap. -/
def lenAt (w : World) (h : Nat) : Nat := match w.cell? ⟨h, 0, none⟩ with
  | some (.slice _ n _) => n
  | _ => 0
theorem Hl.lenAt {h g cap : Nat} {l : List En} {w : World} (H : Hl h g cap l w) : lenAt w h = l.length := by
  obtain ⟨cs, h1, _⟩ := H.ex
  unfold Go.Proofs.YtbooongkbninhaaDoor.lenAt; rw [h1.c]
theorem stE_open (out : List Mk) (x : En) (h : x.op ≠ 0) : stE (out, 0) x = (out ++ [⟨x.at', 0, x.st⟩], x.op) := by
  unfold stE opnE
  simp [h]
theorem stE_2 (s : List Mk × Int) (x : En) : (stE s x).2 = s.2 + x.op := by unfold stE; split <;> rfl
theorem stE_close (out : List Mk) {o : Int} (x : En) (h : o ≠ 0) (h1 : o + x.op = 0) : (stE (out, o) x).1 = setTo out x.at' := by
  unfold stE opnE
  simp [h, h1]
theorem stE_stay (out : List Mk) {o : Int} (x : En) (h : o ≠ 0) (h1 : ¬ o + x.op = 0) : (stE (out, o) x).1 = out := by
  unfold stE opnE
  simp [h, h1]
theorem grown_refl (w : World) (row : Option Nat) : w.grownBy w row := ⟨rfl, rfl, rfl, Nat.le_refl _, fun _ _ _ => rfl⟩
theorem encMr_set (l : List Mk) (t : Int) : ∀ i (h : i < l.length), (encMr l).set (i * 3 + 1) (.int .i64 t) = encMr (l.set i ⟨l[i].frm, t, l[i].style⟩) := by
  induction l with
  | nil => intro i h; simp at h
  | cons y l ih =>
    intro i h
    have e : ∀ z (m : List Mk), encMr (z :: m) = .int .i64 z.frm :: .int .i64 z.to :: .string z.style :: encMr m := fun z m => by simp [encMr, mrC]
    cases i with
    | zero => simp [e]
    | succ i =>
      have := ih i (by simpa using h)
      rw [show (i + 1) * 3 + 1 = i * 3 + 1 + 1 + 1 + 1 by omega]
      simp only [e, List.set_cons_succ, List.getElem_cons_succ]
      rw [← this]
theorem mr_last {w : World} {B r n cp m : Nat} {out : List Mk} (h : w.ownsRow B 34 3 (.slice (some ⟨r, 0, none⟩) n cp) n (encMr out)) (hm : out.length = m + 1) (t : Int) :
    ∃ T, w.cell? ⟨r, m * 3 + 1, none⟩ = some T ∧ (w.setCell ⟨r, m * 3 + 1, none⟩ (.int .i64 t)).ownsRow B 34 3 (.slice (some ⟨r, 0, none⟩) n cp) n (encMr (setTo out t)) := by
  have hn : n = m + 1 := by have := h.1; rw [encMr_len] at this; omega
  rcases h.2 with ⟨hv, _⟩ | ⟨g', cap, cur, hv, hb, hh, k1, k2, k3, k4⟩
  · cases hv
  · cases hv
    have hsz : m * 3 + 1 < cur.size := by omega
    refine ⟨cur[m * 3 + 1], ?_, ?_⟩
    · unfold World.cell?; rw [hh]; simp [hsz]
    · have es : setTo out t = out.set m ⟨(out[m]'(by omega)).frm, t, (out[m]'(by omega)).style⟩ := by
        unfold setTo
        have : out.getLast? = some (out[m]'(by omega)) := by rw [List.getLast?_eq_getElem?, show out.length - 1 = m by omega, List.getElem?_eq_getElem (by omega)]
        rw [this, show out.length - 1 = m by omega]
      refine ⟨by rw [es, encMr_len, List.length_set]; omega, .inr ⟨r, cp, cur.set! (m * 3 + 1) (.int .i64 t), rfl, hb, row1_set hh _ _, k1, k2, by simpa using k3, ?_⟩⟩
      rw [es, ← encMr_set out t m (by omega), ← k4]
      simp [List.take_set]
/-- What is told in the end: the marks, or that they are too many. -/
def MkPost (w : World) (ms : List Mk) (e : Ending) (w' : World) : Prop := if 40 < ms.length then e = .returned (.tuple #[.slice none 0 0, .bool false]) else ∃ v, e = .returned (.tuple #[v, .bool true]) ∧ w'.ownsRow w.heap.size 34 3 v ms.length (encMr ms)

set_option maxRecDepth 100000 in
set_option maxHeartbeats 8000000 in
theorem marks_any {h g cap : Nat} {l : List En} {w : World} (H : Hl h g cap l w) (hp : Hp dE ahE l) (hl : l.length ≤ 90000) (hop : ∀ e ∈ l, (e.op = 1 ∨ e.op = -1) ∧ e.st.size ≤ 1048576) (S : List En) (hS : Srt ahE S) (hc : Same l S) :
    Calls Tryd.prog 28 #[.pointer (some ⟨h, 0, none⟩)] w fun e w' => MkPost w (mkF S).1 e w' ∧ Moves (fun k => k = h ∨ k = g) w (fun k => k = h ∨ k = g) w' := by
  obtain ⟨i0, hi0, hz0, hz1, hz2⟩ := info_parts Tryd.infoMk
  have hhl : h < w.heap.size := by obtain ⟨cs, h1, _⟩ := H.ex; exact h1.hlt
  have hgl : g < w.heap.size := by obtain ⟨cs, h1, _⟩ := H.ex; exact h1.glt
  have I0 : Hid (MI h g cap l w [] l w) := hide ⟨H, hp, Same.refl l, List.Pairwise.nil, fun a ha => (by cases ha), Moves.refl _ _⟩
  have O0 : Hid (MO w [] (.slice none 0 0) w) := hide ⟨rfl, .inl ⟨rfl, rfl⟩⟩
  have HOP := hide hop
  have HSS := hide hS
  have HC := hide hc
  clear H hp hop hS hc
  go_enter Tryd.func28, Tryd.ntmps28
  go_wp2_with fail
  go_loopw [4, 5] (fun a b wr => ∃ pre l' v, v = a ∧ pre.length + l'.length = l.length ∧ b = .int .i64 (mkF pre).2 ∧ Hid (MI h g cap l w pre l' wr) ∧ Hid (MO w pre v wr)) (fun _ _ wr => lenAt wr h)
  case atStart => exact ⟨[], l, _, rfl, by simp, rfl, I0, O0⟩
  case round =>
    obtain ⟨pre, l', v, hva, hlen, rfl, HI, HO⟩ := hrel
    subst hva
    have c0 : wr.cell? ⟨h, 0, none⟩ = some (.slice (some ⟨g, 0, none⟩) l'.length cap) := by obtain ⟨cs, h1, _⟩ := HI.out.hl.ex; exact h1.c
    have hlc : lenAt wr h = l'.length := by unfold lenAt; rw [c0]
    by_cases h0 : 0 < l'.length
    · obtain ⟨x, hx⟩ : ∃ x, x = l'[0] := ⟨_, rfl⟩
      have hmem : x ∈ l := same_mem HI.out.sm (List.mem_append_right _ (hx ▸ List.getElem_mem h0))
      obtain ⟨hop, hst⟩ := HOP.out x hmem
      have hb := mkF_bd pre (fun e he => (HOP.out e (same_mem HI.out.sm (List.mem_append_left _ he))).1)
      have HP0 := pop_any HI.out.hl HI.out.hp (by omega) h0
      have HN := hide (fun l2 w2 k1 k2 k3 k4 => HI.out.pop (l2 := l2) (w2 := w2) h0 k1 k2 k3 k4)
      rw [← hx] at HP0 HN
      unfold enV at HP0
      have HP := hide HP0
      have HX := hide (mkF_snoc pre x)
      have CL := hide (fun w => cloneE_any x.st w hst)
      have hi1 : (0 : Int) < (l'.length : Int) := by omega
      obtain ⟨o, hoo⟩ : ∃ o, o = (mkF pre).2 := ⟨_, rfl⟩
      obtain ⟨out, hout⟩ : ∃ out, out = (mkF pre).1 := ⟨_, rfl⟩
      have HO' : Hid (wr.ownsRow w.heap.size 34 3 v out.length (encMr out)) := hide (by rw [hout]; exact HO.out)
      rw [← hoo, ← hout] at hb
      have HE : Hid (mkF pre = (out, o)) := hide (by rw [hout, hoo])
      rw [HE.out] at HX
      rw [← hoo]
      clear HO HP0 hx hoo hout hmem
      by_cases ho : o = 0
      · subst ho
        go_wp2_with fail
        refine HP.out.mono ?_
        rintro e w2 ⟨rfl, l2, k1, k2, k3, k4⟩
        have I2 := HN.out l2 w2 k1 k2 k3 k4
        have O2 := row_mv HO'.out k4 hhl hgl
        obtain ⟨y0, y1, y2⟩ := cellsE_new w2 (.string x.st) (.int .i64 x.at') (.int .i64 x.op)
        obtain ⟨w3, hw3⟩ : ∃ w3, w3 = w2.alloc (.cells #[.string x.st, .int .i64 x.at', .int .i64 x.op] 93) := ⟨_, rfl⟩
        have z0 := y0 93
        have z1 := y1 93
        have z2 := y2 93
        rw [← hw3] at z0 z1 z2
        have hb3 : Below w2.heap.size w2 w3 := by rw [hw3]; exact (Below.refl _ _).alloc (Nat.le_refl _) _
        have HI3 := hide (I2.up hb3)
        have hs3 : w2.heap.size < w3.heap.size := by rw [hw3]; simp
        have hws := HI3.out.mv.size
        have O3 : w3.ownsRow w.heap.size 34 3 v out.length (encMr out) := by rw [hw3]; exact O2.alloc _
        have hvb : v.ownBlock ≠ some w2.heap.size := fun e => absurd (O2.lt _ e).2 (by omega)
        have hl2 := k3.len
        rw [List.length_cons] at hl2
        clear k1 k2 k3 k4 I2 O2 HP HN y0 y1 y2 c0 HO' hb3
        go_wp2_with fail
        rw [← hw3]
        clear hw3
        have KK : Hid (∀ w', Below w3.heap.size w3 w' → w'.cell? ⟨w2.heap.size, 1, none⟩ = some (.int .i64 x.at') ∧ w'.cell? ⟨w2.heap.size, 0, none⟩ = some (.string x.st) ∧ w'.cell? ⟨w2.heap.size, 2, none⟩ = some (.int .i64 x.op)) := hide (fun w' hb => ⟨(World.cell?_of_block (hb.block _ hs3)).trans z1, (World.cell?_of_block (hb.block _ hs3)).trans z0, (World.cell?_of_block (hb.block _ hs3)).trans z2⟩)
        have O4 : Hid (∀ w', Below w3.heap.size w3 w' → w'.ownsRow w.heap.size 34 3 v out.length (encMr out)) := hide (fun w' hb => own_below O3 hb)
        go_region_held3 (fun w' => w'.cell? ⟨w2.heap.size, 1, none⟩ = some (.int .i64 x.at') ∧ w'.cell? ⟨w2.heap.size, 0, none⟩ = some (.string x.st) ∧ w'.cell? ⟨w2.heap.size, 2, none⟩ = some (.int .i64 x.op))
          (first | assumption | exact KK.out _ (Below.refl _ _) | exact KK.out _ (Below.refl _ _).drew | exact hS5 | exact KK.out _ hb5 | exact KK.out _ (hb5.alloc hb5.size _))
          (first
            | (go_at_call 39; refine (CL.out _).mono ?_; rintro e w4 ⟨rfl, hb4⟩; have hb5 : Below w3.heap.size w3 w4 := (by first | exact hb4 | exact (Below.refl w3.heap.size w3).drew.trans hb4); have hsz5 := hb5.size)
            | ((refine step_append_lies _ (by rfl) _ _ _ (by rfl) w.heap.size 34 i0 _ 3 32 Tryd.underlying24 hi0 hz0 hz1 hz2 rfl (by omega) v out.length (encMr out) (by rfl) ((O4.out _ hb5).alloc _)
                    ⟨w4.heap.size, 0, none⟩ 1 1 [.int .i64 x.at', .int .i64 0, .string x.st] (by rfl) (by rfl) (World.news_of_block (cs := #[.int .i64 x.at', .int .i64 0, .string x.st]) (t := 34) (fr := (0, 0)) (heap_alloc_new w4 _)) (by simp [Value.oneCell'])
                    (by omega) (by unfold maxLen; omega) (by omega) (by first | omega | (simp; omega)) (w4.heap.size + 1) (by simp) ?_; intro gg cap' w5 hown1 hgrow hat hlt; have hS5 := grow_cells hgrow hvb (by simp; have := hb5.size; omega) (KK.out _ (hb5.alloc hb5.size _)))))
        all_goals
          obtain ⟨q1, q0, q2⟩ := hS5
          have I5 := hide ((HI3.out.up (hb5.alloc hb5.size _)).grow hgrow (fun k e => (O3.lt k e).1) hhl hgl)
          have hl5 := hide (I5.out.hl.lenAt)
          have O5 := hide hown1
          clear hown1 hgrow hat hlt O3 O4 KK CL HI3 z0 z1 z2
          rcases hop with e | e
          all_goals
            rw [e] at q2
            go_wp2
            go_roundw
            case rel => exact ⟨pre ++ [x], l2, _, rfl, by rw [List.length_append]; simp; omega, by rw [HX.out, stE_open out x (by omega), e], I5, hide (by unfold MO; rw [HX.out, stE_open out x (by omega), List.length_append, encMr_app]; exact O5.out)⟩
            case measure => rw [hl5.out, hlc]; omega
      · have hne : out ≠ [] := hb.2.2.2 ho
        have hnl : 0 < out.length := List.length_pos_iff.2 hne
        obtain ⟨m, hm⟩ : ∃ m, out.length = m + 1 := ⟨out.length - 1, by omega⟩
        obtain ⟨r, cp, hv, hc1, hc2, hrb, hrl, hcl, hbk⟩ := own_cat HO'.out hnl
        subst hv
        have ho' : (o == 0) = false := by simpa using ho
        have hmi : (m : Int) < (m : Int) + 1 := by omega
        have hm0 : (0 : Int) ≤ (m : Int) := by omega
        have jw : IntKind.i64.wrap (m : Int) = (m : Int) := by rw [IntKind.wrap_i64] <;> omega
        have how : IntKind.i64.wrap (o + x.op) = o + x.op := by rw [IntKind.wrap_i64] <;> omega
        go_wp2_with fail
        refine HP.out.mono ?_
        rintro e w2 ⟨rfl, l2, k1, k2, k3, k4⟩
        have I2 := HN.out l2 w2 k1 k2 k3 k4
        have O2 := row_mv HO'.out k4 hhl hgl
        obtain ⟨y0, y1, y2⟩ := cellsE_new w2 (.string x.st) (.int .i64 x.at') (.int .i64 x.op)
        have z0 := y0 93
        have z1 := y1 93
        have z2 := y2 93
        have hb3 : Below w2.heap.size w2 (w2.alloc (.cells #[.string x.st, .int .i64 x.at', .int .i64 x.op] 93)) := (Below.refl _ _).alloc (Nat.le_refl _) _
        have I3 := I2.up hb3
        have O3 : (w2.alloc (.cells #[.string x.st, .int .i64 x.at', .int .i64 x.op] 93)).ownsRow w.heap.size 34 3 (.slice (some ⟨r, 0, none⟩) out.length cp) out.length (encMr out) := O2.alloc _
        have hl2 := k3.len
        rw [List.length_cons] at hl2
        by_cases h1 : o + x.op = 0
        · obtain ⟨T, ht, hrow⟩ := mr_last O3 hm x.at'
          have hfz : (w2.alloc (.cells #[.string x.st, .int .i64 x.at', .int .i64 x.op] 93)).frozen? ⟨r, m * 3 + 1, none⟩ = false := by
            obtain ⟨_, _, e, _, _, _, _, _, fk⟩ := own_cat O3 hnl
            cases e; exact fk.fz _
          have I4 := hide (I3.grow (grown_set (grown_refl _ _) (m * 3 + 1) (.int .i64 x.at')) (fun k e => by cases e; exact hrb) hhl hgl)
          have hl4 := hide (I4.out.hl.lenAt)
          have HR := hide hrow
          rw [hm]
          have h1b : (o + x.op == 0) = true := by simpa using h1
          have H1 := hide h1
          clear h1 k1 k2 k3 k4 I2 O2 I3 O3 HP HN y0 y1 y2 HO' hb3 hcl hbk hrow
          go_wp2
          refine ⟨⟨pre ++ [x], l2, _, rfl, by rw [List.length_append]; simp; omega, by rw [HX.out, stE_2], I4, hide ?_⟩, by rw [hl4.out, hlc]; omega⟩
          unfold MO
          rw [HX.out, stE_close out x ho H1.out, setTo_len, ← hm]
          exact HR.out
        · have h1' : (o + x.op == 0) = false := by simpa using h1
          have I4 := hide I3
          have O4 := hide O3
          have hl4 := hide (I4.out.hl.lenAt)
          clear k1 k2 k3 k4 I2 O2 I3 O3 HP HN y0 y1 y2 HO' hb3 hcl hbk
          rw [hm]
          go_wp2
          refine ⟨⟨pre ++ [x], l2, _, rfl, by rw [List.length_append]; simp; omega, by rw [HX.out, stE_2], I4, hide ?_⟩, by rw [hl4.out, hlc]; omega⟩
          unfold MO
          rw [HX.out, stE_stay out x ho h1, ← hm]
          exact O4.out
    · obtain rfl : l' = [] := List.length_eq_zero_iff.1 (by omega)
      have hpre : pre = S := srt_one ahE_ord HI.out.srt HSS.out (fun x => by have a1 := HI.out.sm.cnt x; have a2 := HC.out.cnt x; rw [List.append_nil] at a1; omega)
      subst hpre
      have O5 := HO.out
      unfold MO at O5
      have HM := hide HI.out.mv
      rcases O5.2 with ⟨hv, hn⟩ | ⟨r, cp, cur, hv, hrb, hh, k1, k2, k3, k4⟩
      · subst hv
        have HO5 := hide O5
        have Hn := hide hn
        clear O5 HO HI HSS HC hn
        go_wp2
        go_ret2
        refine ⟨?_, HM.out⟩
        unfold MkPost
        rw [if_neg (by rw [Hn.out]; omega)]
        exact ⟨_, rfl, HO5.out⟩
      · subst hv
        have HO5 := hide O5
        clear O5 HO HI HSS HC k4 hh k3
        by_cases h40 : 40 < (mkF pre).1.length
        · have h40' : (40 : Int) < ((mkF pre).1.length : Int) := by omega
          have H4 := hide h40
          clear h40
          go_wp2
          go_ret2
          refine ⟨?_, HM.out⟩
          unfold MkPost
          rw [if_pos H4.out]
          rfl
        · have h40' : ((mkF pre).1.length : Int) ≤ 40 := by omega
          have H4 := hide h40
          clear h40
          go_wp2
          go_ret2
          refine ⟨?_, HM.out⟩
          unfold MkPost
          rw [if_neg H4.out]
          exact ⟨_, rfl, HO5.out⟩
end Go.Proofs.YtbooongkbninhaaDoor

namespace Go.Proofs.YtbooongkbninhaaDoor
open Go.RowKit
open Doc1

def cutOk (l : List Mk) (size fr to : Int) (st : ByteArray) : Bool := goodM l size && (decide (0 ≤ fr ∧ fr ≤ to ∧ to ≤ size) && isSt st)
/-- Both answer so. -/
def cutT (l : List Mk) (size fr to : Int) (st : ByteArray) : List Mk := if cutOk l size fr to st = true ∧ (cutL l fr to st).length ≤ 40 then cutL l fr to st else []
def cutB (l : List Mk) (size fr to : Int) (st : ByteArray) : Bool := cutOk l size fr to st && decide ((cutL l fr to st).length ≤ 40)
def CutPost (l : List Mk) (size fr to : Int) (st : ByteArray) (w : World) (e : Ending) (w' : World) : Prop := ∃ v, e = .returned (.tuple #[v, .bool (cutB l size fr to st)]) ∧ MrOwn w' w.heap.size v (cutT l size fr to st) ∧ Below w.heap.size w w'
theorem mk_form {w w' : World} {ms : List Mk} {e : Ending} (h : MkPost w ms e w') : ∃ v b, e = .returned (.tuple #[v, .bool b]) := by
  unfold MkPost at h
  split at h
  · exact ⟨_, _, h⟩
  · obtain ⟨v, h, _⟩ := h; exact ⟨_, _, h⟩
theorem goodM_nums {l : List Mk} {size : Int} (h : goodM l size = true) : size ≤ 300 ∧ l.length ≤ 40 := by
  unfold goodM at h
  simp only [Bool.and_eq_true, decide_eq_true_eq] at h
  exact ⟨h.1.2, h.2.1⟩
theorem cut_no {l : List Mk} {size fr to : Int} {st : ByteArray} {w w' : World} (h : cutOk l size fr to st = false) (hb : Below w.heap.size w w') : CutPost l size fr to st w (.returned (.tuple #[.slice none 0 0, .bool false])) w' := by
  refine ⟨.slice none 0 0, by unfold cutB; rw [h]; rfl, ?_, hb⟩
  unfold cutT; rw [if_neg (by rw [h]; simp)]; exact World.ownsRow_nil _ _ _ _
theorem cut_yes {l : List Mk} {size fr to : Int} {st : ByteArray} {w wm w' : World} {e : Ending} (h : cutOk l size fr to st = true) (hb : Below w.heap.size w w') (hw : w.heap.size ≤ wm.heap.size) (hp : MkPost wm (cutL l fr to st) e w') : CutPost l size fr to st w e w' := by
  unfold MkPost at hp
  by_cases c : 40 < (cutL l fr to st).length
  · rw [if_pos c] at hp
    refine ⟨.slice none 0 0, by rw [hp]; unfold cutB; rw [h, decide_eq_false (by omega)]; rfl, ?_, hb⟩
    unfold cutT; rw [if_neg (by omega)]; exact World.ownsRow_nil _ _ _ _
  · rw [if_neg c] at hp
    obtain ⟨v, he, ho⟩ := hp
    refine ⟨v, by rw [he]; unfold cutB; rw [h, decide_eq_true (by omega)]; rfl, ?_, hb⟩
    unfold cutT; rw [if_pos ⟨h, by omega⟩]; exact own_mono ho hw

set_option maxRecDepth 100000 in
set_option maxHeartbeats 4000000 in
theorem marks_nil {h : Nat} {w : World} (H : Hv h (.slice none 0 0) [] w) : Calls Tryd.prog 28 #[.pointer (some ⟨h, 0, none⟩)] w fun e w' => MkPost w [] e w' ∧ w' = w := by
  have c0 := H.c
  clear H
  go_enter Tryd.func28, Tryd.ntmps28
  go_wp2_with fail
  go_loopw [4, 5] (fun a b wr => a = .slice none 0 0 ∧ b = .int .i64 0 ∧ wr = w) (fun _ _ _ => 0)
  case atStart => exact ⟨rfl, rfl, rfl⟩
  case round =>
    obtain ⟨rfl, rfl, rfl⟩ := hrel
    go_wp2
    go_ret2
    refine ⟨?_, rfl⟩
    unfold MkPost
    exact ⟨_, rfl, World.ownsRow_nil _ _ _ _⟩
theorem nil_row {h : Nat} {v : Value} {l : List En} {w : World} (H : Hv h v l w) : (v = .slice none 0 0 ∧ l = []) ∨ ∃ g cap, v = .slice (some ⟨g, 0, none⟩) l.length cap ∧ Hl h g cap l w := by
  rcases H.own.2 with ⟨hv, hn⟩ | ⟨g', cap', cur, hv, _⟩
  · exact .inl ⟨hv, List.length_eq_zero_iff.1 hn⟩
  · subst hv; exact .inr ⟨g', cap', rfl, H.hl.2⟩
/-- The heap, so many marks pushed. -/
def CI (fr to : Int) (st : ByteArray) (l : List Mk) (h : Nat) (W : World) (k : Nat) (wr : World) : Prop := ∃ v l', Hv h v l' wr ∧ Hp dE ahE l' ∧ Same ((l.take k).flatMap (pu fr to st)) l' ∧ Moves (OV h (.slice none 0 0)) W (OV h v) wr
theorem pu_len (fr to : Int) (st : ByteArray) : ∀ l : List Mk, (l.flatMap (pu fr to st)).length ≤ 4 * l.length
  | [] => by simp
  | m :: l => by
    have := pu_len fr to st l
    have e : ∀ x : Mk, (endsOf x).length ≤ 2 := fun x => by unfold endsOf; split <;> simp
    have e2 : (pu fr to st m).length ≤ 4 := by
      unfold pu; split
      · have := e m; omega
      · have := e ⟨m.frm, min m.to fr, st⟩; have := e ⟨max m.frm to, m.to, st⟩; simp only [List.length_append]; omega
    rw [List.flatMap_cons, List.length_append, List.length_cons]; omega
theorem CI.below {fr to : Int} {st : ByteArray} {l : List Mk} {h : Nat} {W wr : World} {k : Nat} (c : CI fr to st l h W k wr) {m : Nat} (hm : m ≤ h) (hW : h < W.heap.size) : Below m W wr := by
  obtain ⟨v, l', _, _, _, mv⟩ := c
  exact mv.below (by omega) (fun k hk c => by rcases c with c | c; omega; cases c)

set_option maxRecDepth 100000 in
set_option maxHeartbeats 8000000 in
theorem cutI {w : World} {g cap : Nat} {l : List Mk} (size fr to : Int) (st : ByteArray) (hst : st.size ≤ 1048576) (h : MrIn w g cap l)
    (hG : Calls Tryd.prog 11 #[.slice (some ⟨g, 0, none⟩) l.length cap, .int .i64 size] w fun e w' => e = .returned (.bool (goodM l size)) ∧ Below w.heap.size w w') :
    Calls Tryd.prog 15 #[.slice (some ⟨g, 0, none⟩) l.length cap, .int .i64 size, .int .i64 fr, .int .i64 to, .string st] w (CutPost l size fr to st w) := by
  have hcp := h.cap
  have hln := h.len
  have G := hide hG
  have I := hide (fun w => isStyle_any st w hst)
  have H := hide h
  clear h hG
  cases hg : goodM l size with
  | false =>
    rw [hg] at G
    have HN : Hid (∀ w', Below w.heap.size w w' → CutPost l size fr to st w (.returned (.tuple #[.slice none 0 0, .bool false])) w') := hide (fun w' hb => cut_no (by unfold cutOk; rw [hg]; rfl) hb)
    clear hg
    go_enter Tryd.func15, Tryd.ntmps15
    go_wp2_with (first | (go_at_call 11; refine G.out.mono ?_; rintro e w1 ⟨rfl, hb1⟩) | (go_at_call 38; refine (I.out _).mono ?_; rintro e w' ⟨rfl, hw⟩; replace hw := hw.symm; subst hw))
    go_ret2
    exact HN.out _ hb1
  | true =>
    rw [hg] at G
    by_cases h1 : 0 ≤ fr
    · by_cases h2 : fr ≤ to
      · by_cases h3 : to ≤ size
        · cases hi : isSt st with
          | false =>
            rw [hi] at I
            have HN : Hid (∀ w', Below w.heap.size w w' → CutPost l size fr to st w (.returned (.tuple #[.slice none 0 0, .bool false])) w') := hide (fun w' hb => cut_no (by unfold cutOk; rw [hi]; simp) hb)
            clear hg hi
            go_enter Tryd.func15, Tryd.ntmps15
            go_wp2_with (first | (go_at_call 11; refine G.out.mono ?_; rintro e w1 ⟨rfl, hb1⟩) | (go_at_call 38; refine (I.out _).mono ?_; rintro e w' ⟨rfl, hw⟩; replace hw := hw.symm; subst hw))
            go_ret2
            exact HN.out _ hb1
          | true =>
            rw [hi] at I
            have HY := hide (show cutOk l size fr to st = true by unfold cutOk; rw [hg, hi, decide_eq_true ⟨h1, h2, h3⟩]; rfl)
            have HG := hide hg
            obtain ⟨hz, h40⟩ := goodM_nums hg
            clear hg hi
            go_enter Tryd.func15, Tryd.ntmps15
            go_wp2_with (first | (go_at_call 11; refine G.out.mono ?_; rintro e w1 ⟨rfl, hb1⟩) | (go_at_call 38; refine (I.out _).mono ?_; rintro e w' ⟨rfl, hw⟩; replace hw := hw.symm; subst hw))
            have hw1 := hb1.size
            obtain ⟨W, hW⟩ : ∃ W, W = w1.alloc (.cells #[.slice none 0 0] 59) := ⟨_, rfl⟩
            have hbW : Below w.heap.size w W := by rw [hW]; exact hb1.alloc hb1.size _
            have hWs : w1.heap.size < W.heap.size := by rw [hW]; simp
            have C0 : Hid (CI fr to st l w1.heap.size W 0 W) := hide (by
              refine ⟨.slice none 0 0, [], ⟨?_, ?_, World.ownsRow_nil _ _ _ _, by intro c; cases c⟩, fun k _ hk => by simp at hk, Same.refl _, Moves.refl _ _⟩
              · rw [hW]; unfold World.cell?; rw [heap_alloc_new]; rfl
              · rw [hW]; exact World.frozen?_alloc_new _ _ _ _)
            have HB := hide hbW
            rw [← hW]
            clear hW hb1 hbW
            go_loopw [40] (fun i wr => ∃ k : Nat, k ≤ l.length ∧ i = .int .i64 k ∧ Hid (CI fr to st l w1.heap.size W k wr)) (fun i _ => l.length - (intOf i).toNat)
            case atStart => exact ⟨0, by omega, rfl, C0⟩
            case round =>
              obtain ⟨k, hk, rfl, HC⟩ := hrel
              have HBr := hide (HB.out.trans (HC.out.below hw1 hWs))
              by_cases hlt : k < l.length
              · obtain ⟨c0, c1, c2⟩ := (H.out.later HBr.out).at'.mrat k hlt
                obtain ⟨v, l', hv, hp, hs, hmv⟩ := HC.out
                have hl' : l'.length ≤ 4 * k := by
                  rw [hs.len]
                  have := pu_len fr to st (l.take k)
                  rw [List.length_take] at this
                  omega
                have hnx : Hid (∀ l3, Same (l' ++ pu fr to st l[k]) l3 → Same ((l.take (k + 1)).flatMap (pu fr to st)) l3) := hide (fun l3 h3 => by
                  rw [List.take_succ_eq_append_getElem hlt, List.flatMap_append, List.flatMap_singleton]
                  refine Same.trans ⟨?_, fun x => ?_⟩ h3
                  · rw [List.length_append, List.length_append, hs.len]
                  · rw [List.count_append, List.count_append, hs.cnt x])
                obtain ⟨m, hmm⟩ : ∃ m, m = l[k] := ⟨_, rfl⟩
                rw [← hmm] at c0 c1 c2 hnx
                obtain ⟨y0, y1, y2⟩ := cellsE_new wr (.int .i64 m.frm) (.int .i64 m.to) (.string m.style)
                have z0 := y0 34
                have z1 := y1 34
                have z2 := y2 34
                have hb2 : Below wr.heap.size wr (wr.alloc (.cells #[.int .i64 m.frm, .int .i64 m.to, .string m.style] 34)) := (Below.refl _ _).alloc (Nat.le_refl _) _
                have hlv := hide (fun k (c : OV w1.heap.size v k) => hv.ltO c)
                have HM := hide (hmv.trans (mv_up hb2))
                have hv2 := hv.up hb2
                cases he : m.style.toList == st.toList with
                | false =>
                  have hpu : pu fr to st m = endsOf m := by unfold pu; rw [if_pos he]
                  have P0 := pushMark_any hv2 hp m (by omega)
                  unfold mrV at P0
                  have P := hide P0
                  have HQ := hide hpu
                  clear P0 hv hp hs hmv hb2 hv2 y0 y1 y2 hmm HC hpu hlv
                  go_wp2_with fail
                  refine P.out.mono ?_
                  rintro e w3 ⟨rfl, v3, l3, hv3, hp3, hs3, hm3⟩
                  have C3 := hide (show CI fr to st l w1.heap.size W (k + 1) w3 from ⟨v3, l3, hv3, hp3, hnx.out l3 (by rw [HQ.out]; exact hs3), HM.out.trans hm3⟩)
                  clear hv3 hp3 hs3 hm3
                  go_wp2
                  exact ⟨⟨k + 1, by omega, by go_num, C3⟩, by simp [intOf]; omega⟩
                | true =>
                  have hpu : pu fr to st m = endsOf ⟨m.frm, min m.to fr, st⟩ ++ endsOf ⟨max m.frm to, m.to, st⟩ := by unfold pu; rw [if_neg (by rw [he]; simp)]
                  have P0 := pushMark_any hv2 hp ⟨m.frm, min m.to fr, st⟩ (by omega)
                  unfold mrV at P0
                  have P := hide P0
                  have HQ := hide hpu
                  clear P0 hv hp hs hmv hb2 hv2 y0 y1 y2 hmm HC hpu
                  go_wp2_with fail
                  refine P.out.mono ?_
                  rintro e w3 ⟨rfl, v3, l3, hv3, hp3, hs3, hm3⟩
                  have hbx : w3.heap[wr.heap.size]? = (wr.alloc (.cells #[.int .i64 m.frm, .int .i64 m.to, .string m.style] 34)).heap[wr.heap.size]? := hm3.same _ (by simp) (fun c => absurd (hlv.out _ c) (by omega))
                  have b0 := (World.cell?_of_block (a := ⟨wr.heap.size, 0, none⟩) hbx).trans z0
                  have b1 := (World.cell?_of_block (a := ⟨wr.heap.size, 1, none⟩) hbx).trans z1
                  have e2 : ∀ x : Mk, (endsOf x).length ≤ 2 := fun x => by unfold endsOf; split <;> simp
                  have P1 := pushMark_any hv3 hp3 ⟨max m.frm to, m.to, st⟩ (by rw [hs3.len, List.length_append]; have := e2 ⟨m.frm, min m.to fr, st⟩; omega)
                  unfold mrV at P1
                  have P2 := hide P1
                  have HS3 := hide hs3
                  have HM3 := hide (HM.out.trans hm3)
                  clear P1 hv3 hp3 hs3 hm3 hbx z0 z1 z2 P HM e2 c0 c1 c2
                  go_wp2_with fail
                  refine P2.out.mono ?_
                  rintro e w4 ⟨rfl, v4, l4, hv4, hp4, hs4, hm4⟩
                  have C3 := hide (show CI fr to st l w1.heap.size W (k + 1) w4 from ⟨v4, l4, hv4, hp4, hnx.out l4 (by
                    rw [HQ.out, ← List.append_assoc]
                    refine Same.trans ⟨?_, fun x => ?_⟩ hs4
                    · rw [List.length_append, List.length_append, HS3.out.len]
                    · rw [List.count_append, List.count_append, HS3.out.cnt x]), HM3.out.trans hm4⟩)
                  clear hv4 hp4 hs4 hm4
                  go_wp2
                  exact ⟨⟨k + 1, by omega, by go_num, C3⟩, by simp [intOf]; omega⟩
              · obtain rfl : k = l.length := by omega
                obtain ⟨v, l', hv, hp, hs, hmv⟩ := HC.out
                rw [List.take_length] at hs
                obtain ⟨hpw, hok⟩ := good_pw HG.out
                have hS := cut_srt fr to st h2 l hpw
                have hsS : Same l' (l.flatMap (sE fr to st)) := ⟨by rw [hs.len, (all_cnt fr to st dE l).2], fun x => by rw [hs.cnt x, (all_cnt fr to st x l).1]⟩
                have hF := cut_fold fr to st h2 l (fun m hm => (mkOk_lt (hok m hm)).1)
                have hlen : l'.length ≤ 160 := by rw [hs.len]; have := pu_len fr to st l; omega
                have hop : ∀ e ∈ l', (e.op = 1 ∨ e.op = -1) ∧ e.st.size ≤ 1048576 := fun e he => by
                  have h1 : e ∈ l.flatMap (sE fr to st) := by
                    have := hsS.cnt e
                    rw [← List.count_pos_iff] at he ⊢
                    omega
                  obtain ⟨m, hm, hme⟩ := List.mem_flatMap.1 h1
                  have hin := sE_in fr to st m e hme
                  refine ⟨hin.2.2.2, ?_⟩
                  rw [hin.1]
                  have := (mkOk_lt (hok m hm)).2.1
                  omega
                have hwr := HBr.out.size
                rcases nil_row hv with ⟨rfl, rfl⟩ | ⟨g', cap', rfl, hl⟩
                · have e0 : l.flatMap (sE fr to st) = [] := List.length_eq_zero_iff.1 (by rw [hsS.len]; rfl)
                  have e1 : cutL l fr to st = [] := by rw [← hF, e0]; rfl
                  have MN := hide (marks_nil hv)
                  have HE := hide e1
                  clear hv hp hs hmv hpw hok hS hsS hF hop HC e0 e1
                  go_wp2_with (go_at_call 28; refine MN.out.mono ?_; rintro e w3 ⟨hpo, hw3⟩; obtain ⟨v5, b5, he5⟩ := mk_form hpo; subst he5; have HPO := hide hpo; have HW3 := hide hw3; clear hpo hw3)
                  go_ret2
                  refine cut_yes HY.out ?_ hwr ?_
                  · rw [HW3.out]; exact HBr.out
                  · rw [HE.out]; exact HPO.out
                · have hgg : w.heap.size ≤ g' := by
                    rcases Nat.lt_or_ge g' w.heap.size with c | c
                    · rcases hmv.own g' (by omega) (.inr rfl) with d | d
                      · omega
                      · cases d
                    · exact c
                  have MN := hide (marks_any hl hp (by omega) hop _ hS hsS)
                  have HE := hide hF
                  clear hl hv hp hs hmv hpw hok hS hsS hF hop HC
                  go_wp2_with (go_at_call 28; refine MN.out.mono ?_; rintro e w3 ⟨hpo, hm3⟩; obtain ⟨v5, b5, he5⟩ := mk_form hpo; subst he5; have HPO := hide hpo; have HM3 := hide hm3; clear hpo hm3)
                  go_ret2
                  refine cut_yes HY.out (HBr.out.trans (HM3.out.below hwr (fun k hk c => by omega))) hwr ?_
                  rw [← HE.out]; exact HPO.out
        · have HN : Hid (∀ w', Below w.heap.size w w' → CutPost l size fr to st w (.returned (.tuple #[.slice none 0 0, .bool false])) w') := hide (fun w' hb => cut_no (by unfold cutOk; rw [decide_eq_false (show ¬ (0 ≤ fr ∧ fr ≤ to ∧ to ≤ size) by omega)]; simp) hb)
          clear hg
          go_enter Tryd.func15, Tryd.ntmps15
          go_wp2_with (first | (go_at_call 11; refine G.out.mono ?_; rintro e w1 ⟨rfl, hb1⟩) | (go_at_call 38; refine (I.out _).mono ?_; rintro e w' ⟨rfl, hw⟩; replace hw := hw.symm; subst hw))
          go_ret2
          exact HN.out _ hb1
      · have HN : Hid (∀ w', Below w.heap.size w w' → CutPost l size fr to st w (.returned (.tuple #[.slice none 0 0, .bool false])) w') := hide (fun w' hb => cut_no (by unfold cutOk; rw [decide_eq_false (show ¬ (0 ≤ fr ∧ fr ≤ to ∧ to ≤ size) by omega)]; simp) hb)
        clear hg
        go_enter Tryd.func15, Tryd.ntmps15
        go_wp2_with (first | (go_at_call 11; refine G.out.mono ?_; rintro e w1 ⟨rfl, hb1⟩) | (go_at_call 38; refine (I.out _).mono ?_; rintro e w' ⟨rfl, hw⟩; replace hw := hw.symm; subst hw))
        go_ret2
        exact HN.out _ hb1
    · have HN : Hid (∀ w', Below w.heap.size w w' → CutPost l size fr to st w (.returned (.tuple #[.slice none 0 0, .bool false])) w') := hide (fun w' hb => cut_no (by unfold cutOk; rw [decide_eq_false (show ¬ (0 ≤ fr ∧ fr ≤ to ∧ to ≤ size) by omega)]; simp) hb)
      clear hg
      go_enter Tryd.func15, Tryd.ntmps15
      go_wp2_with (first | (go_at_call 11; refine G.out.mono ?_; rintro e w1 ⟨rfl, hb1⟩) | (go_at_call 38; refine (I.out _).mono ?_; rintro e w' ⟨rfl, hw⟩; replace hw := hw.symm; subst hw))
      go_ret2
      exact HN.out _ hb1
end Go.Proofs.YtbooongkbninhaaDoor

namespace Go.Proofs.YtbooongkbninhaaDoor
open Go.RowKit
open Doc1

/-- What is told of marks that may be too many. -/
def RsB (ok : Bool) (L : List Mk) : Bool := ok && decide (L.length ≤ 40)
def RsT (ok : Bool) (L : List Mk) : List Mk := if ok = true ∧ L.length ≤ 40 then L else []
def RsPost (ok : Bool) (L : List Mk) (w : World) (e : Ending) (w' : World) : Prop := ∃ v, e = .returned (.tuple #[v, .bool (RsB ok L)]) ∧ MrOwn w' w.heap.size v (RsT ok L) ∧ Below w.heap.size w w'
theorem rs_no {ok : Bool} {L : List Mk} {w w' : World} (h : ok = false) (hb : Below w.heap.size w w') : RsPost ok L w (.returned (.tuple #[.slice none 0 0, .bool false])) w' := by
  refine ⟨.slice none 0 0, by unfold RsB; rw [h]; rfl, ?_, hb⟩
  unfold RsT; rw [if_neg (by rw [h]; simp)]; exact World.ownsRow_nil _ _ _ _
theorem rs_yes {ok : Bool} {L : List Mk} {w wm w' : World} {e : Ending} (h : ok = true) (hb : Below w.heap.size w w') (hw : w.heap.size ≤ wm.heap.size) (hp : MkPost wm L e w') : RsPost ok L w e w' := by
  unfold MkPost at hp
  by_cases c : 40 < L.length
  · rw [if_pos c] at hp
    refine ⟨.slice none 0 0, by rw [hp]; unfold RsB; rw [h, decide_eq_false (by omega)]; rfl, ?_, hb⟩
    unfold RsT; rw [if_neg (by omega)]; exact World.ownsRow_nil _ _ _ _
  · rw [if_neg c] at hp
    obtain ⟨v, he, ho⟩ := hp
    refine ⟨v, by rw [he]; unfold RsB; rw [h, decide_eq_true (by omega)]; rfl, ?_, hb⟩
    unfold RsT; rw [if_pos ⟨h, by omega⟩]; exact own_mono ho hw
/-- A heap of so many ends, from its making on. -/
def PI (E : List En) (h : Nat) (W wr : World) : Prop := ∃ v l', Hv h v l' wr ∧ Hp dE ahE l' ∧ Same E l' ∧ Moves (OV h (.slice none 0 0)) W (OV h v) wr
theorem PI.below {E : List En} {h : Nat} {W wr : World} (c : PI E h W wr) {m : Nat} (hm : m ≤ h) (hW : h < W.heap.size) : Below m W wr := by
  obtain ⟨v, l', _, _, _, mv⟩ := c
  exact mv.below (by omega) (fun k hk c => by rcases c with c | c; omega; cases c)
theorem PI.up {E : List En} {h : Nat} {W wr wr2 : World} (c : PI E h W wr) (hb : Below wr.heap.size wr wr2) : PI E h W wr2 := by
  obtain ⟨v, l', hv, hp, hs, mv⟩ := c
  exact ⟨v, l', hv.up hb, hp, hs, mv.trans (mv_up hb)⟩
theorem pi_new (w : World) (t : TypeId) : PI [] w.heap.size (w.alloc (.cells #[.slice none 0 0] t)) (w.alloc (.cells #[.slice none 0 0] t)) := by
  refine ⟨.slice none 0 0, [], ⟨?_, ?_, World.ownsRow_nil _ _ _ _, by intro c; cases c⟩, fun k _ hk => by simp at hk, Same.refl _, Moves.refl _ _⟩
  · unfold World.cell?; rw [heap_alloc_new]; rfl
  · exact World.frozen?_alloc_new _ _ _ _
theorem pi_push {E : List En} {h : Nat} {W wr : World} (P : PI E h W wr) (m : Mk) (hl : E.length ≤ 90000) :
    Calls Tryd.prog 27 #[.pointer (some ⟨h, 0, none⟩), .agg #[.int .i64 m.frm, .int .i64 m.to, .string m.style]] wr fun e w' => e = .returned (.tuple #[]) ∧ PI (E ++ endsOf m) h W w' := by
  obtain ⟨v, l', hv, hp, hs, mv⟩ := P
  have P0 := pushMark_any hv hp m (by rw [hs.len]; exact hl)
  unfold mrV at P0
  refine P0.mono ?_
  rintro e w' ⟨rfl, v3, l3, hv3, hp3, hs3, hm3⟩
  refine ⟨rfl, v3, l3, hv3, hp3, Same.trans ⟨?_, fun x => ?_⟩ hs3, mv.trans hm3⟩
  · rw [List.length_append, List.length_append, hs.len]
  · rw [List.count_append, List.count_append, hs.cnt x]
theorem pi_marks {E : List En} {h : Nat} {W wr : World} (P : PI E h W wr) {E' : List En} {L : List Mk} (hE : E'.Perm E) (hr : Rp L E') (hpw : L.Pairwise (fun a b => mkLt a b = true)) (hlen : E.length ≤ 90000) (hst : ∀ m ∈ L, m.style.size ≤ 1048576) {B : Nat} (hB : B ≤ h) (hW : h < W.heap.size) :
    Calls Tryd.prog 28 #[.pointer (some ⟨h, 0, none⟩)] wr fun e w' => MkPost wr L e w' ∧ Below B wr w' := by
  obtain ⟨v, l', hv, hp, hs, mv⟩ := P
  have hsS : Same l' E' := ⟨hE.length_eq.trans hs.len.symm, fun x => (hE.count_eq x).trans (hs.cnt x).symm⟩
  have hwr := mv.size
  rcases nil_row hv with ⟨rfl, rfl⟩ | ⟨g', cap', rfl, hl⟩
  · have e0 : E' = [] := List.length_eq_zero_iff.1 (by rw [hsS.len]; rfl)
    have e1 : L = [] := by rw [← hr.mkF, e0]; rfl
    subst e1
    exact (marks_nil hv).mono fun e w' ⟨a, b⟩ => ⟨a, by rw [b]; exact Below.refl _ _⟩
  · have hgg : B ≤ g' := by
      rcases Nat.lt_or_ge g' B with c | c
      · rcases mv.own g' (by omega) (.inr rfl) with d | d
        · omega
        · cases d
      · exact c
    have hop : ∀ e ∈ l', (e.op = 1 ∨ e.op = -1) ∧ e.st.size ≤ 1048576 := fun e he => by
      have h1 : e ∈ E' := by
        have := hsS.cnt e
        rw [← List.count_pos_iff] at he ⊢
        omega
      obtain ⟨m, hm, hi⟩ := hr.inn e h1
      refine ⟨hi.2.2.2, ?_⟩
      rw [hi.1]; exact hst m hm
    refine (marks_any hl hp (by rw [hs.len]; exact hlen) hop E' (hr.srt hpw) hsS).mono fun e w' ⟨a, b⟩ => ⟨?_, b.below (by omega) (fun k hk c => by omega)⟩
    rw [← hr.mkF]; exact a
theorem ends_len (l : List Mk) : (l.flatMap endsOf).length ≤ 2 * l.length := by
  induction l with
  | nil => simp
  | cons m l ih =>
    have e : (endsOf m).length ≤ 2 := by unfold endsOf; split <;> simp
    rw [List.flatMap_cons, List.length_append, List.length_cons]; omega

set_option maxRecDepth 100000 in
set_option maxHeartbeats 8000000 in
theorem addI {w : World} {g cap : Nat} {l : List Mk} (size : Int) (m : Mk) (hst : m.style.size ≤ 1048576) (h : MrIn w g cap l)
    (hG : ∀ w1, MrIn w1 g cap l → Calls Tryd.prog 11 #[.slice (some ⟨g, 0, none⟩) l.length cap, .int .i64 size] w1 fun e w' => e = .returned (.bool (goodM l size)) ∧ Below w1.heap.size w1 w') :
    Calls Tryd.prog 13 #[.slice (some ⟨g, 0, none⟩) l.length cap, .int .i64 size, .agg #[.int .i64 m.frm, .int .i64 m.to, .string m.style]] w (RsPost (goodM l size && mkOk size m) (addL l m) w) := by
  have hcp := h.cap
  have hln := h.len
  obtain ⟨y0, y1, y2⟩ := cellsE_new w (.int .i64 m.frm) (.int .i64 m.to) (.string m.style)
  have z0 := y0 34
  have z1 := y1 34
  have z2 := y2 34
  have hb0 : Below w.heap.size w (w.alloc (.cells #[.int .i64 m.frm, .int .i64 m.to, .string m.style] 34)) := (Below.refl _ _).alloc (Nat.le_refl _) _
  have hs0 : (w.alloc (.cells #[.int .i64 m.frm, .int .i64 m.to, .string m.style] 34)).heap.size = w.heap.size + 1 := by simp
  have G := hide (hG _ (h.later hb0))
  have I := fun w => isGood_any m size w hst
  unfold mrV at I
  replace I := hide I
  have H := hide h
  have HB0 := hide hb0
  clear h hG y0 y1 y2 hb0
  cases hg : goodM l size with
  | false =>
    rw [hg] at G
    have HN : Hid (∀ w', Below w.heap.size w w' → RsPost (false && mkOk size m) (addL l m) w (.returned (.tuple #[.slice none 0 0, .bool false])) w') := hide (fun w' hb => rs_no rfl hb)
    clear hg
    go_enter Tryd.func13, Tryd.ntmps13
    go_wp2_with (go_at_call 11; refine G.out.mono ?_; rintro e w1 ⟨rfl, hb1⟩)
    go_ret2
    exact HN.out _ (HB0.out.trans (hb1.mono (by omega)))
  | true =>
    rw [hg] at G
    cases hm : mkOk size m with
    | false =>
      rw [hm] at I
      have HN : Hid (∀ w', Below w.heap.size w w' → RsPost (true && false) (addL l m) w (.returned (.tuple #[.slice none 0 0, .bool false])) w') := hide (fun w' hb => rs_no rfl hb)
      clear hg hm
      go_enter Tryd.func13, Tryd.ntmps13
      go_wp2_with (first | (go_at_call 11; refine G.out.mono ?_; rintro e w1 ⟨rfl, hb1⟩; have x1 := hb1.block w.heap.size (by omega); have b0 := (World.cell?_of_block (a := ⟨w.heap.size, 0, none⟩) x1).trans z0; have b1 := (World.cell?_of_block (a := ⟨w.heap.size, 1, none⟩) x1).trans z1; have b2 := (World.cell?_of_block (a := ⟨w.heap.size, 2, none⟩) x1).trans z2; clear x1 z0 z1 z2) | (go_at_call 33; refine (I.out _).mono ?_; rintro e w2 ⟨rfl, hb2⟩))
      go_ret2
      have hs1 := hb1.size
      exact HN.out _ (HB0.out.trans ((hb1.trans (hb2.mono hs1)).mono (by omega)))
    | true =>
      rw [hm] at I
      have HG := hide hg
      have HM := hide hm
      obtain ⟨hz, h40⟩ := goodM_nums hg
      clear hg hm
      go_enter Tryd.func13, Tryd.ntmps13
      go_wp2_with (first | (go_at_call 11; refine G.out.mono ?_; rintro e w1 ⟨rfl, hb1⟩; have x1 := hb1.block w.heap.size (by omega); have b0 := (World.cell?_of_block (a := ⟨w.heap.size, 0, none⟩) x1).trans z0; have b1 := (World.cell?_of_block (a := ⟨w.heap.size, 1, none⟩) x1).trans z1; have b2 := (World.cell?_of_block (a := ⟨w.heap.size, 2, none⟩) x1).trans z2; clear x1 z0 z1 z2; have hs1 := hb1.size) | (go_at_call 33; refine (I.out _).mono ?_; rintro e w2 ⟨rfl, hb2⟩; have hs2 := hb2.size; have x2 := (Below.heap_alloc w2 (.cells #[.slice none 0 0] 59) w.heap.size (by omega)).trans (hb2.block w.heap.size (by omega)); have d0 := (World.cell?_of_block (a := ⟨w.heap.size, 0, none⟩) x2).trans b0; have d1 := (World.cell?_of_block (a := ⟨w.heap.size, 1, none⟩) x2).trans b1; have d2 := (World.cell?_of_block (a := ⟨w.heap.size, 2, none⟩) x2).trans b2; clear x2 b0 b1 b2; have P := hide (pi_push (pi_new w2 59) m (by simp))) | (go_at_call 27; refine P.out.mono ?_; rintro e w3 ⟨rfl, hp3⟩; have HP := hide hp3; clear hp3 d0 d1 d2))
      have hbW : Below w.heap.size w (w2.alloc (.cells #[.slice none 0 0] 59)) := (HB0.out.trans ((hb1.trans (hb2.mono hs1)).mono (by omega))).alloc (by omega) _
      obtain ⟨W, hW⟩ : ∃ W, W = w2.alloc (.cells #[.slice none 0 0] 59) := ⟨_, rfl⟩
      have hWs : w2.heap.size < W.heap.size := by rw [hW]; simp
      rw [← hW] at HP hbW
      rw [List.nil_append] at HP
      have HB := hide hbW
      have hw2 : w.heap.size ≤ w2.heap.size := by omega
      clear hW hb1 hb2 hbW P hs1 hs2 hs0
      go_loopw [25] (fun i wr => ∃ k : Nat, k ≤ l.length ∧ i = .int .i64 k ∧ Hid (PI (endsOf m ++ (l.take k).flatMap endsOf) w2.heap.size W wr)) (fun i _ => l.length - (intOf i).toNat)
      case atStart => exact ⟨0, by omega, rfl, by simpa using HP⟩
      case round =>
        obtain ⟨k, hk, rfl, HC⟩ := hrel
        have HBr := hide (HB.out.trans (HC.out.below hw2 hWs))
        have e2 : (endsOf m).length ≤ 2 := by unfold endsOf; split <;> simp
        by_cases hlt : k < l.length
        · obtain ⟨c0, c1, c2⟩ := (H.out.later HBr.out).at'.mrat k hlt
          have hE := ends_len (l.take k)
          rw [List.length_take] at hE
          have hnx : Hid ((endsOf m ++ (l.take k).flatMap endsOf) ++ endsOf l[k] = endsOf m ++ (l.take (k + 1)).flatMap endsOf) := hide (by
            rw [List.take_succ_eq_append_getElem hlt, List.flatMap_append, List.flatMap_singleton, List.append_assoc])
          obtain ⟨x, hxx⟩ : ∃ x, x = l[k] := ⟨_, rfl⟩
          rw [← hxx] at c0 c1 c2 hnx
          obtain ⟨y0, y1, y2⟩ := cellsE_new wr (.int .i64 x.frm) (.int .i64 x.to) (.string x.style)
          have z0 := y0 34
          have z1 := y1 34
          have z2 := y2 34
          have hb2 : Below wr.heap.size wr (wr.alloc (.cells #[.int .i64 x.frm, .int .i64 x.to, .string x.style] 34)) := (Below.refl _ _).alloc (Nat.le_refl _) _
          have P := hide (pi_push (HC.out.up hb2) x (by rw [List.length_append]; omega))
          rw [hnx.out] at P
          clear hb2 y0 y1 y2 hxx HC hnx e2 hE
          go_wp2_with fail
          refine P.out.mono ?_
          rintro e w4 ⟨rfl, hp4⟩
          have HP4 := hide hp4
          clear hp4
          go_wp2
          exact ⟨⟨k + 1, by omega, by go_num, HP4⟩, by simp [intOf]; omega⟩
        · obtain rfl : k = l.length := by omega
          rw [List.take_length] at HC
          obtain ⟨hpw, hok⟩ := good_pw HG.out
          have hlts : ∀ x ∈ l, x.frm < x.to := fun x hx => (mkOk_lt (hok x hx)).1
          obtain ⟨E', hr, hE⟩ := rp_add (rp_good hlts) (grp_ends (mkOk_lt HM.out).1)
          have hlen := ends_len l
          have MN := hide (pi_marks HC.out hE hr (addL_pw l m hpw hlts) (by rw [List.length_append]; omega) (addL_styles (fun s => s.size ≤ 1048576) l m hst (fun x hx => by have := (mkOk_lt (hok x hx)).2.1; omega)) hw2 hWs)
          have hwr := HBr.out.size
          clear hpw hok hlts hr hE HC hlen e2
          go_wp2_with (go_at_call 28; refine MN.out.mono ?_; rintro e w5 ⟨hpo, hm5⟩; obtain ⟨v5, b5, he5⟩ := mk_form hpo; subst he5; have HPO := hide hpo; have HM5 := hide hm5; clear hpo hm5)
          go_ret2
          exact rs_yes (by rfl) (HBr.out.trans HM5.out) hwr HPO.out
end Go.Proofs.YtbooongkbninhaaDoor
