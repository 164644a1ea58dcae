/- The heap of ends in memory, and its order and its swap. The heap's order and its swap. The heap's order. What rises in the heap of ends. -/
import Derived.Test.YtknodkdlphngmawDoorHeapQ
import Derived.Test.YtknodkdlphngmawDoorCells
import Derived.Test.YtknodkdlphngmawDoorOwnG
import Derived.BigRegion
import Derived.Test.YtknodkdlphngmawDoorRange
import Derived.Deep.RegionHeld3
namespace Go.Proofs.YtknodkdlphngmawDoor
open Go.RowKit
open Doc1

def enC (x : En) : List Value := [.string x.st, .int .i64 x.at', .int .i64 x.op]
def enV (x : En) : Value := .agg #[.string x.st, .int .i64 x.at', .int .i64 x.op]
def encE (l : List En) : List Value := l.flatMap enC
theorem encE_len (l : List En) : (encE l).length = l.length * 3 := by
  induction l with
  | nil => rfl
  | cons x l ih => rw [encE, List.flatMap_cons, List.length_append]; change _ + (encE l).length = _; rw [ih]; simp [enC]; omega
theorem encE_app (a b : List En) : encE (a ++ b) = encE a ++ encE b := by simp [encE]
theorem encE_at (l : List En) : ∀ i (h : i < l.length), (encE l)[i * 3]? = some (.string l[i].st) ∧ (encE l)[i * 3 + 1]? = some (.int .i64 l[i].at') ∧ (encE l)[i * 3 + 2]? = some (.int .i64 l[i].op) := by
  induction l with
  | nil => intro i h; simp at h
  | cons x l ih =>
    intro i h
    have e : encE (x :: l) = enC x ++ encE l := by simp [encE]
    cases i with
    | zero => rw [e]; simp [enC]
    | succ i =>
      have := ih i (by simpa using h)
      rw [e, show (i + 1) * 3 = 3 + i * 3 by omega, show 3 + i * 3 + 1 = 3 + (i * 3 + 1) by omega, show 3 + i * 3 + 2 = 3 + (i * 3 + 2) by omega]
      rw [List.getElem?_append_right (by simp [enC]), List.getElem?_append_right (by simp [enC]), List.getElem?_append_right (by simp [enC])]
      simpa [enC] using this
theorem encE_set (l : List En) (x : En) : ∀ i, i < l.length → (((encE l).set (i * 3) (.string x.st)).set (i * 3 + 1) (.int .i64 x.at')).set (i * 3 + 2) (.int .i64 x.op) = encE (l.set i x) := by
  induction l with
  | nil => intro i h; simp at h
  | cons y l ih =>
    intro i h
    have e : ∀ z (m : List En), encE (z :: m) = .string z.st :: .int .i64 z.at' :: .int .i64 z.op :: encE m := fun z m => by simp [encE, enC]
    cases i with
    | zero => simp [e]
    | succ i =>
      have := ih i (by simpa using h)
      rw [show (i + 1) * 3 = i * 3 + 2 + 1 by omega]
      simp only [e, List.set_cons_succ]
      rw [← this]

/-- The heap: a box that names a row of its own. -/
structure Hb (h g n cap : Nat) (cs : List Value) (w : World) : Prop where
  c : w.cell? ⟨h, 0, none⟩ = some (.slice (some ⟨g, 0, none⟩) n cap)
  fz : w.frozen? ⟨h, 0, none⟩ = false
  ne : h ≠ g
  row : w.heap[g]? = some (.cells cs.toArray 101 (0, 0))
  len : cs.length = cap * 3
  cap : n ≤ cap ∧ cap ≤ maxLen
/-- It holds these ends. -/
structure Hl (h g cap : Nat) (l : List En) (w : World) : Prop where
  ex : ∃ cs, Hb h g l.length cap cs w ∧ cs.take (l.length * 3) = encE l
theorem Hb.hlt {h g n cap : Nat} {cs : List Value} {w : World} (H : Hb h g n cap cs w) : h < w.heap.size := World.block_lt_of_cell? w _ H.c
theorem Hb.glt {h g n cap : Nat} {cs : List Value} {w : World} (H : Hb h g n cap cs w) : g < w.heap.size := (Array.getElem?_eq_some_iff.1 H.row).1
theorem Hb.kept {h g n cap : Nat} {cs : List Value} {w w2 : World} (H : Hb h g n cap cs w) (h1 : w2.heap[h]? = w.heap[h]?) (h2 : w2.heap[g]? = w.heap[g]?) : Hb h g n cap cs w2 :=
  ⟨(World.cell?_of_block h1).trans H.c, (World.frozen?_of_block h1).trans H.fz, H.ne, h2.trans H.row, H.len, H.cap⟩
theorem Hb.up {h g n cap : Nat} {cs : List Value} {w w2 : World} (H : Hb h g n cap cs w) (hb : Below w.heap.size w w2) : Hb h g n cap cs w2 := H.kept (hb.block _ H.hlt) (hb.block _ H.glt)
theorem Hb.at {h g n cap : Nat} {cs : List Value} {w : World} (H : Hb h g n cap cs w) (j : Nat) (u : Value) (hu : cs[j]? = some u) : w.cell? ⟨g, j, none⟩ = some u := by
  unfold World.cell?
  rw [show w.heap[g]? = _ from H.row]
  simpa using hu
theorem Hb.gz {h g n cap : Nat} {cs : List Value} {w : World} (H : Hb h g n cap cs w) (j : Nat) : w.frozen? ⟨g, j, none⟩ = false := by
  unfold World.frozen?
  rw [show w.heap[g]? = _ from H.row]
  simp
theorem Hb.set {h g n cap : Nat} {cs : List Value} {w : World} (H : Hb h g n cap cs w) (j : Nat) (v : Value) : Hb h g n cap (cs.set j v) (w.setCell ⟨g, j, none⟩ v) := by
  have hl := H.glt
  refine ⟨?_, ?_, H.ne, ?_, by simpa using H.len, H.cap⟩
  · rw [World.cell?_setCell_other _ _ _ _ (fun e => H.ne (by cases e; rfl))]; exact H.c
  · rw [World.frozen?_setCell]; exact H.fz
  · show (w.heap.modify g _)[g]? = _
    rw [Array.getElem?_eq_getElem (by rw [Array.size_modify]; exact hl), Array.getElem_modify_self]
    have e : w.heap[g] = .cells cs.toArray 101 (0, 0) := by have := H.row; rw [Array.getElem?_eq_getElem hl] at this; exact Option.some.inj this
    rw [e]
    simp
theorem Hl.up {h g cap : Nat} {l : List En} {w w2 : World} (H : Hl h g cap l w) (hb : Below w.heap.size w w2) : Hl h g cap l w2 := by
  obtain ⟨cs, h1, h2⟩ := H.ex
  exact ⟨cs, h1.up hb, h2⟩
theorem Hl.cells {h g cap : Nat} {l : List En} {w : World} (H : Hl h g cap l w) {i : Nat} (hi : i < l.length) : w.cell? ⟨g, i * 3, none⟩ = some (.string l[i].st) ∧ w.cell? ⟨g, i * 3 + 1, none⟩ = some (.int .i64 l[i].at') ∧ w.cell? ⟨g, i * 3 + 2, none⟩ = some (.int .i64 l[i].op) := by
  obtain ⟨cs, h1, h2⟩ := H.ex
  have hl := h1.len
  have hc := h1.cap
  have e := encE_at l i hi
  rw [← h2] at e
  have key : ∀ m u, m < 3 → (cs.take (l.length * 3))[i * 3 + m]? = some u → cs[i * 3 + m]? = some u := fun m u hm hu => by
    rw [List.getElem?_take_of_lt (by omega)] at hu; exact hu
  exact ⟨h1.at _ _ (key 0 _ (by omega) e.1), h1.at _ _ (key 1 _ (by omega) e.2.1), h1.at _ _ (key 2 _ (by omega) e.2.2)⟩
theorem Hl.put {h g cap : Nat} {l : List En} {w : World} (H : Hl h g cap l w) {i : Nat} (hi : i < l.length) (x : En) :
    Hl h g cap (l.set i x) (((w.setCell ⟨g, i * 3, none⟩ (.string x.st)).setCell ⟨g, i * 3 + 1, none⟩ (.int .i64 x.at')).setCell ⟨g, i * 3 + 2, none⟩ (.int .i64 x.op)) := by
  obtain ⟨cs, h1, h2⟩ := H.ex
  refine ⟨_, by simpa using ((h1.set (i * 3) (.string x.st)).set (i * 3 + 1) (.int .i64 x.at')).set (i * 3 + 2) (.int .i64 x.op), ?_⟩
  rw [List.length_set, ← encE_set l x i hi, ← h2, List.take_set, List.take_set, List.take_set]
end Go.Proofs.YtknodkdlphngmawDoor

namespace Go.Proofs.YtknodkdlphngmawDoor
open Go.RowKit
open Doc1

set_option maxRecDepth 100000 in
set_option maxHeartbeats 4000000 in
theorem swap_any {h g cap : Nat} {l : List En} {w : World} (H : Hl h g cap l w) {i j : Nat} (hi : i < l.length) (hj : j < l.length) :
    Calls Tryd.prog 67 #[.pointer (some ⟨h, 0, none⟩), .int .i64 (i : Int), .int .i64 (j : Int)] w fun e w' => e = .returned (.tuple #[]) ∧ Hl h g cap ((l.set i l[j]).set j l[i]) w' ∧ Moves (fun k => k = g) w (fun k => k = g) w' := by
  obtain ⟨c0, c1, c2⟩ := H.cells hi
  obtain ⟨d0, d1, d2⟩ := H.cells hj
  have hh : w.cell? ⟨h, 0, none⟩ = some (.slice (some ⟨g, 0, none⟩) l.length cap) := by obtain ⟨cs, h1, _⟩ := H.ex; exact h1.c
  have hcap : l.length ≤ cap ∧ cap ≤ maxLen := by obtain ⟨cs, h1, _⟩ := H.ex; exact h1.cap
  have fz : ∀ k, w.frozen? ⟨g, k, none⟩ = false := by obtain ⟨cs, h1, _⟩ := H.ex; exact h1.gz
  have hgl : g < w.heap.size := by obtain ⟨cs, h1, _⟩ := H.ex; exact h1.glt
  have hhg : h ≠ g := by obtain ⟨cs, h1, _⟩ := H.ex; exact h1.ne
  have i0 : (0 : Int) ≤ (i : Int) := by omega
  have i1 : (i : Int) < (l.length : Int) := by omega
  have j0 : (0 : Int) ≤ (j : Int) := by omega
  have j1 : (j : Int) < (l.length : Int) := by omega
  have hp := H.put hi l[j]
  obtain ⟨e0, e1, e2⟩ := hp.cells (i := j) (by simpa using hj)
  have HQ := hide (hp.put (i := j) (by simpa using hj) l[i])
  have HM := hide ((((((((Moves.refl (fun k => k = g) w).setCell (p := ⟨g, i * 3, none⟩) (fun _ => rfl) (.string l[j].st)).setCell (p := ⟨g, i * 3 + 1, none⟩) (fun _ => rfl) (.int .i64 l[j].at')).setCell (p := ⟨g, i * 3 + 2, none⟩) (fun _ => rfl) (.int .i64 l[j].op)).setCell (p := ⟨g, j * 3, none⟩) (fun _ => rfl) (.string l[i].st)).setCell (p := ⟨g, j * 3 + 1, none⟩) (fun _ => rfl) (.int .i64 l[i].at')).setCell (p := ⟨g, j * 3 + 2, none⟩) (fun _ => rfl) (.int .i64 l[i].op)).drew)
  clear hp
  have HH := hide H
  clear H
  go_enter Tryd.func67, Tryd.ntmps67
  go_wp2_with fail
  go_region
  all_goals
    go_wp2
    go_end0
    refine ⟨rfl, ?_, ?_⟩
    · exact HQ.out.up (Below.refl _ _).drew
    · exact HM.out
end Go.Proofs.YtknodkdlphngmawDoor

namespace Go.Proofs.YtknodkdlphngmawDoor
open Go.RowKit
open Doc1

set_option maxRecDepth 100000 in
set_option maxHeartbeats 4000000 in
theorem ahead_any {h g cap : Nat} {l : List En} {w : World} (H : Hl h g cap l w) {i j : Nat} (hi : i < l.length) (hj : j < l.length) :
    Calls Tryd.prog 66 #[.pointer (some ⟨h, 0, none⟩), .int .i64 (i : Int), .int .i64 (j : Int)] w fun e w' => e = .returned (.bool (ahE l[i] l[j])) ∧ Below w.heap.size w w' := by
  obtain ⟨c0, c1, c2⟩ := H.cells hi
  obtain ⟨d0, d1, d2⟩ := H.cells hj
  have hh : w.cell? ⟨h, 0, none⟩ = some (.slice (some ⟨g, 0, none⟩) l.length cap) := by obtain ⟨cs, h1, _⟩ := H.ex; exact h1.c
  have hcap : l.length ≤ cap ∧ cap ≤ maxLen := by obtain ⟨cs, h1, _⟩ := H.ex; exact h1.cap
  have hgl : g < w.heap.size := by obtain ⟨cs, h1, _⟩ := H.ex; exact h1.glt
  have hhl : h < w.heap.size := by obtain ⟨cs, h1, _⟩ := H.ex; exact h1.hlt
  have i0 : (0 : Int) ≤ (i : Int) := by omega
  have i1 : (i : Int) < (l.length : Int) := by omega
  have j0 : (0 : Int) ≤ (j : Int) := by omega
  have j1 : (j : Int) < (l.length : Int) := by omega
  obtain ⟨x, hx⟩ : ∃ x, x = l[i] := ⟨_, rfl⟩
  obtain ⟨y, hy⟩ : ∃ y, y = l[j] := ⟨_, rfl⟩
  rw [← hx] at c0 c1 c2 ⊢
  rw [← hy] at d0 d1 d2 ⊢
  clear H hx hy
  unfold ahE
  cases he : x.st.toList == y.st.toList with
  | false =>
    rw [if_neg (by simp)]
    go_enter Tryd.func66, Tryd.ntmps66
    go_wp2_with fail
    go_region_held3 (fun w' => w'.cell? ⟨h, 0, none⟩ = some (.slice (some ⟨g, 0, none⟩) l.length cap) ∧ w'.cell? ⟨g, i * 3, none⟩ = some (.string x.st) ∧ w'.cell? ⟨g, i * 3 + 1, none⟩ = some (.int .i64 x.at') ∧ w'.cell? ⟨g, i * 3 + 2, none⟩ = some (.int .i64 x.op) ∧ w'.cell? ⟨g, j * 3, none⟩ = some (.string y.st) ∧ w'.cell? ⟨g, j * 3 + 1, none⟩ = some (.int .i64 y.at') ∧ w'.cell? ⟨g, j * 3 + 2, none⟩ = some (.int .i64 y.op)) (go_keep) (fail)
    all_goals
      go_wp2
      go_ret
      refine ⟨rfl, ?_⟩
      exact (((Below.refl _ _).alloc (Nat.le_refl _) _).alloc (by simp) _).drew
  | true =>
    rw [if_pos rfl]
    by_cases ha : x.at' = y.at'
    · rw [if_pos ha]
      have ha' : (x.at' == y.at') = true := by simpa using ha
      clear ha
      go_enter Tryd.func66, Tryd.ntmps66
      go_wp2_with fail
      go_region_held3 (fun w' => w'.cell? ⟨h, 0, none⟩ = some (.slice (some ⟨g, 0, none⟩) l.length cap) ∧ w'.cell? ⟨g, i * 3, none⟩ = some (.string x.st) ∧ w'.cell? ⟨g, i * 3 + 1, none⟩ = some (.int .i64 x.at') ∧ w'.cell? ⟨g, i * 3 + 2, none⟩ = some (.int .i64 x.op) ∧ w'.cell? ⟨g, j * 3, none⟩ = some (.string y.st) ∧ w'.cell? ⟨g, j * 3 + 1, none⟩ = some (.int .i64 y.at') ∧ w'.cell? ⟨g, j * 3 + 2, none⟩ = some (.int .i64 y.op)) (go_keep) (fail)
      all_goals
        go_wp2
        go_ret
        refine ⟨rfl, ?_⟩
        exact (((Below.refl _ _).alloc (Nat.le_refl _) _).alloc (by simp) _).drew
    · rw [if_neg ha]
      have ha' : (x.at' == y.at') = false := by simpa using ha
      clear ha
      go_enter Tryd.func66, Tryd.ntmps66
      go_wp2_with fail
      go_region_held3 (fun w' => w'.cell? ⟨h, 0, none⟩ = some (.slice (some ⟨g, 0, none⟩) l.length cap) ∧ w'.cell? ⟨g, i * 3, none⟩ = some (.string x.st) ∧ w'.cell? ⟨g, i * 3 + 1, none⟩ = some (.int .i64 x.at') ∧ w'.cell? ⟨g, i * 3 + 2, none⟩ = some (.int .i64 x.op) ∧ w'.cell? ⟨g, j * 3, none⟩ = some (.string y.st) ∧ w'.cell? ⟨g, j * 3 + 1, none⟩ = some (.int .i64 y.at') ∧ w'.cell? ⟨g, j * 3 + 2, none⟩ = some (.int .i64 y.op)) (go_keep) (fail)
      all_goals
        go_wp2
        go_ret
        refine ⟨rfl, ?_⟩
        exact (((Below.refl _ _).alloc (Nat.le_refl _) _).alloc (by simp) _).drew
end Go.Proofs.YtknodkdlphngmawDoor

namespace Go.Proofs.YtknodkdlphngmawDoor
open Go.RowKit
open Doc1

def dE : En := ⟨ByteArray.empty, 0, 0⟩
/-- From one row of ends to another: as many, and the same. -/
structure Same (l l' : List En) : Prop where
  len : l'.length = l.length
  cnt : ∀ x, l'.count x = l.count x
theorem Same.refl (l : List En) : Same l l := ⟨rfl, fun _ => rfl⟩
theorem Same.trans {a b c : List En} (h : Same a b) (k : Same b c) : Same a c := ⟨k.len.trans h.len, fun x => (k.cnt x).trans (h.cnt x)⟩
theorem same_sw {l : List En} {i j : Nat} (hi : i < l.length) (hj : j < l.length) : Same l (sw dE l i j) := ⟨sw_len _ _ _, fun x => sw_count x hi hj⟩
theorem sw_eq {l : List En} {i j : Nat} (hi : i < l.length) (hj : j < l.length) : (l.set i l[j]).set j l[i] = sw dE l i j := by
  unfold sw; rw [gt_at hi, gt_at hj]
theorem mv_up {O : Nat → Prop} {W X : World} (h : Below W.heap.size W X) : Moves O W O X := moves_below h (fun k a b => absurd b (by omega)) (fun _ _ h => h)
def aheadV (h : Nat) : Value := .func (.func 66) #[.pointer (some ⟨h, 0, none⟩)] #[]
def swapV (h : Nat) : Value := .func (.func 67) #[.pointer (some ⟨h, 0, none⟩)] #[]

set_option maxRecDepth 100000 in
set_option maxHeartbeats 4000000 in
theorem rise_any {h g cap : Nat} {l : List En} {w : World} (H : Hl h g cap l w) {i : Nat} (hi : i < l.length) (hx : HpX dE ahE l i) (hl : l.length ≤ 1000000) :
    Calls Tryd.prog 65 #[.int .i64 (i : Int), aheadV h, swapV h] w fun e w' => e = .returned (.tuple #[]) ∧ ∃ l', Same l l' ∧ Hp dE ahE l' ∧ Hl h g cap l' w' ∧ Moves (fun k => k = g) w (fun k => k = g) w' := by
  have H0 : Hid (∃ l', Same l l' ∧ HpX dE ahE l' i ∧ Hl h g cap l' w ∧ Moves (fun k => k = g) w (fun k => k = g) w) := hide ⟨l, Same.refl l, hx, H, Moves.refl _ _⟩
  unfold aheadV swapV
  clear H hx
  go_enter Tryd.func65, Tryd.ntmps65
  go_wp2_with fail
  go_loopw [0] (fun a wr => ∃ k : Nat, a = .int .i64 (k : Int) ∧ k < l.length ∧ Hid (∃ l', Same l l' ∧ HpX dE ahE l' k ∧ Hl h g cap l' wr ∧ Moves (fun k => k = g) w (fun k => k = g) wr)) (fun a _ => (intOf a).toNat)
  case atStart => exact ⟨i, rfl, hi, H0⟩
  case round =>
    obtain ⟨k, rfl, hk, HK⟩ := hrel
    by_cases h0 : k = 0
    · subst h0
      go_wp2
      go_end0
      obtain ⟨l', s, x, hl', m⟩ := HK.out
      exact ⟨rfl, l', s, hpx_done x (.inl rfl), hl', m⟩
    · obtain ⟨l', s, x, hl', m⟩ := HK.out
      have hsl := s.len
      have kp : (k - 1) / 2 < l'.length := by omega
      have kl : k < l'.length := by omega
      obtain ⟨p, hp⟩ : ∃ p, p = (k - 1) / 2 := ⟨_, rfl⟩
      rw [← hp] at kp
      have hq : Int.tdiv ((k : Int) - 1) 2 = (p : Int) := by rw [hp, Int.tdiv_eq_ediv_of_nonneg (by omega)]; omega
      have hpk : p < k := by omega
      have HA := hide (ahead_any hl' kl kp)
      have HS := hide (fun w2 (hb : Below wr.heap.size wr w2) => swap_any (hl'.up hb) kl kp)
      cases ha : ahE l'[k] l'[p] with
      | false =>
        rw [ha] at HA
        have HF : Hid (Hp dE ahE l') := hide (hpx_done x (.inr (by rw [← hp, gt_at kl, gt_at kp]; exact ha)))
        have HL := hide hl'
        have HM := hide m
        have Hs := hide s
        clear ha x hl' m s hp HK hsl
        go_wp2_with (go_at_call 66; refine HA.out.mono ?_; rintro e w2 ⟨rfl, hb2⟩)
        go_end0
        exact ⟨rfl, l', Hs.out, HF.out, HL.out.up hb2, HM.out.trans (mv_up hb2)⟩
      | true =>
        rw [ha] at HA
        have HX : Hid (HpX dE ahE (sw dE l' k p) p) := hide (by rw [hp]; exact hpx_swap ahE_ord x kl (by omega) (by rw [← hp, gt_at kl, gt_at kp]; exact ha))
        have HW := hide (sw_eq kl kp)
        have HL := hide (same_sw kl kp)
        have HM := hide m
        have Hs := hide s
        clear ha x hl' m s hp HK hsl
        go_wp2_with (first | (go_at_call 66; refine HA.out.mono ?_; rintro e w2 ⟨rfl, hb2⟩) | (go_at_call 67; refine (HS.out _ hb2).mono ?_; rintro e w3 ⟨rfl, hl3, hm3⟩))
        go_roundw
        case rel =>
          rw [HW.out] at hl3
          exact ⟨p, by go_num, by omega, hide ⟨_, Hs.out.trans HL.out, HX.out, hl3, (HM.out.trans (mv_up hb2)).trans hm3⟩⟩
        case measure => simp [intOf]; omega
end Go.Proofs.YtknodkdlphngmawDoor
