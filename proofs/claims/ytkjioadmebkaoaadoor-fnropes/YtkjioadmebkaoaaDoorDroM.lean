/- The drawing of a rope: what is kept while it is drawn. The drawing of a rope. -/
import Derived.Test.YtkjioadmebkaoaaDoorEdrS
import Derived.Test.YtkjioadmebkaoaaDoorRptS
import Derived.Test.YtkjioadmebkaoaaDoorDrwA
import Derived.Test.YtkjioadmebkaoaaDoorOpOnM
import Derived.Deep.RegionWith
set_option linter.unusedVariables false
namespace Go.Proofs.YtkjioadmebkaoaaDoor
open Go.RowKit
open Doc1

/-- The boughs of a tree that is not too great. -/
def RG (l : List Bg) : Prop := ∃ o : Option Lm, l = bo o ∧ nbO o ≤ 200 ∧ szO o ≤ 300
theorem rg_nil : RG [] := ⟨none, rfl, by simp [nbO], by simp [szO]⟩
theorem rg_ok (o : Option Lm) : RG (okB o) := by
  unfold okB
  by_cases h : fit o = true
  · rw [if_pos h]
    unfold fit at h
    simp only [Bool.and_eq_true, decide_eq_true_eq] at h
    exact ⟨o, rfl, h.1, h.2⟩
  · rw [if_neg h]; exact rg_nil
theorem rg_ro (s : ByteArray) : RG (roL s) := by unfold roL; split; exact rg_ok _; exact rg_nil
theorem rg_jn (l m : List Bg) : RG (jnL l m) := by unfold jnL; split; exact rg_ok _; exact rg_nil
theorem rg_ed (l : List Bg) (op : List Pt) : RG (edL l op) := by unfold edL; split; exact rg_ok _; exact rg_nil
theorem rg_sp (l : List Bg) (n : Int) : RG (spL2 l n) := by
  unfold spL2
  by_cases h : spOk l n = true
  · rw [if_pos h]
    unfold spOk at h
    simp only [Bool.and_eq_true, decide_eq_true_eq] at h
    obtain ⟨-, -, h2, h3⟩ := RO_bo (rtO_ro h.1)
    have := splO_ok (rtO l) n.toNat (by omega) h3 h2
    exact ⟨_, rfl, this.2.2.2.1, this.2.2.2.2.2⟩
  · rw [if_neg h]; exact rg_nil
theorem RG.len {l : List Bg} (h : RG l) : l.length ≤ 200 := by
  obtain ⟨o, rfl, h1, -⟩ := h
  rw [bo_len]; exact h1
theorem txt_pd (t : Lm) : ∀ o, ∀ b ∈ t.pd o, b.text.size ≤ t.sz := by
  induction t with
  | pc s => intro o b hb; simp [Lm.pd] at hb; subst hb; exact Nat.le_refl _
  | jn x y ihx ihy =>
    intro o b hb
    simp only [Lm.pd, List.mem_append, List.mem_singleton] at hb
    rcases hb with hb | hb | hb
    · have := ihx o b hb; show _ ≤ x.sz + y.sz; omega
    · have := ihy _ b hb; show _ ≤ x.sz + y.sz; omega
    · subst hb; exact Nat.zero_le _
theorem RG.txt {l : List Bg} (h : RG l) : ∀ i (hi : i < l.length), l[i].text.size ≤ 300 := by
  obtain ⟨o, rfl, -, h2⟩ := h
  intro i hi
  cases o with
  | none => simp [bo] at hi
  | some t => exact Nat.le_trans (txt_pd t 0 _ (List.getElem_mem hi)) h2
theorem RG.tot {l : List Bg} (h : RG l) : tot (pcsL l) ≤ 300 := by
  obtain ⟨o, rfl, -, h2⟩ := h
  cases o with
  | none => exact Nat.zero_le _
  | some t =>
    have : pcsL (bo (some t)) = pcO (some t) := pcsL_pd t 0
    rw [this, pcO_tot]; exact h2
theorem cat_fold (l : List ByteArray) : ∀ a : ByteArray, (l.foldl (fun x y => x ++ y) a).size = a.size + tot l := by
  induction l with
  | nil => intro a; simp [tot]
  | cons x l ih =>
    intro a
    rw [List.foldl_cons, ih, ByteArray.size_append]
    show _ = _ + (x.size + tot l)
    omega
theorem cat_size (l : List ByteArray) : (catB l).size = tot l := by
  have := cat_fold l eT
  rw [show eT.size = 0 from rfl, Nat.zero_add] at this
  exact this
/-- A row of boughs, as it may be handed on. -/
theorem rg_rin {w : World} {B : Nat} {v : Value} {l : List Bg} (h : BoOwn w B v l) (hr : RG l) : ∃ a cap, v = .slice a l.length cap ∧ RIn w a cap l := by
  obtain ⟨a, cap, rfl, hi⟩ := h.inn
  exact ⟨a, cap, rfl, hi, by have := hr.len; omega, fun i hi => by have := hr.txt i hi; omega⟩
/-- A row of boughs is no box. -/
theorem own_box {w : World} {B b : Nat} {v x : Value} {l : List Bg} (h : BoOwn w B v l) (hb : CellR w b x) : v.ownBlock ≠ some b := by
  intro c
  rcases h.2 with ⟨rfl, -⟩ | ⟨g, cap, cur, rfl, -, hh, -⟩
  · cases c
  · have e : g = b := Option.some.inj c
    subst e
    unfold CellR at hb
    rw [hh] at hb
    injection hb with hb
    injection hb with _ h2
    exact absurd h2 (by decide)
/-- While a rope is drawn: the cursor, r's box b, its row of boughs. -/
structure RS (g : Nat) (C : Value) (M : Nat) (w : World) (b : Nat) (wr : World) (v : Value) (l : List Bg) : Prop where
  cur : CurAt g C M wr
  box : CellR wr b v
  own : BoOwn wr w.heap.size v l
  rg : RG l
  grown : w.grownBy wr (some g)
  res : CellR wr w.heap.size (.slice none 0 0)
  lo : w.heap.size < b
theorem CurAt.blw {g : Nat} {C : Value} {M : Nat} {wr w2 : World} (h : CurAt g C M wr) (hb : Below wr.heap.size wr w2) : CurAt g C M w2 := by
  have hl := h.lt
  exact ⟨(World.cell?_of_block (a := ⟨g, 0, none⟩) (hb.block g hl)).trans h.c0, by obtain ⟨i, x, h1, h2, h3⟩ := h.ex; exact ⟨i, x, (World.cell?_of_block (a := ⟨g, 1, none⟩) (hb.block g hl)).trans h1, (World.cell?_of_block (a := ⟨g, 2, none⟩) (hb.block g hl)).trans h2, h3⟩, fun j => by rw [World.frozen?_of_block (a := ⟨g, j, none⟩) (hb.block g hl)]; exact h.fz j⟩
theorem RS.mono {g : Nat} {C : Value} {M M' : Nat} {w : World} {b : Nat} {wr : World} {v : Value} {l : List Bg} (h : RS g C M w b wr v l) (hM : M ≤ M') : RS g C M' w b wr v l := ⟨h.cur.mono hM, h.box, h.own, h.rg, h.grown, h.res, h.lo⟩
theorem RS.code {g : Nat} {C : Value} {M : Nat} {w : World} {b : Nat} {wr : World} {v : Value} {l : List Bg} (h : RS g C M w b wr v l) (hc : CodeAt g C w) : CodeAt g C wr := hc.grown h.grown
theorem RS.below {g : Nat} {C : Value} {M : Nat} {w : World} {b : Nat} {wr w2 : World} {v : Value} {l : List Bg} (h : RS g C M w b wr v l) (hb : Below wr.heap.size wr w2) : RS g C M w b w2 v l where
  cur := h.cur.blw hb
  box := h.box.later hb
  own := own_below h.own hb
  rg := h.rg
  grown := grown_below h.grown hb
  res := h.res.later hb
  lo := h.lo
theorem grown_trans2 {w w1 w2 : World} {g : Nat} (h : w.grownBy w1 (some g)) (k : w1.grownBy w2 (some g)) : w.grownBy w2 (some g) :=
  ⟨k.os.trans h.os, k.tape.trans h.tape, k.output.trans h.output, Nat.le_trans h.size k.size, fun i hi hn => (k.block i (Nat.lt_of_lt_of_le hi h.size) hn).trans (h.block i hi hn)⟩
theorem CellR.grown {w w1 : World} {c g : Nat} {x : Value} (h : CellR w c x) (hg : w.grownBy w1 (some g)) (hc : g ≠ c) : CellR w1 c x := by
  unfold CellR; rw [hg.block c h.lt (fun e => hc (Option.some.inj e).symm)]; exact h
theorem RS.grow {g : Nat} {C : Value} {M M' : Nat} {w : World} {b : Nat} {wr w2 : World} {v : Value} {l : List Bg} (h : RS g C M w b wr v l) (hg : wr.grownBy w2 (some g)) (hc : CurAt g C M' w2) (hgl : g < w.heap.size) : RS g C M' w b w2 v l where
  cur := hc
  box := h.box.grown hg (by have := h.lo; omega)
  own := own_grown h.own hg (fun y hy c => by have := (World.ownsRow.lt h.own y hy).1; have e : g = y := Option.some.inj c; omega)
  rg := h.rg
  grown := grown_trans2 h.grown hg
  res := h.res.grown hg (by omega)
  lo := h.lo
theorem CurAt.setD {g : Nat} {C : Value} {M : Nat} {w : World} {d k : Nat} {u : Value} (h : CurAt g C M w) (hb : g ≠ d) : CurAt g C M (w.setCell ⟨d, k, none⟩ u) := by
  have e : (w.setCell ⟨d, k, none⟩ u).heap[g]? = w.heap[g]? := Below.heap_setCell _ _ _ _ (by show g ≠ d; exact hb)
  exact ⟨(World.cell?_of_block (a := ⟨g, 0, none⟩) e).trans h.c0, by obtain ⟨i, x, h1, h2, h3⟩ := h.ex; exact ⟨i, x, (World.cell?_of_block (a := ⟨g, 1, none⟩) e).trans h1, (World.cell?_of_block (a := ⟨g, 2, none⟩) e).trans h2, h3⟩, fun j => by rw [World.frozen?_of_block (a := ⟨g, j, none⟩) e]; exact h.fz j⟩
theorem own_setD {w : World} {B d k : Nat} {v u : Value} {l : List Bg} (h : BoOwn w B v l) (hd : v.ownBlock ≠ some d) : BoOwn (w.setCell ⟨d, k, none⟩ u) B v l :=
  own_grown (row := some d) h ⟨rfl, rfl, rfl, by simp [World.setCell], fun i hi hn => Below.heap_setCell _ _ _ _ (by show i ≠ d; exact fun c => hn (c ▸ rfl))⟩ (fun y hy c => hd (by rw [hy, ← c]))
theorem grown_setD {w wr : World} {g d k : Nat} {u : Value} (h : w.grownBy wr (some g)) (hd : w.heap.size ≤ d) : w.grownBy (wr.setCell ⟨d, k, none⟩ u) (some g) :=
  ⟨h.os, h.tape, h.output, by simpa [World.setCell] using h.size, fun i hi hn => (Below.heap_setCell _ _ _ _ (by show i ≠ d; omega)).trans (h.block i hi hn)⟩
theorem CellR.setD {w : World} {c d k : Nat} {x u : Value} (h : CellR w c x) (hd : d ≠ c) : CellR (w.setCell ⟨d, k, none⟩ u) c x := by
  have e : (w.setCell ⟨d, k, none⟩ u).heap[c]? = w.heap[c]? := Below.heap_setCell _ _ _ _ (by show c ≠ d; exact Ne.symm hd)
  unfold CellR; rw [e]; exact h
/-- Another box is written. -/
theorem RS.other {g : Nat} {C : Value} {M : Nat} {w : World} {b d : Nat} {wr : World} {v x u : Value} {l : List Bg} (h : RS g C M w b wr v l) (hx : CellR wr d x) (hd : w.heap.size < d) (hbd : d ≠ b) (hgl : g < w.heap.size) : RS g C M w b (wr.setCell ⟨d, 0, none⟩ u) v l where
  cur := h.cur.setD (by omega)
  box := by
    have e : (wr.setCell ⟨d, 0, none⟩ u).heap[b]? = wr.heap[b]? := Below.heap_setCell _ _ _ _ (by show b ≠ d; exact Ne.symm hbd)
    unfold CellR; rw [e]; exact h.box
  own := own_setD h.own (own_box h.own hx)
  rg := h.rg
  grown := grown_setD h.grown (by omega)
  res := h.res.setD (by omega)
  lo := h.lo
/-- r's box is written. -/
theorem RS.put {g : Nat} {C : Value} {M : Nat} {w : World} {b : Nat} {wr : World} {v v' : Value} {l l' : List Bg} (h : RS g C M w b wr v l) (ho : BoOwn wr w.heap.size v' l') (hr : RG l') (hgl : g < w.heap.size) : RS g C M w b (wr.setCell ⟨b, 0, none⟩ v') v' l' where
  cur := h.cur.setD (by have := h.lo; omega)
  box := h.box.put v'
  own := own_setD ho (own_box ho h.box)
  rg := hr
  grown := grown_setD h.grown (by have := h.lo; omega)
  res := h.res.setD (by have := h.lo; omega)
  lo := h.lo

/-- What is told lies in x's box; it is taken, or not. -/
theorem RS.done {g : Nat} {C : Value} {M : Nat} {w : World} {b d : Nat} {wr : World} {v x u : Value} {l m : List Bg} (h : RS g C M w b wr v l) (hx : CellR wr d x) (hd : w.heap.size < d) (hbd : d ≠ b) (hgl : g < w.heap.size) (ho : BoOwn wr w.heap.size u m) (hr : RG m) :
    RS g C M w b (wr.setCell ⟨d, 0, none⟩ u) v l ∧ CellR (wr.setCell ⟨d, 0, none⟩ u) d u ∧ RS g C M w b ((wr.setCell ⟨d, 0, none⟩ u).setCell ⟨b, 0, none⟩ u) u m := by
  have h1 := h.other (u := u) hx hd hbd hgl
  exact ⟨h1, hx.put u, h1.put (own_setD ho (own_box ho hx)) hr hgl⟩
theorem lastZ_le {l : List Bg} (h : RG l) : 0 ≤ lastZ l ∧ lastZ l ≤ 300 := by
  obtain ⟨o, rfl, -, h2⟩ := h
  rw [lastZ_bo]
  omega

theorem smP_szQ {l : List Pt} (h : ∀ p ∈ l, smP p) : ∀ i (hi : i < l.length), l[i].put.size ≤ 1048576 ∧ l[i].drop.size ≤ 1048576 := fun i hi => by
  have := h _ (List.getElem_mem hi)
  exact ⟨by have := this.2.1; omega, by have := this.2.2; omega⟩

set_option maxRecDepth 100000 in
theorem goodOpS_bigQ {w : World} (a : Option Addr) (n cap : Nat) (h60 : 60 < n) :
    Calls Tryd.prog 82 #[.slice a n cap] w fun e w' => e = .returned (.bool false) ∧ Below w.heap.size w w' := by
  have h61 : (60 : Int) < (n : Int) := by omega
  go_enter Tryd.func82, Tryd.ntmps82
  go_wp2
  go_ret
  exact ⟨rfl, Below.refl _ _⟩

theorem own_pinQ {w : World} {B : Nat} {v : Value} {l : List Pt} (h : POwn w B v l) (h0w : 0 < w.heap.size) (hs : ∀ i (hi : i < l.length), l[i].put.size ≤ 1048576 ∧ l[i].drop.size ≤ 1048576) (hl : l.length ≤ 1048576) :
    ∃ aw g cap, v = .slice aw l.length cap ∧ Pin w aw g cap l := by
  rcases Nat.eq_zero_or_pos l.length with h0 | h0
  · obtain rfl := List.eq_nil_of_length_eq_zero h0
    rcases h.2 with ⟨rfl, -⟩ | ⟨g, cap, cur, rfl, hb, hh, hle, hm, hz, ht⟩
    · exact ⟨none, 0, 0, rfl, ⟨by simp, by unfold maxLen; omega⟩, fun i hi => by simp at hi, by simp, (fun j u hu => by simp [encP] at hu), h0w, fun c => absurd rfl c⟩
    · exact ⟨_, g, cap, rfl, ⟨by simp, hm⟩, fun i hi => by simp at hi, by simp, (fun j u hu => by simp [encP] at hu), (Array.getElem?_eq_some_iff.1 hh).1, fun _ => rfl⟩
  · obtain ⟨g, cap, rfl, hle, hm, hB, hlt, hc, hbk⟩ := own_cat h h0
    exact ⟨_, g, cap, rfl, ⟨hle, hm⟩, hs, hl, hc, hlt, fun _ => rfl⟩

set_option maxRecDepth 100000 in
set_option maxHeartbeats 2000000 in
/-- A change of too many parts is refused. -/
theorem editS_big {w : World} {a : Option Addr} {cap : Nat} {l : List Bg} {ao : Option Addr} {co n : Nat} (h : RIn w a cap l) (hn : 60 < n) :
    Calls Tryd.prog 25 #[.agg #[.slice a l.length cap], .slice ao n co] w (RpPost w [] false) := by
  obtain ⟨w1, hw1⟩ : ∃ w1, w1 = (w.alloc (.cells #[.slice a l.length cap] 26)).alloc (.cells #[.slice none 0 0] 26) := ⟨_, rfl⟩
  obtain ⟨hs1, hb1, hc1, hc2⟩ := boxes2 w (.slice a l.length cap) (.slice none 0 0)
  rw [← hw1] at hs1 hb1 hc1 hc2
  have G := hide (goodRopeS (h.later hb1))
  have P := hide (fun w' => goodOpS_bigQ (w := w') ao n co hn)
  have HB := hide hb1
  have HC := hide hc2
  have HC1 := hide hc1
  clear h hb1 hc1 hc2
  cases hr : rtB l with
  | true =>
    rw [hr] at G
    clear hr
    go_enter Tryd.func25, Tryd.ntmps25
    go_wp2_with fail
    rw [← hw1]
    clear hw1
    refine G.out.mono ?_
    rintro e w2 ⟨rfl, hb2⟩
    have HB2 := hide (HB.out.trans (hb2.mono HB.out.size))
    have HC2 := hide (HC.out.later hb2)
    clear hb2
    go_wp2_with fail
    refine (P.out w2).mono ?_
    rintro e w3 ⟨rfl, hb3⟩
    have HB3 := hide (HB2.out.trans (hb3.mono HB2.out.size))
    have c0 := (HC2.out.later hb3).cell
    have f0 := (HC2.out.later hb3).fz
    have HC3 := hide ((HC2.out.later hb3).put (.slice none 0 0))
    clear hb3
    go_wp2
    refine bodyPost_ret (results_cell_tmp rfl _ _ (w.heap.size + 1) 26 _ (0, 0) _ (.bool false) rfl rfl HC3.out Tryd.underlying26 rfl Tryd.sizeRope) rfl ?_
    exact ⟨_, rfl, World.ownsRow_nil _ _ _ _, HB3.out.setCell (by show w.heap.size ≤ w.heap.size + 1; omega) _⟩
  | false =>
    rw [hr] at G
    clear hr P
    go_enter Tryd.func25, Tryd.ntmps25
    go_wp2_with fail
    rw [← hw1]
    clear hw1
    refine G.out.mono ?_
    rintro e w2 ⟨rfl, hb2⟩
    have HB2 := hide (HB.out.trans (hb2.mono HB.out.size))
    have c0 := (HC.out.later hb2).cell
    have f0 := (HC.out.later hb2).fz
    have HC3 := hide ((HC.out.later hb2).put (.slice none 0 0))
    clear hb2
    go_wp2
    refine bodyPost_ret (results_cell_tmp rfl _ _ (w.heap.size + 1) 26 _ (0, 0) _ (.bool false) rfl rfl HC3.out Tryd.underlying26 rfl Tryd.sizeRope) rfl ?_
    exact ⟨_, rfl, World.ownsRow_nil _ _ _ _, HB2.out.setCell (by show w.heap.size ≤ w.heap.size + 1; omega) _⟩

theorem edit_own {w : World} {a : Option Addr} {cap B : Nat} {l : List Bg} {v : Value} {op : List Pt} (h : RIn w a cap l) (hp : POwn w B v op) (h0w : 0 < w.heap.size) (hs : ∀ p ∈ op, smP p) :
    Calls Tryd.prog 25 #[.agg #[.slice a l.length cap], v] w fun e w' => ∃ l' b, RpPost w l' b e w' ∧ RG l' := by
  by_cases hl : op.length ≤ 1048576
  · obtain ⟨ao, g, co, rfl, hpin⟩ := own_pinQ hp h0w (smP_szQ hs) hl
    exact (editS h hpin).mono (fun e w' hq => ⟨_, _, hq, rg_ed _ _⟩)
  · obtain ⟨ao, co, rfl, -, -⟩ := own_shp hp
    exact (editS_big h (by omega)).mono (fun e w' hq => ⟨_, _, hq, rg_nil⟩)

theorem encBo_set (l : List Bg) : ∀ (k : Nat) (hk : k < l.length) (b : Bg) (j : Nat) (hj : j < 5) (x : Value) (hb : bgC b = (bgC l[k]).set j x), encBo (l.set k b) = (encBo l).set (k * 5 + j) x := by
  induction l with
  | nil => intro k hk; simp at hk
  | cons y l ih =>
    intro k hk b j hj x hb
    have e : ∀ (z : Bg) (m : List Bg), encBo (z :: m) = bgC z ++ encBo m := fun z m => by simp [encBo]
    cases k with
    | zero =>
      rw [List.set_cons_zero, e, e, Nat.zero_mul, Nat.zero_add, List.set_append_left _ _ (by simp [bgC]; omega)]
      rw [hb]; rfl
    | succ k =>
      rw [List.set_cons_succ, e, e, ih k (by simpa using hk) b j hj x (by simpa using hb), List.set_append_right _ _ (by simp [bgC]; omega)]
      congr 2
      simp [bgC]; omega
/-- A drawn rope, which may be spoilt. -/
structure RF (g : Nat) (C : Value) (M : Nat) (w : World) (b : Nat) (wr : World) (v : Value) (l : List Bg) : Prop where
  cur : CurAt g C M wr
  box : CellR wr b v
  own : BoOwn wr w.heap.size v l
  bd : l.length ≤ 200 ∧ ∀ i (hi : i < l.length), l[i].text.size ≤ 300
  grown : w.grownBy wr (some g)
  res : CellR wr w.heap.size (.slice none 0 0)
  lo : w.heap.size < b
theorem RS.rf {g : Nat} {C : Value} {M : Nat} {w : World} {b : Nat} {wr : World} {v : Value} {l : List Bg} (h : RS g C M w b wr v l) : RF g C M w b wr v l := ⟨h.cur, h.box, h.own, ⟨h.rg.len, h.rg.txt⟩, h.grown, h.res, h.lo⟩
theorem pd_bq (t : Lm) : ∀ o, ∀ b ∈ t.pd o, (0 ≤ b.size ∧ b.size ≤ t.sz) ∧ 0 ≤ b.deep ∧ b.deep ≤ t.nb := by
  induction t with
  | pc s => intro o b hb; simp [Lm.pd] at hb; subst hb; exact ⟨⟨by simp, Int.le_refl _⟩, by simp, by simp [Lm.nb]⟩
  | jn x y ihx ihy =>
    intro o b hb
    have hd := Lm.dp_lt (.jn x y)
    simp only [Lm.pd, List.mem_append, List.mem_singleton] at hb
    have e1 : (Lm.jn x y).sz = x.sz + y.sz := rfl
    have e2 : (Lm.jn x y).nb = x.nb + y.nb + 1 := rfl
    rcases hb with hb | hb | hb
    · have := ihx o b hb; omega
    · have := ihy _ b hb; omega
    · subst hb
      have e3 : (Lm.jn x y).dp = max x.dp y.dp + 1 := rfl
      simp only
      omega
theorem RG.bd {l : List Bg} (h : RG l) (i : Nat) (hi : i < l.length) : (0 ≤ l[i].size ∧ l[i].size ≤ 300) ∧ 0 ≤ l[i].deep ∧ l[i].deep ≤ 200 := by
  obtain ⟨o, rfl, h1, h2⟩ := h
  cases o with
  | none => simp [bo] at hi
  | some t =>
    have := pd_bq t 0 _ (List.getElem_mem hi)
    have e1 : nbO (some t) = t.nb := rfl
    have e2 : szO (some t) = t.sz := rfl
    omega
/-- One field of a bough is written. -/
theorem RS.mut {g : Nat} {C : Value} {M : Nat} {w : World} {b : Nat} {wr : World} {v : Value} {l : List Bg} (h : RS g C M w b wr v l) (hgl : g < w.heap.size) (k : Nat) (hk : k < l.length) :
    ∃ q cap, v = .slice (some ⟨q, 0, none⟩) l.length cap ∧ l.length ≤ cap ∧ cap ≤ maxLen ∧ q ≠ g ∧ q < wr.heap.size ∧ w.heap.size ≤ q ∧ q ≠ b ∧ CLs wr q (encBo l) ∧ (∀ j, wr.frozen? ⟨q, j, none⟩ = false) ∧
      ∀ (j : Nat) (x : Int), (j = 0 ∨ j = 3 ∨ j = 4) → ∃ l', RF g C M w b (wr.setCell ⟨q, k * 5 + j, none⟩ (.int .i64 x)) v l' := by
  have hown := h.own
  obtain ⟨q, cap, rfl, c1, c2, c3, c4, c5, c6⟩ := own_cat h.own (by omega)
  have nb := own_box h.own h.box
  have nr := own_box h.own h.res
  have nb' : q ≠ b := fun c => nb (by rw [c]; rfl)
  have nr' : q ≠ w.heap.size := fun c => nr (by rw [c]; rfl)
  refine ⟨q, cap, rfl, c1, c2, by omega, c4, c3, nb', c5, c6.fz, fun j x hj => ?_⟩
  obtain ⟨b', hb', ht'⟩ : ∃ b' : Bg, bgC b' = (bgC l[k]).set j (.int .i64 x) ∧ b'.text = l[k].text := by
    rcases hj with rfl | rfl | rfl
    · exact ⟨{ l[k] with left := x }, rfl, rfl⟩
    · exact ⟨{ l[k] with size := x }, rfl, rfl⟩
    · exact ⟨{ l[k] with deep := x }, rfl, rfl⟩
  have hen := encBo_set l k hk b' j (by omega) (.int .i64 x) hb'
  refine ⟨l.set k b', h.cur.setD (by omega), h.box.setD nb', ?_, ⟨by simpa using h.rg.len, fun i hi => ?_⟩, grown_setD h.grown c3, h.res.setD nr', h.lo⟩
  · have hl2 : (l.set k b').length = l.length := by simp
    rcases hown.2 with ⟨-, h0⟩ | ⟨q', cap', cur, e, hB, hh, hle, hm, hz, ht⟩
    · omega
    · cases e
      refine ⟨by rw [hl2, encBo_len, hl2], .inr ⟨q, cap, cur.setIfInBounds (k * 5 + j) (.int .i64 x), by rw [hl2], hB, ?_, by rw [hl2]; exact hle, hm, by simpa using hz, ?_⟩⟩
      · obtain ⟨hlt, hkk⟩ := Array.getElem?_eq_some_iff.1 hh
        show (wr.heap.modify q _)[q]? = _
        rw [Array.getElem?_eq_getElem (by rw [Array.size_modify]; exact hlt), Array.getElem_modify_self, hkk]
        rfl
      · rw [hl2, hen, ← ht, Array.toList_setIfInBounds, List.take_set]
  · have hi' : i < l.length := by simpa using hi
    by_cases e : i = k
    · subst e; rw [List.getElem_set_self, ht']; exact h.rg.txt i hi'
    · rw [List.getElem_set_ne (Ne.symm e)]; exact h.rg.txt i hi'
/-- The drawing's end. -/
theorem RF.fin {g : Nat} {C : Value} {M : Nat} {w : World} {b : Nat} {wr : World} {v : Value} {l : List Bg} (h : RF g C M w b wr v l) (hgl : g < w.heap.size) :
    CellR (wr.setCell ⟨w.heap.size, 0, none⟩ v) w.heap.size v ∧ BoOwn (wr.setCell ⟨w.heap.size, 0, none⟩ v) w.heap.size v l ∧ CurAt g C M (wr.setCell ⟨w.heap.size, 0, none⟩ v) ∧ w.grownBy (wr.setCell ⟨w.heap.size, 0, none⟩ v) (some g) :=
  ⟨h.res.put v, own_setD h.own (own_box h.own h.res), h.cur.setD (by omega), grown_setD h.grown (Nat.le_refl _)⟩
end Go.Proofs.YtkjioadmebkaoaaDoor

set_option linter.unusedVariables false
namespace Go.Proofs.YtkjioadmebkaoaaDoor
open Go.RowKit
open Doc1

/-- What the drawing of a rope tells. -/
def RopeDr (g : Nat) (C : Value) (M : Nat) (w : World) (e : Ending) (w' : World) : Prop := ∃ v l, e = .returned (.agg #[v]) ∧ BoOwn w' w.heap.size v l ∧ (l.length ≤ 200 ∧ ∀ i (hi : i < l.length), l[i].text.size ≤ 300) ∧ CurAt g C M w' ∧ w.grownBy w' (some g)

set_option maxRecDepth 100000 in
set_option maxHeartbeats 8000000 in
theorem rope_any (g : Nat) (C : Value) (M : Nat) (w : World) (hcur : CurAt g C M w) (hco : CodeAt g C w) (hC : codeLen C ≤ 1048576) (hM : M ≤ 100000000000000) :
    Calls Tryd.prog 68 #[.pointer (some ⟨g, 0, none⟩)] w (RopeDr g C (M + 50000000000000) w) := by
  have hgl := hcur.lt
  obtain ⟨w0, hw0⟩ : ∃ w0, w0 = w.alloc (.cells #[.slice none 0 0] 26) := ⟨_, rfl⟩
  have g0 : w.grownBy w0 (some g) := by rw [hw0]; exact World.grownBy_alloc _ _ _
  have r0 : CellR w0 w.heap.size (.slice none 0 0) := by rw [hw0]; exact CellR.new _ _
  have PT := hide (plainText_any g C M w0 (by rw [hw0]; exact hcur.alloc _) (hco.grown g0) (by omega))
  have HG0 := hide g0
  have HR0 := hide r0
  have HCO := hide hco
  have hs0 : w0.heap.size = w.heap.size + 1 := by rw [hw0]; simp
  clear g0 r0 hcur hco
  go_enter Tryd.func68, Tryd.ntmps68
  go_wp2_with fail
  rw [← hw0]
  clear hw0
  refine PT.out.mono ?_
  rintro e w1 ⟨s, rfl, hs, hc1, hg1⟩
  have RO := hide (ropeOfS s w1 (by omega))
  have HG1 := hide (grown_trans2 HG0.out hg1)
  have HR1 := hide (HR0.out.grown hg1 (by omega))
  have HC1 := hide hc1
  have hsz1 := hg1.size
  clear hg1 hc1 PT HG0 HR0
  go_wp2_with fail
  refine RO.out.mono ?_
  rintro e w2 ⟨v, rfl, hv, hb2⟩
  obtain ⟨a, cap, rfl, -⟩ := hv.inn
  have hsz2 := hb2.size
  have S0 : Hid (RS g C (M + 500000) w w2.heap.size (w2.alloc (.cells #[.slice a (roL s).length cap] 26)) (.slice a (roL s).length cap) (roL s)) := hide {
    cur := HC1.out.blw (hb2.trans ((Below.refl _ _).alloc hb2.size _))
    box := CellR.new _ _
    own := World.ownsRow.alloc (own_mono hv (by omega)) _
    rg := rg_ro s
    grown := grown_below HG1.out (hb2.trans ((Below.refl _ _).alloc hb2.size _))
    res := HR1.out.later (hb2.trans ((Below.refl _ _).alloc hb2.size _))
    lo := by omega }
  obtain ⟨b3, hb3⟩ : ∃ b3, b3 = w2.heap.size := ⟨_, rfl⟩
  obtain ⟨w3, hw3⟩ : ∃ w3, w3 = w2.alloc (.cells #[.slice a (roL s).length cap] 26) := ⟨_, rfl⟩
  rw [← hw3] at S0
  have PK := hide (pick_any g C (M + 500000) 5 w3 S0.out.cur (S0.out.code HCO.out) (by omega))
  clear hv hb2 HG1 HR1 HC1 RO
  rw [← hb3] at S0
  go_wp2_with fail
  rw [← hw3, ← hb3]
  clear hw3
  refine PK.out.mono ?_
  rintro e w4 ⟨n, rfl, hn0, hn1, hn2, hc4, hg4⟩
  obtain ⟨n, rfl⟩ : ∃ N : Nat, n = (N : Int) := ⟨n.toNat, by omega⟩
  have hn4 : n ≤ 4 := by have := hn2 (by omega); omega
  have S4 : Hid (RS g C (M + 600000) w b3 w4 (.slice a (roL s).length cap) (roL s)) := hide (S0.out.grow hg4 (hc4.mono (by omega)) hgl)
  have hb3lt : w.heap.size < b3 := S0.out.lo
  clear hg4 hc4 S0 hn0 hn1 hn2 PK hb3 hsz1 hsz2 hs0
  go_wp2
  go_loopw [5] (fun i wr => ∃ k : Nat, k ≤ 4 ∧ i = .int .i64 k ∧ Hid (∃ v l, RS g C (M + 600000 + (4 - k) * 9000000000000) w b3 wr v l)) (fun i _ => (intOf i).toNat)
  case atStart => exact ⟨n, hn4, rfl, hide ⟨_, _, S4.out.mono (by omega)⟩⟩
  case round =>
    obtain ⟨k, hk, rfl, HR⟩ := hrel
    obtain ⟨v, l, rs⟩ := HR.out
    rcases k with _ | k
    · clear HR
      obtain ⟨a2, cap2, rfl, -⟩ := rs.own.inn
      obtain ⟨M1, hM1⟩ : ∃ M1, M1 = M + 600000 + (4 - 0) * 9000000000000 := ⟨_, rfl⟩
      rw [← hM1] at rs
      have hM1b : M1 ≤ 200000000000000 := by omega
      have c3 := rs.box.cell
      by_cases h0 : l.length = 0
      · obtain rfl := List.eq_nil_of_length_eq_zero h0
        have R0 := hide rs.rf
        clear rs h0
        obtain ⟨F1, F2, F3, F4⟩ := R0.out.fin hgl
        have HF := hide (And.intro F1 (And.intro F2 (And.intro F3 F4)))
        have HBD := hide R0.out.bd
        have n0 := R0.out.res.cell
        have n1 := R0.out.res.fz
        clear F1 F2 F3 F4
        simp only [List.length_nil] at c3 HF ⊢
        go_wp2
        refine bodyPost_ret (results_cell_row rfl _ _ w.heap.size _ _ (0, 0) _ rfl HF.out.1 Tryd.underlying26 rfl Tryd.sizeRope) rfl ?_
        exact ⟨_, [], rfl, HF.out.2.1, HBD.out, HF.out.2.2.1.mono (by omega), HF.out.2.2.2⟩
      · have ON := hide (one_any g C M1 20 wr rs.cur (rs.code HCO.out) (by omega))
        have hz : 0 < (l.length : Int) := by omega
        have RS0 := hide rs
        clear rs
        go_wp2_with fail
        refine ON.out.mono ?_
        rintro e w5 ⟨y, rfl, hc5, hg5⟩
        have R5 := hide (RS0.out.grow hg5 hc5 hgl)
        clear hc5 hg5 RS0 ON c3
        cases y with
        | false =>
          have R0 := hide R5.out.rf
          clear R5
          obtain ⟨F1, F2, F3, F4⟩ := R0.out.fin hgl
          have HF := hide (And.intro F1 (And.intro F2 (And.intro F3 F4)))
          have HBD := hide R0.out.bd
          have n0 := R0.out.res.cell
          have n1 := R0.out.res.fz
          have n2 := R0.out.box.cell
          clear F1 F2 F3 F4
          go_wp2
          refine bodyPost_ret (results_cell_row rfl _ _ w.heap.size _ _ (0, 0) _ rfl HF.out.1 Tryd.underlying26 rfl Tryd.sizeRope) rfl ?_
          exact ⟨_, _, rfl, HF.out.2.1, HBD.out, HF.out.2.2.1.mono (by omega), HF.out.2.2.2⟩
        | true =>
          have PK := hide (pick_any g C (M1 + 2) (l.length : Int) w5 R5.out.cur (R5.out.code HCO.out) (by omega))
          have c5 := R5.out.box.cell
          go_wp2_with fail
          refine PK.out.mono ?_
          rintro e w6 ⟨kk, rfl, hk0, -, hk2, hc6, hg6⟩
          have hk3 := hk2 hz
          have R6 := hide (R5.out.grow hg6 hc6 hgl)
          obtain ⟨kk, rfl⟩ : ∃ N : Nat, kk = (N : Int) := ⟨kk.toNat, by omega⟩
          have hkl : kk < l.length := by omega
          clear hc6 hg6 R5 PK c5 hk2 hk3 hk0
          have PK := hide (pick_any g C (M1 + 2 + 2) 3 w6 R6.out.cur (R6.out.code HCO.out) (by omega))
          go_wp2_with fail
          refine PK.out.mono ?_
          rintro e w7 ⟨y, rfl, hy0, -, hy2, hc7, hg7⟩
          have hy3 := hy2 (by omega)
          have R7 := hide (R6.out.grow hg7 hc7 hgl)
          have hyc : y = 0 ∨ y = 1 ∨ y = 2 := by omega
          have hbd := R7.out.rg.bd kk hkl
          clear hc7 hg7 R6 PK hy0 hy2 hy3
          rcases hyc with rfl | rfl | rfl
          · have PK := hide (fun w' (hb : Below w7.heap.size w7 w') => pick_any g C (M1 + 2 + 2 + 2) 3 w' (R7.out.below hb).cur ((R7.out.below hb).code HCO.out) (by omega))
            obtain ⟨q, qc, qe, d1, d2, d3, d4, d5, d6, d7, d8, d9⟩ := R7.out.mut hgl kk hkl
            cases qe
            have c7 := R7.out.box.cell
            have e7 := d7 _ _ (encBo_at l kk hkl).2.2.2.1
            clear d8 d9 d7
            go_wp2_with fail
            go_region_with (go_at_call 114; refine (PK.out _ (Below.refl _ _).drew).mono ?_; rintro e w8 ⟨y8, rfl, hy80, -, hy82, hc8, hg8⟩; have hy83 := hy82 (by omega); have R8 := hide ((R7.out.below (Below.refl _ _).drew).grow hg8 hc8 hgl); obtain ⟨q8, qc8, qe8, t1, t2, t3, t4, t5, t6, t7, t8, t9⟩ := R8.out.mut hgl kk hkl; cases qe8; have c8 := R8.out.box.cell; have e8 := t7 _ _ (encBo_at l kk hkl).2.2.2.1; have f8 := t8 (kk * 5 + 3); have T9 := hide t9; clear hc8 hg8 t7 t8 t9)
            all_goals
              obtain ⟨l', rf⟩ := T9.out 3 (l[kk].size + (y8 - 1)) (.inr (.inl rfl))
              have R0 := hide rf
              clear rf
              obtain ⟨F1, F2, F3, F4⟩ := R0.out.fin hgl
              have HF := hide (And.intro F1 (And.intro F2 (And.intro F3 F4)))
              have HBD := hide R0.out.bd
              have n0 := R0.out.res.cell
              have n1 := R0.out.res.fz
              have n2 := R0.out.box.cell
              clear F1 F2 F3 F4
              go_wp2
              refine bodyPost_ret (results_cell_row rfl _ _ w.heap.size _ _ (0, 0) _ rfl HF.out.1 Tryd.underlying26 rfl Tryd.sizeRope) rfl ?_
              exact ⟨_, _, rfl, HF.out.2.1, HBD.out, HF.out.2.2.1.mono (by omega), HF.out.2.2.2⟩
          · have PK := hide (fun w' (hb : Below w7.heap.size w7 w') => pick_any g C (M1 + 2 + 2 + 2) 5 w' (R7.out.below hb).cur ((R7.out.below hb).code HCO.out) (by omega))
            have c7 := R7.out.box.cell
            obtain ⟨q, qc, qe, d1, d2, d3, d4, d5, d6, d7, d8, d9⟩ := R7.out.mut hgl kk hkl
            cases qe
            clear d8 d9 d7
            go_wp2_with fail
            go_region_with (go_at_call 114; refine (PK.out _ (Below.refl _ _).drew).mono ?_; rintro e w8 ⟨y8, rfl, hy80, -, hy82, hc8, hg8⟩; have hy83 := hy82 (by omega); have R8 := hide ((R7.out.below (Below.refl _ _).drew).grow hg8 hc8 hgl); obtain ⟨q8, qc8, qe8, t1, t2, t3, t4, t5, t6, t7, t8, t9⟩ := R8.out.mut hgl kk hkl; cases qe8; have c8 := R8.out.box.cell; have e8 := t7 _ _ (encBo_at l kk hkl).1; have f8 := t8 (kk * 5); have T9 := hide t9; clear hc8 hg8 t7 t8 t9)
            all_goals
              obtain ⟨l', rf⟩ := T9.out 0 (y8 - 1) (.inl rfl)
              have R0 := hide rf
              clear rf
              simp only [Nat.add_zero] at R0
              obtain ⟨F1, F2, F3, F4⟩ := R0.out.fin hgl
              have HF := hide (And.intro F1 (And.intro F2 (And.intro F3 F4)))
              have HBD := hide R0.out.bd
              have n0 := R0.out.res.cell
              have n1 := R0.out.res.fz
              have n2 := R0.out.box.cell
              clear F1 F2 F3 F4
              go_wp2
              refine bodyPost_ret (results_cell_row rfl _ _ w.heap.size _ _ (0, 0) _ rfl HF.out.1 Tryd.underlying26 rfl Tryd.sizeRope) rfl ?_
              exact ⟨_, _, rfl, HF.out.2.1, HBD.out, HF.out.2.2.1.mono (by omega), HF.out.2.2.2⟩
          · have c7 := R7.out.box.cell
            obtain ⟨q, qc, qe, d1, d2, d3, d4, d5, d6, d7, d8, d9⟩ := R7.out.mut hgl kk hkl
            cases qe
            have e7 := d7 _ _ (encBo_at l kk hkl).2.2.2.2
            have f7 := d8 (kk * 5 + 4)
            obtain ⟨l', rf⟩ := d9 4 (l[kk].deep + 1) (.inr (.inr rfl))
            have R0 := hide rf
            clear rf d7 d8 d9
            obtain ⟨F1, F2, F3, F4⟩ := R0.out.fin hgl
            have HF := hide (And.intro F1 (And.intro F2 (And.intro F3 F4)))
            have HBD := hide R0.out.bd
            have n0 := R0.out.res.cell
            have n1 := R0.out.res.fz
            have n2 := R0.out.box.cell
            clear F1 F2 F3 F4
            go_wp2
            refine bodyPost_ret (results_cell_row rfl _ _ w.heap.size _ _ (0, 0) _ rfl HF.out.1 Tryd.underlying26 rfl Tryd.sizeRope) rfl ?_
            exact ⟨_, _, rfl, HF.out.2.1, HBD.out, HF.out.2.2.1.mono (by omega), HF.out.2.2.2⟩
    · obtain ⟨a2, cap2, rfl, -⟩ := rs.own.inn
      obtain ⟨M1, hM1⟩ : ∃ M1, M1 = M + 600000 + (4 - (k + 1)) * 9000000000000 := ⟨_, rfl⟩
      rw [← hM1] at rs
      have hM1b : M1 ≤ 200000000000000 := by omega
      have hM2 : M1 + 9000000000000 = M + 600000 + (4 - k) * 9000000000000 := by omega
      have c3 := rs.box.cell
      obtain ⟨W1, hW1⟩ : ∃ W1, W1 = wr.alloc (.cells #[.slice a2 l.length cap2] 26) := ⟨_, rfl⟩
      have hbW : Below wr.heap.size wr W1 := by rw [hW1]; exact (Below.refl _ _).alloc (Nat.le_refl _) _
      have xb : CellR W1 wr.heap.size (.slice a2 l.length cap2) := by rw [hW1]; exact CellR.new _ _
      have r1 := rs.below hbW
      have PK := hide (pick_any g C M1 3 W1 r1.cur (r1.code HCO.out) (by omega))
      have hlt3 : b3 < wr.heap.size := rs.box.lt
      have hrg := rs.rg
      have R1 := hide r1
      have XB := hide xb
      have HRG := hide hrg
      clear HR rs r1 xb hbW hrg
      go_wp2_with fail
      rw [← hW1]
      clear hW1 c3
      refine PK.out.mono ?_
      rintro e w5 ⟨y, rfl, hy0, hy1, hy2, hc5, hg5⟩
      have R5 := hide (R1.out.grow hg5 hc5 hgl)
      have X5 := hide (XB.out.grown hg5 (by omega))
      have hy3 := hy2 (by omega)
      clear hg5 hc5 R1 XB PK hy2 hy1
      have hyc : y = 0 ∨ y = 1 ∨ y = 2 := by omega
      clear hy0 hy3
      rcases hyc with rfl | rfl | rfl
      · have PT := hide (plainText_any g C (M1 + 2) w5 R5.out.cur (R5.out.code HCO.out) (by omega))
        go_wp2_with fail
        refine PT.out.mono ?_
        rintro e w6 ⟨s6, rfl, hs6, hc6, hg6⟩
        have R6 := hide (R5.out.grow hg6 hc6 hgl)
        have X6 := hide (X5.out.grown hg6 (by omega))
        have RO6 := hide (ropeOfS s6 w6 (by omega))
        clear hg6 hc6 PT R5 X5
        go_wp2_with fail
        refine RO6.out.mono ?_
        rintro e w7 ⟨u, rfl, hu, hb7⟩
        obtain ⟨au, cu, rfl, -⟩ := hu.inn
        obtain ⟨W8, hW8⟩ : ∃ W8, W8 = w7.alloc (.cells #[.slice au (roL s6).length cu] 26) := ⟨_, rfl⟩
        have hb8 : Below w6.heap.size w6 W8 := by rw [hW8]; exact hb7.alloc hb7.size _
        have r8 := R6.out.below hb8
        have X8 := hide (X6.out.later hb8)
        have hu8 : BoOwn W8 w6.heap.size (.slice au (roL s6).length cu) (roL s6) := by rw [hW8]; exact World.ownsRow.alloc hu _
        obtain ⟨a', c', e', rin1⟩ := rg_rin r8.own HRG.out
        cases e'
        obtain ⟨a', c', e', rin2⟩ := rg_rin hu8 (rg_ro s6)
        cases e'
        have JN := hide (joinRopesS rin1 rin2)
        have k3 := r8.box.cell
        rw [hW8] at k3
        have R8 := hide r8
        have hgs : w.heap.size ≤ W8.heap.size := r8.grown.size
        clear hu hb7 hb8 hu8 rin1 rin2 r8 R6 X6 RO6
        go_wp2_with fail
        rw [← hW8]
        clear hW8 k3
        refine JN.out.mono ?_
        rintro e w9 ⟨u9, rfl, hu9, hb9⟩
        obtain ⟨a9, c9, rfl, -⟩ := hu9.inn
        have R9 := hide (R8.out.below hb9)
        have X9 := hide (X8.out.later hb9)
        have HU9 := hide (own_mono hu9 hgs)
        clear hu9 hb9 R8 X8 JN
        obtain ⟨D1, D2, D3⟩ := R9.out.done X9.out (by omega) (by omega) hgl HU9.out (rg_jn _ _)
        have q1 := X9.out.cell
        have f1 := X9.out.fz
        have q2 := D2.cell
        have q3 := D1.box.cell
        have f3 := D1.box.fz
        have HD1 := hide D1
        have HD3 := hide D3
        obtain ⟨B, hB⟩ : ∃ B, jnB l (roL s6) = B := ⟨_, rfl⟩
        rw [hB]
        clear D1 D2 D3 hB
        cases B with
        | true =>
          go_wp2
          exact ⟨⟨k, by omega, by go_num, hide ⟨_, _, by rw [← hM2]; exact HD3.out.mono (by omega)⟩⟩, by simp [intOf]⟩
        | false =>
          go_wp2
          exact ⟨⟨k, by omega, by go_num, hide ⟨_, _, by rw [← hM2]; exact HD1.out.mono (by omega)⟩⟩, by simp [intOf]⟩
      · have hzz := lastZ_le HRG.out
        have LZ := hide (fun w' (hb : Below w5.heap.size w5 w') => by
          obtain ⟨a', c', e', rin1⟩ := rg_rin (R5.out.below hb).own HRG.out
          cases e'
          exact l12Size_any rin1.inn (by have := HRG.out.len; omega))
        have PK2 := hide (fun w' (hb : Below w5.heap.size w5 w') (n : Int) => pick_any g C (M1 + 2) n w' (R5.out.below hb).cur ((R5.out.below hb).code HCO.out) (by omega))
        have SP := hide (fun w' (hr : RS g C (M1 + 4) w b3 w' (.slice a2 l.length cap2) l) (n : Int) => by
          obtain ⟨a', c', e', rin1⟩ := rg_rin hr.own HRG.out
          cases e'
          exact splitRopeS n rin1)
        have c5 := R5.out.box.cell
        go_wp2_with fail
        go_region_with (first
          | (go_at_call 74; refine (LZ.out _ (Below.refl _ _).drew).mono ?_; rintro e w6 ⟨rfl, hw6⟩; obtain rfl := hw6.symm)
          | (go_at_call 114; refine (PK2.out _ (Below.refl _ _).drew _).mono ?_; rintro e w7 ⟨y7, rfl, hy70, hy71, hy72, hc7, hg7⟩; have R7 := hide ((R5.out.below (Below.refl _ _).drew).grow hg7 hc7 hgl); have X7 := hide ((X5.out.later (Below.refl _ _).drew).grown hg7 (by omega)); have c7 := R7.out.box.cell; clear hg7 hc7)
          | (go_at_call 22; refine (SP.out w7 R7.out y7).mono ?_; rintro e w9 ⟨u1, u9, rfl, hu1, hu9, -, hb9⟩; obtain ⟨a9, c9, rfl, -⟩ := hu9.inn; have R9 := hide (R7.out.below hb9); have X9 := hide (X7.out.later hb9); have HU9 := hide (own_mono hu9 R7.out.grown.size); obtain ⟨D1, D2, D3⟩ := R9.out.done X9.out (by omega) (by omega) hgl HU9.out (rg_sp _ _); have q1 := X9.out.cell; have f1 := X9.out.fz; have q2 := D2.cell; have q3 := D1.box.cell; have f3 := D1.box.fz; have HD1 := hide D1; have HD3 := hide D3; clear D1 D2 D3; clear hu1 hu9 hb9))
        all_goals
          obtain ⟨B, hB⟩ : ∃ B, spOk l y7 = B := ⟨_, rfl⟩
          rw [hB]
          clear hB
          cases B with
          | true =>
            go_wp2
            exact ⟨⟨k, by omega, by go_num, hide ⟨_, _, by rw [← hM2]; exact HD3.out.mono (by omega)⟩⟩, by simp [intOf]⟩
          | false =>
            go_wp2
            exact ⟨⟨k, by omega, by go_num, hide ⟨_, _, by rw [← hM2]; exact HD1.out.mono (by omega)⟩⟩, by simp [intOf]⟩
      · have hct : (catB (pcsL l)).size ≤ 300 := by rw [cat_size]; exact HRG.out.tot
        have LT := hide (fun w' (hb : Below w5.heap.size w5 w') => by
          obtain ⟨a', c', e', rin1⟩ := rg_rin (R5.out.below hb).own HRG.out
          cases e'
          exact l12Text_any rin1.inn (by have := HRG.out.len; omega) (by have := HRG.out.tot; omega))
        have OP := hide (fun w' (hb : Below w5.heap.size w5 w') => opOn_any g C (M1 + 2) (catB (pcsL l)) w' (R5.out.below hb).cur ((R5.out.below hb).code HCO.out) hC (by omega) hct)
        have ED := hide (fun w' (hr : RS g C (M1 + 2 + 8000000000000) w b3 w' (.slice a2 l.length cap2) l) {B : Nat} {v : Value} {op : List Pt} (hp : POwn w' B v op) (hs : ∀ p ∈ op, smP p) => by
          obtain ⟨a', c', e', rin1⟩ := rg_rin hr.own HRG.out
          cases e'
          exact edit_own rin1 hp (Nat.lt_of_le_of_lt (Nat.zero_le _) hr.box.lt) hs)
        have c5 := R5.out.box.cell
        obtain ⟨TX, hTX⟩ : ∃ TX, catB (pcsL l) = TX := ⟨_, rfl⟩
        simp only [hTX] at LT OP
        clear hct hTX
        go_wp2_with fail
        go_region_with (first
          | (go_at_call 79; refine (LT.out _ (Below.refl _ _).drew).mono ?_; rintro e w6 ⟨rfl, hb6⟩; have hb56 : Below w5.heap.size w5 w6 := (Below.refl _ _).drew.trans hb6; have c6 := (R5.out.below hb56).box.cell; clear hb6)
          | (go_at_call 78; refine (OP.out w6 hb56).mono ?_; rintro e w7 ⟨vo, Lo, rfl, hvo, -, hso, hc7, hg7⟩; have R7 := hide ((R5.out.below hb56).grow hg7 hc7 hgl); have X7 := hide ((X5.out.later hb56).grown hg7 (by omega)); have c7 := R7.out.box.cell; have HVO := hide hvo; have HSO := hide hso; obtain ⟨ao, co, rfl, -, -⟩ := own_shp hvo; clear hg7 hc7 hvo hso)
          | (go_at_call 25; refine (ED.out w7 R7.out HVO.out HSO.out).mono ?_; rintro e w9 ⟨m9, b9, ⟨u9, rfl, hu9, hb9⟩, hrg9⟩; obtain ⟨a9, c9, rfl, -⟩ := hu9.inn; have R9 := hide (R7.out.below hb9); have X9 := hide (X7.out.later hb9); have HU9 := hide (own_mono hu9 R7.out.grown.size); obtain ⟨D1, D2, D3⟩ := R9.out.done X9.out (by omega) (by omega) hgl HU9.out hrg9; have q1 := X9.out.cell; have f1 := X9.out.fz; have q2 := D2.cell; have q3 := D1.box.cell; have f3 := D1.box.fz; have HD1 := hide D1; have HD3 := hide D3; clear D1 D2 D3; clear hu9 hb9))
        all_goals
          obtain ⟨B, hB⟩ : ∃ B, b9 = B := ⟨_, rfl⟩
          rw [hB]
          clear hB
          cases B with
          | true =>
            go_wp2
            exact ⟨⟨k, by omega, by go_num, hide ⟨_, _, by rw [← hM2]; exact HD3.out.mono (by omega)⟩⟩, by simp [intOf]⟩
          | false =>
            go_wp2
            exact ⟨⟨k, by omega, by go_num, hide ⟨_, _, by rw [← hM2]; exact HD1.out.mono (by omega)⟩⟩, by simp [intOf]⟩
end Go.Proofs.YtkjioadmebkaoaaDoor
