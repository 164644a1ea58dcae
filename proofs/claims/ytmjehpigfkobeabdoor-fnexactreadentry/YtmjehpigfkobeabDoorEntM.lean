/- Rows of entries, each two numbers and a row of parts: sizes, comparisons, marks. Rows of entries are copied; servers: sizes, copies, comparisons, marks. Servers: sizes, copies, comparisons, marks. -/
import Derived.Test.YtmjehpigfkobeabDoorHistM
import Derived.Deep.RegionWith
set_option linter.unusedVariables false
namespace Go.Proofs.YtmjehpigfkobeabDoor
open Go.RowKit
open Doc1

/-- An entry. -/
structure En where
  cl : Int
  sq : Int
  op : List Pt

/-- How many marks the first of the entries take. -/
def mkV (l : List En) : Nat → Nat
  | 0 => 0
  | i + 1 => mkV l i + (match l[i]? with | some x => x.op.length * 3 + 2 | none => 0)
theorem mkV_succ (l : List En) (i : Nat) (h : i < l.length) : mkV l (i + 1) = mkV l i + (l[i].op.length * 3 + 2) := by
  show mkV l i + _ = _
  rw [List.getElem?_eq_getElem h]
theorem mkV_mono (l : List En) : ∀ i j, i ≤ j → mkV l i ≤ mkV l j
  | i, 0, h => by obtain rfl : i = 0 := by omega
                  exact Nat.le_refl _
  | i, j + 1, h => by
    by_cases e : i = j + 1
    · subst e; exact Nat.le_refl _
    · have := mkV_mono l i j (by omega)
      show _ ≤ mkV l j + _
      omega

/-- A row of entries in a block, the first k of them marked from K on. -/
structure EMo (K : Nat) (S : Nat → Prop) (w : World) (g off : Nat) (l : List En) (vs : Nat → Value) (k : Nat) : Prop where
  lt : g < w.heap.size
  inS : S g
  fz : ∀ j, w.frozen? ⟨g, j, none⟩ = false
  c : ∀ i, i < l.length → w.cell? ⟨g, off + i * 3 + 2, none⟩ = some (vs i)
  ua : ∀ i (h : i < l.length), k ≤ i → w.cell? ⟨g, off + i * 3, none⟩ = some (.int .i64 l[i].cl) ∧ w.cell? ⟨g, off + i * 3 + 1, none⟩ = some (.int .i64 l[i].sq)
  ma : ∀ i (h : i < l.length), i < k → w.cell? ⟨g, off + i * 3, none⟩ = some (.int .i64 ((K + mkV l i : Nat) : Int)) ∧ w.cell? ⟨g, off + i * 3 + 1, none⟩ = some (.int .i64 ((K + mkV l i : Nat) + 1 : Int))
  opS : ∀ i, i < l.length → ∀ y, (vs i).ownBlock = some y → S y ∧ y ≠ g
  dis : ∀ i j, i < j → j < l.length → ∀ y, (vs i).ownBlock = some y → (vs j).ownBlock ≠ some y
  mkd : ∀ i (h : i < l.length), i < k → PMq (K + mkV l i + 2) w (vs i) l[i].op.length
  op : ∀ i (h : i < l.length), k ≤ i → PR w (vs i) l[i].op
theorem EMo.keep {K k : Nat} {S : Nat → Prop} {w w1 : World} {g off : Nat} {l : List En} {vs : Nat → Value} (h : EMo K S w g off l vs k) (hs : w.heap.size ≤ w1.heap.size) (he : ∀ y, S y → y < w.heap.size → w1.heap[y]? = w.heap[y]?) : EMo K S w1 g off l vs k := by
  have e := he g h.inS h.lt
  exact {
    lt := Nat.lt_of_lt_of_le h.lt hs
    inS := h.inS
    fz := fun j => by rw [World.frozen?_of_block (a := ⟨g, j, none⟩) e]; exact h.fz j
    c := fun i hi => (World.cell?_of_block (a := ⟨g, off + i * 3 + 2, none⟩) e).trans (h.c i hi)
    ua := fun i hi hk => ⟨(World.cell?_of_block (a := ⟨g, off + i * 3, none⟩) e).trans (h.ua i hi hk).1, (World.cell?_of_block (a := ⟨g, off + i * 3 + 1, none⟩) e).trans (h.ua i hi hk).2⟩
    ma := fun i hi hk => ⟨(World.cell?_of_block (a := ⟨g, off + i * 3, none⟩) e).trans (h.ma i hi hk).1, (World.cell?_of_block (a := ⟨g, off + i * 3 + 1, none⟩) e).trans (h.ma i hi hk).2⟩
    opS := h.opS
    dis := h.dis
    mkd := fun i hi hk => (h.mkd i hi hk).keep hs (fun y hy => he y (h.opS i hi y hy).1)
    op := fun i hi hk => (h.op i hi hk).keep hs (fun y hy => he y (h.opS i hi y hy).1) }
theorem EMo.out {K k : Nat} {S S' : Nat → Prop} {w w1 : World} {g off : Nat} {l : List En} {vs : Nat → Value} (h : EMo K S w g off l vs k) (ho : Out S' w w1) (hd : ∀ y, S y → ¬ S' y) : EMo K S w1 g off l vs k :=
  h.keep ho.size (fun y hy hl => ho.block y hl (hd y hy))
theorem EMo.later {K k : Nat} {S : Nat → Prop} {w w1 : World} {g off : Nat} {l : List En} {vs : Nat → Value} (h : EMo K S w g off l vs k) (hb : Below w.heap.size w w1) : EMo K S w1 g off l vs k :=
  h.keep hb.size (fun y hy hl => hb.block y hl)
theorem EMo.wide {K k : Nat} {S T : Nat → Prop} {w : World} {g off : Nat} {l : List En} {vs : Nat → Value} (h : EMo K S w g off l vs k) (hs : ∀ y, S y → T y) : EMo K T w g off l vs k :=
  ⟨h.lt, hs g h.inS, h.fz, h.c, h.ua, h.ma, fun i hi y hy => ⟨hs y (h.opS i hi y hy).1, (h.opS i hi y hy).2⟩, h.dis, h.mkd, h.op⟩
theorem EMo.start {K K' : Nat} {S : Nat → Prop} {w : World} {g off : Nat} {l : List En} {vs : Nat → Value} (h : EMo K S w g off l vs 0) : EMo K' S w g off l vs 0 :=
  ⟨h.lt, h.inS, h.fz, h.c, h.ua, fun i hi hk => by omega, h.opS, h.dis, fun i hi hk => by omega, h.op⟩
/-- The two numbers of an entry are marked. -/
def set2 (w : World) (g at' X : Nat) : World := (w.setCell ⟨g, at', none⟩ (.int .i64 ((X : Nat) : Int))).setCell ⟨g, at' + 1, none⟩ (.int .i64 ((X : Nat) + 1 : Int))
theorem set2_size (w : World) (g at' X : Nat) : (set2 w g at' X).heap.size = w.heap.size := by simp [set2, World.setCell]
theorem set2_far (w : World) (g at' X : Nat) {y : Nat} (h : y ≠ g) : (set2 w g at' X).heap[y]? = w.heap[y]? := by
  unfold set2
  rw [Below.heap_setCell _ _ _ _ (by show y ≠ g; exact h), Below.heap_setCell _ _ _ _ (by show y ≠ g; exact h)]
theorem set2_out {S : Nat → Prop} (w : World) {g : Nat} (at' X : Nat) (h : S g) : Out S w (set2 w g at' X) :=
  ⟨rfl, rfl, rfl, by rw [set2_size]; exact Nat.le_refl _, fun k hk hn => set2_far _ _ _ _ (fun c => hn (c ▸ h))⟩
theorem EMo.step {K k X : Nat} {S : Nat → Prop} {w w1 : World} {g off : Nat} {l : List En} {vs : Nat → Value} (h : EMo K S w g off l vs k) (hk : k < l.length) (hX : X = K + mkV l k) (hg : (set2 w g (off + k * 3) X).grownBy w1 (vs k).ownBlock) (hm : PMq (X + 2) w1 (vs k) l[k].op.length) : EMo K S w1 g off l vs (k + 1) := by
  subst hX
  have hsz := set2_size w g (off + k * 3) (K + mkV l k)
  have hgs := hg.size
  rw [hsz] at hgs
  have far : ∀ y, (vs k).ownBlock ≠ some y → y ≠ g → y < w.heap.size → w1.heap[y]? = w.heap[y]? := fun y hy hyg hl => (hg.block y (by rw [hsz]; exact hl) (Ne.symm hy)).trans (set2_far _ _ _ _ hyg)
  have ng : (vs k).ownBlock ≠ some g := fun c => (h.opS k hk g c).2 rfl
  have eg : w1.heap[g]? = (set2 w g (off + k * 3) (K + mkV l k)).heap[g]? := hg.block g (by rw [hsz]; exact h.lt) (Ne.symm ng)
  have cel : ∀ j, j ≠ off + k * 3 → j ≠ off + k * 3 + 1 → w1.cell? ⟨g, j, none⟩ = w.cell? ⟨g, j, none⟩ := fun j h1 h2 => by
    rw [World.cell?_of_block (a := ⟨g, j, none⟩) eg]
    unfold set2
    rw [World.cell?_setCell_other _ _ _ _ (fun c => h2 (Addr.mk.inj c).2.1.symm), World.cell?_setCell_other _ _ _ _ (fun c => h1 (Addr.mk.inj c).2.1.symm)]
  have dk : ∀ i, i < l.length → i ≠ k → ∀ y, (vs i).ownBlock = some y → (vs k).ownBlock ≠ some y := fun i hi hne y hy c => by
    by_cases e : i < k
    · exact h.dis i k e hk y hy c
    · exact h.dis k i (by omega) hi y c hy
  exact {
    lt := Nat.lt_of_lt_of_le h.lt hgs
    inS := h.inS
    fz := fun j => by
      rw [World.frozen?_of_block (a := ⟨g, j, none⟩) eg]
      unfold set2
      rw [World.frozen?_setCell, World.frozen?_setCell]
      exact h.fz j
    c := fun i hi => (cel _ (by omega) (by omega)).trans (h.c i hi)
    ua := fun i hi hik => ⟨(cel _ (by omega) (by omega)).trans (h.ua i hi (by omega)).1, (cel _ (by omega) (by omega)).trans (h.ua i hi (by omega)).2⟩
    ma := fun i hi hik => by
      by_cases e : i = k
      · subst e
        obtain ⟨u1, u2⟩ := h.ua i hi (Nat.le_refl _)
        refine ⟨?_, ?_⟩
        · rw [World.cell?_of_block (a := ⟨g, off + i * 3, none⟩) eg]
          unfold set2
          rw [World.cell?_setCell_other _ _ _ _ (fun c => by have := (Addr.mk.inj c).2.1; omega)]
          exact World.cell?_setCell_same _ _ _ u1
        · rw [World.cell?_of_block (a := ⟨g, off + i * 3 + 1, none⟩) eg]
          unfold set2
          exact World.cell?_setCell_same _ _ _ ((World.cell?_setCell_other _ _ _ _ (fun c => by have := (Addr.mk.inj c).2.1; omega)).trans u2)
      · exact ⟨(cel _ (by omega) (by omega)).trans (h.ma i hi (by omega)).1, (cel _ (by omega) (by omega)).trans (h.ma i hi (by omega)).2⟩
    opS := h.opS
    dis := h.dis
    mkd := fun i hi hik => by
      by_cases e : i = k
      · subst e; exact hm
      · exact (h.mkd i hi (by omega)).keep hgs (fun y hy hl => far y (dk i hi e y hy) (h.opS i hi y hy).2 hl)
    op := fun i hi hik => (h.op i hi (by omega)).keep hgs (fun y hy hl => far y (dk i hi (by omega) y hy) (h.opS i hi y hy).2 hl) }

/-- A row of entries that can be read and marked; all its blocks are of a set. -/
def ER (S : Nat → Prop) (w : World) (v : Value) (l : List En) : Prop := (l = [] ∧ ∃ a cap, v = .slice a 0 cap) ∨ ∃ g off cap vs, v = .slice (some ⟨g, off, none⟩) l.length cap ∧ 0 < l.length ∧ l.length ≤ cap ∧ cap ≤ maxLen ∧ EMo 0 S w g off l vs 0
/-- A row of entries that is marked. -/
def EK (K : Nat) (S : Nat → Prop) (w : World) (v : Value) (l : List En) : Prop := (l = [] ∧ ∃ a cap, v = .slice a 0 cap) ∨ ∃ g off cap vs, v = .slice (some ⟨g, off, none⟩) l.length cap ∧ 0 < l.length ∧ l.length ≤ cap ∧ cap ≤ maxLen ∧ EMo K S w g off l vs l.length
theorem ER.out {S S' : Nat → Prop} {w w1 : World} {v : Value} {l : List En} (h : ER S w v l) (ho : Out S' w w1) (hd : ∀ y, S y → ¬ S' y) : ER S w1 v l :=
  h.imp id (fun ⟨g, off, cap, vs, e, h1, h2, h3, h4⟩ => ⟨g, off, cap, vs, e, h1, h2, h3, h4.out ho hd⟩)
theorem ER.later {S : Nat → Prop} {w w1 : World} {v : Value} {l : List En} (h : ER S w v l) (hb : Below w.heap.size w w1) : ER S w1 v l :=
  h.imp id (fun ⟨g, off, cap, vs, e, h1, h2, h3, h4⟩ => ⟨g, off, cap, vs, e, h1, h2, h3, h4.later hb⟩)
theorem ER.wide {S T : Nat → Prop} {w : World} {v : Value} {l : List En} (h : ER S w v l) (hs : ∀ y, S y → T y) : ER T w v l :=
  h.imp id (fun ⟨g, off, cap, vs, e, h1, h2, h3, h4⟩ => ⟨g, off, cap, vs, e, h1, h2, h3, h4.wide hs⟩)
theorem EK.out {K : Nat} {S S' : Nat → Prop} {w w1 : World} {v : Value} {l : List En} (h : EK K S w v l) (ho : Out S' w w1) (hd : ∀ y, S y → ¬ S' y) : EK K S w1 v l :=
  h.imp id (fun ⟨g, off, cap, vs, e, h1, h2, h3, h4⟩ => ⟨g, off, cap, vs, e, h1, h2, h3, h4.out ho hd⟩)
theorem EK.later {K : Nat} {S : Nat → Prop} {w w1 : World} {v : Value} {l : List En} (h : EK K S w v l) (hb : Below w.heap.size w w1) : EK K S w1 v l :=
  h.imp id (fun ⟨g, off, cap, vs, e, h1, h2, h3, h4⟩ => ⟨g, off, cap, vs, e, h1, h2, h3, h4.later hb⟩)
theorem ER.shp {S : Nat → Prop} {w : World} {v : Value} {l : List En} (h : ER S w v l) : ∃ a cap, v = .slice a l.length cap := by
  rcases h with ⟨rfl, a, c, rfl⟩ | ⟨g, off, c, vs, rfl, -⟩
  · exact ⟨a, c, rfl⟩
  · exact ⟨_, c, rfl⟩
theorem EK.shp {K : Nat} {S : Nat → Prop} {w : World} {v : Value} {l : List En} (h : EK K S w v l) : ∃ a cap, v = .slice a l.length cap := by
  rcases h with ⟨rfl, a, c, rfl⟩ | ⟨g, off, c, vs, rfl, -⟩
  · exact ⟨a, c, rfl⟩
  · exact ⟨_, c, rfl⟩
theorem ER.block {S : Nat → Prop} {w w1 : World} {v : Value} {l : List En} (h : ER S w v l) (hs : w.heap.size ≤ w1.heap.size) (he : ∀ y, S y → y < w.heap.size → w1.heap[y]? = w.heap[y]?) : ER S w1 v l :=
  h.imp id (fun ⟨g, off, cap, vs, e, h1, h2, h3, h4⟩ => ⟨g, off, cap, vs, e, h1, h2, h3, h4.keep hs he⟩)
theorem ER.set {S : Nat → Prop} {w : World} {v : Value} {l : List En} (h : ER S w v l) {b j : Nat} (hb : ¬ S b) (x : Value) : ER S (w.setCell ⟨b, j, none⟩ x) v l :=
  h.block (by simp [World.setCell]) (fun y hy _ => Below.heap_setCell _ _ _ _ (by show y ≠ b; intro c; subst c; exact hb hy))

/-- A slice of entries as it came in. -/
inductive ArgE (W : World) : Value → List En → Prop
  | nil (a : Option Addr) (cap : Nat) : ArgE W (.slice a 0 cap) []
  | row (b off cap : Nat) (l : List En) (vs : Nat → Value) (hb : b < W.heap.size) (hn : 0 < l.length) (hle : l.length ≤ cap) (hm : cap ≤ maxLen)
      (hc : ∀ i (h : i < l.length), W.cell? ⟨b, off + i * 3, none⟩ = some (.int .i64 l[i].cl) ∧ W.cell? ⟨b, off + i * 3 + 1, none⟩ = some (.int .i64 l[i].sq) ∧ W.cell? ⟨b, off + i * 3 + 2, none⟩ = some (vs i) ∧ ArgP W (vs i) l[i].op) :
      ArgE W (.slice (some ⟨b, off, none⟩) l.length cap) l
theorem ArgE.later {W W1 : World} {v : Value} {l : List En} (h : ArgE W v l) (hb : Below W.heap.size W W1) : ArgE W1 v l := by
  cases h with
  | nil a cap => exact .nil a cap
  | row b off cap l vs h1 h2 h3 h4 h5 => exact .row b off cap _ vs (Nat.lt_of_lt_of_le h1 hb.size) h2 h3 h4 (fun i hi => ⟨(World.cell?_of_block (a := ⟨b, off + i * 3, none⟩) (hb.block b h1)).trans (h5 i hi).1, (World.cell?_of_block (a := ⟨b, off + i * 3 + 1, none⟩) (hb.block b h1)).trans (h5 i hi).2.1, (World.cell?_of_block (a := ⟨b, off + i * 3 + 2, none⟩) (hb.block b h1)).trans (h5 i hi).2.2.1, (h5 i hi).2.2.2.later hb⟩)
theorem argE_len {w : World} {v : Value} {l : List En} (h : ArgE w v l) : l.length ≤ 9223372036854775807 := by
  cases h with
  | nil a cap => simp
  | row b off cap p vs h1 h2 h3 h4 h5 => unfold maxLen at h4; omega
theorem argE_shp {w : World} {v : Value} {l : List En} (h : ArgE w v l) : ∃ a cap, v = .slice a l.length cap := by
  cases h with
  | nil a cap => exact ⟨a, cap, rfl⟩
  | row b off cap p vs h1 h2 h3 h4 h5 => exact ⟨_, cap, rfl⟩

/-- How much the parts of entries take. -/
def szEU (l : List En) : Nat → Nat
  | 0 => 0
  | i + 1 => szEU l i + (match l[i]? with | some x => szPn x.op | none => 0)
theorem szEU_succ (l : List En) (i : Nat) (h : i < l.length) : szEU l (i + 1) = szEU l i + szPn l[i].op := by
  show szEU l i + _ = _
  rw [List.getElem?_eq_getElem h]
theorem szEU_mono (l : List En) : ∀ i j, i ≤ j → szEU l i ≤ szEU l j
  | i, 0, h => by obtain rfl : i = 0 := by omega
                  exact Nat.le_refl _
  | i, j + 1, h => by
    by_cases e : i = j + 1
    · subst e; exact Nat.le_refl _
    · have := szEU_mono l i j (by omega)
      show _ ≤ szEU l j + _
      omega
def szEn (l : List En) : Nat := l.length + szEU l l.length
theorem szE_each {l : List En} {B : Nat} (h : szEn l ≤ B) : l.length ≤ B ∧ ∀ i (hi : i < l.length), szPn l[i].op ≤ B := by
  unfold szEn at h
  refine ⟨by omega, fun i hi => ?_⟩
  have h1 := szEU_succ l i hi
  have h2 := szEU_mono l (i + 1) l.length hi
  omega
theorem mkV_sz (l : List En) : ∀ i, i ≤ l.length → mkV l i ≤ szEU l i * 3 + 2 * i
  | 0, _ => Nat.le_refl _
  | i + 1, h => by
    have h1 := mkV_sz l i (by omega)
    have h2 := szEU_succ l i h
    have h3 := mkV_succ l i h
    have h4 := szPn_len l[i].op
    omega
/-- How many marks the whole takes. -/
def mkNE (l : List En) : Nat := mkV l l.length
theorem mkNE_sz (l : List En) : mkNE l ≤ szEn l * 5 := by
  have := mkV_sz l l.length (Nat.le_refl _)
  unfold mkNE szEn
  omega
def BdE (l : List En) : Prop := l.length ≤ 10000000 ∧ ∀ i (hi : i < l.length), l[i].op.length ≤ 10000000
theorem bdE_of {l : List En} (h : szEn l ≤ 1048576) : BdE l := by
  obtain ⟨h1, h2⟩ := szE_each h
  exact ⟨by omega, fun i hi => by have := h2 i hi; have := szPn_len l[i].op; omega⟩

set_option maxHeartbeats 1000000 in
theorem szEntry_any (c s : Int) (v : Value) (l : List Pt) (left : Nat) (w : World) (hl : left ≤ 1048576) (hv : ArgP w v l) (ht : ThinP l) :
    Calls Tryd.prog 63 #[.agg #[.int .i64 c, .int .i64 s, v], .int .i64 (left : Int)] w fun e w' => e = .returned (.int .i64 (if szPn l ≤ left then ((left - szPn l : Nat) : Int) else -1)) ∧ Below w.heap.size w w' := by
  have hb1 : Below w.heap.size w (w.alloc (.cells #[.int .i64 c, .int .i64 s, v] 94)) := (Below.refl _ _).alloc (Nat.le_refl _) _
  have H := hide (szP_from (hv.later hb1) ht (argP_len hv) left hl)
  obtain ⟨a, ca, ev⟩ := argP_shp hv
  subst ev
  have HB := hide hb1
  clear hb1 hv ht
  by_cases hq : szPn l ≤ left
  · rw [if_pos hq] at H ⊢
    obtain ⟨K, hKe⟩ : ∃ K : Nat, left - szPn l = K := ⟨_, rfl⟩
    rw [hKe] at H ⊢
    have hK : decide ((K : Int) < 0) = false := by rw [decide_eq_false_iff_not]; omega
    clear hKe hq
    go_enter Tryd.func63, Tryd.ntmps63
    go_wp2_with fail
    refine H.out.mono ?_
    rintro e w2 ⟨rfl, hb2⟩
    have HB2 : Hid (Below w.heap.size w w2) := hide (HB.out.trans (hb2.mono (by simp)))
    clear hb2
    go_wp2
    go_ret
    exact ⟨rfl, HB2.out⟩
  · rw [if_neg hq] at H ⊢
    clear hq
    go_enter Tryd.func63, Tryd.ntmps63
    go_wp2_with fail
    refine H.out.mono ?_
    rintro e w2 ⟨rfl, hb2⟩
    have HB2 : Hid (Below w.heap.size w w2) := hide (HB.out.trans (hb2.mono (by simp)))
    clear hb2
    go_wp2
    go_ret
    exact ⟨rfl, HB2.out⟩

set_option maxHeartbeats 2000000 in
/-- Too many parts and letters are told by -1. -/
theorem szE_from {w : World} {v : Value} {l : List En} (h : ArgE w v l) (hs : ∀ i (hi : i < l.length), ThinP l[i].op) (left : Nat) (hlf : left ≤ 1048576) :
    Calls Tryd.prog 33 #[v, .int .i64 (left : Int)] w fun e w' => e = .returned (.int .i64 (if szEn l ≤ left then ((left - szEn l : Nat) : Int) else -1)) ∧ Below w.heap.size w w' := by
  have hm := argE_len h
  cases h with
  | nil a cap =>
    have e0 : (if szEn ([] : List En) ≤ left then ((left - szEn ([] : List En) : Nat) : Int) else -1) = left := by simp [szEn, szEU]
    rw [e0]
    go_enter Tryd.func33, Tryd.ntmps33
    go_wp2
    go_loop [1, 5] (fun k i => k = .int .i64 (left : Int) ∧ i = .int .i64 0) (fun _ _ => 0)
    case atStart => exact ⟨rfl, rfl⟩
    case round =>
      obtain ⟨rfl, rfl⟩ := hrel
      go_wp2
      go_ret
      exact ⟨rfl, Below.refl _ _⟩
  | row b off cap l vs hb hn hle hmx hc =>
    have Hc := hide hc
    have Hs := hide hs
    clear hc hs
    obtain ⟨R, hR⟩ : ∃ R : Int, R = if szEn l ≤ left then ((left - szEn l : Nat) : Int) else -1 := ⟨_, rfl⟩
    rw [← hR]
    unfold szEn at hR
    have HR := hide hR
    clear hR
    by_cases hbig : l.length ≤ left
    · go_enter Tryd.func33, Tryd.ntmps33
      go_wp2
      go_loopw [1, 5] (fun k i wr => ∃ m : Nat, i = .int .i64 m ∧ m ≤ l.length ∧ l.length + szEU l m ≤ left ∧ k = .int .i64 ((left - (l.length + szEU l m) : Nat) : Int) ∧ Below w.heap.size w wr) (fun _ i _ => l.length - (intOf i).toNat)
      case atStart => exact ⟨0, rfl, Nat.zero_le _, by show l.length + 0 ≤ _; omega, by rw [show ((left - (l.length + szEU l 0) : Nat) : Int) = (left : Int) - (l.length : Int) by show ((left - (l.length + 0) : Nat) : Int) = _; omega], Below.refl _ _⟩
      case round =>
        obtain ⟨m, rfl, hm1, hm2, rfl, hbel⟩ := hrel
        by_cases hlt : m < l.length
        · obtain ⟨c0, c1, c2, c3⟩ := Hc.out m hlt
          have d0 := (World.cell?_of_block (a := ⟨b, off + m * 3, none⟩) (hbel.block b hb)).trans c0
          have d1 := (World.cell?_of_block (a := ⟨b, off + m * 3 + 1, none⟩) (hbel.block b hb)).trans c1
          have d2 := (World.cell?_of_block (a := ⟨b, off + m * 3 + 2, none⟩) (hbel.block b hb)).trans c2
          have S := hide (szEntry_any l[m].cl l[m].sq (vs m) l[m].op (left - (l.length + szEU l m)) wr (by omega) (c3.later hbel) (Hs.out m hlt))
          have hsu := szEU_succ l m hlt
          have hmo := szEU_mono l (m + 1) l.length (by omega)
          clear c0 c1 c2 c3
          by_cases hfit : szPn l[m].op ≤ left - (l.length + szEU l m)
          · rw [if_pos hfit] at S
            have e1 : left - (l.length + szEU l m) - szPn l[m].op = left - (l.length + szEU l (m + 1)) := by omega
            rw [e1] at S
            have hm3 : l.length + szEU l (m + 1) ≤ left := by omega
            obtain ⟨x, hx⟩ : ∃ x, x = left - (l.length + szEU l (m + 1)) := ⟨_, rfl⟩
            rw [← hx] at S
            have Hx := hide hx
            clear hx hsu e1
            go_wp2_with fail
            refine S.out.mono ?_
            rintro e w2 ⟨rfl, hb2⟩
            go_wp2
            refine ⟨⟨m + 1, by go_num, by omega, hm3, by rw [Hx.out], hbel.trans (hb2.mono hbel.size)⟩, by simp [intOf]; omega⟩
          · rw [if_neg hfit] at S
            have hno : ¬ l.length + szEU l l.length ≤ left := by omega
            have Hno := hide hno
            clear hsu hmo hno
            go_wp2_with fail
            refine S.out.mono ?_
            rintro e w2 ⟨rfl, hb2⟩
            go_wp2
            go_ret
            refine ⟨ret_c ?_, hbel.trans (hb2.mono hbel.size)⟩
            rw [HR.out, if_neg Hno.out]
        · obtain rfl : m = l.length := by omega
          go_wp2
          go_ret
          refine ⟨ret_c ?_, hbel⟩
          rw [HR.out, if_pos hm2]
    · go_enter Tryd.func33, Tryd.ntmps33
      go_wp2
      go_ret
      refine ⟨ret_c ?_, Below.refl _ _⟩
      rw [HR.out, if_neg (by omega)]

set_option maxHeartbeats 2000000 in
theorem eqEntry_r {w : World} {va vb : Value} {l : List Pt} (c s : Int) (ha : PR w va l) (hb : PR w vb l) (hm : l.length ≤ 10000000) :
    Calls Tryd.prog 8 #[.agg #[.int .i64 c, .int .i64 s, va], .agg #[.int .i64 c, .int .i64 s, vb]] w fun e w' => e = .returned (.bool true) ∧ Below w.heap.size w w' := by
  obtain ⟨aa, ca, ea⟩ := ha.shp
  obtain ⟨ab, cb, eb⟩ := hb.shp
  have H : Hid (∀ x y : Obj, Calls Tryd.prog 30 #[va, vb] ((w.alloc x).alloc y) fun e w' => e = .returned (.bool true) ∧ Below w.heap.size w w') := hide (fun x y => by
    have hb0 : Below w.heap.size w ((w.alloc x).alloc y) := ((Below.refl _ _).alloc (Nat.le_refl _) _).alloc (by simp) _
    refine (eqP_r (ha.later hb0) (hb.later hb0) hm).mono ?_
    rintro e w' ⟨rfl, h⟩
    exact ⟨rfl, hb0.trans (h.mono hb0.size)⟩)
  subst ea eb
  clear ha hb
  go_enter Tryd.func8, Tryd.ntmps8
  go_wp2_with fail
  refine (H.out _ _).mono ?_
  rintro e w2 ⟨rfl, hb2⟩
  have HB := hide hb2
  clear hb2
  go_wp2
  go_ret
  exact ⟨rfl, HB.out⟩

set_option maxHeartbeats 2000000 in
theorem eqE_r {S T : Nat → Prop} {w : World} {va vb : Value} {l : List En} (ha : ER S w va l) (hb : ER T w vb l) (hl : l.length ≤ 10000000) (hm : ∀ i (hi : i < l.length), l[i].op.length ≤ 10000000) :
    Calls Tryd.prog 43 #[va, vb] w fun e w' => e = .returned (.bool true) ∧ Below w.heap.size w w' := by
  rcases Nat.eq_zero_or_pos l.length with h0 | h0
  · obtain rfl := List.eq_nil_of_length_eq_zero h0
    obtain ⟨aa, ca, rfl⟩ := ha.shp
    obtain ⟨ab, cb, rfl⟩ := hb.shp
    clear ha hb
    simp only [List.length_nil]
    go_enter Tryd.func43, Tryd.ntmps43
    go_wp2
    go_loop [5] (fun i => i = .int .i64 0) (fun _ => 0)
    case atStart => rfl
    case round =>
      subst hrel
      go_wp2
      go_ret
      exact ⟨rfl, Below.refl _ _⟩
  · rcases ha with ⟨c, -⟩ | ⟨ga, oa, ca, vsa, rfl, -, a1, a2, a3⟩
    · rw [c] at h0; exact absurd h0 (by simp)
    rcases hb with ⟨c, -⟩ | ⟨gb, ob, cb, vsb, rfl, -, b1, b2, b3⟩
    · rw [c] at h0; exact absurd h0 (by simp)
    have HA := hide a3
    have HB := hide b3
    have HE := hide hm
    clear a3 b3 hm
    go_enter Tryd.func43, Tryd.ntmps43
    go_wp2
    go_loopw [5] (fun i wr => ∃ k : Nat, k ≤ l.length ∧ i = .int .i64 k ∧ Below w.heap.size w wr) (fun i _ => l.length - (intOf i).toNat)
    case atStart => exact ⟨0, by omega, rfl, Below.refl _ _⟩
    case round =>
      obtain ⟨k, hk, rfl, hbel⟩ := hrel
      by_cases hlt : k < l.length
      · have hA := HA.out.later hbel
        have hB := HB.out.later hbel
        have a2 := hA.c k hlt
        have b2 := hB.c k hlt
        obtain ⟨a0, a1⟩ := hA.ua k hlt (Nat.zero_le _)
        obtain ⟨b0, b1⟩ := hB.ua k hlt (Nat.zero_le _)
        have E := hide (fun w' (h : Below wr.heap.size wr w') => eqEntry_r l[k].cl l[k].sq ((hA.op k hlt (Nat.zero_le _)).later h) ((hB.op k hlt (Nat.zero_le _)).later h) (HE.out k hlt))
        clear hA hB
        go_wp2_with fail
        go_region_with (go_at_call 8; refine (E.out _ (Below.refl _ _).drew).mono ?_; rintro e w' ⟨rfl, hb'⟩)
        all_goals
          go_wp2
          go_roundw
          case rel => exact ⟨k + 1, by omega, by go_num, hbel.trans ((Below.refl _ _).drew.trans (hb'.mono (show w.heap.size ≤ wr.drew.heap.size from hbel.size)))⟩
          case measure => simp [intOf]; omega
      · go_wp2
        go_ret
        exact ⟨rfl, hbel⟩

set_option maxHeartbeats 4000000 in
theorem markE_r {S : Nat → Prop} {w : World} {v : Value} {l : List En} (h : ER S w v l) (hl : l.length ≤ 10000000) (hm : ∀ i (hi : i < l.length), l[i].op.length ≤ 10000000) (K : Nat) (hK : 0 < K ∧ K + mkNE l ≤ 500000000) :
    Calls Tryd.prog 51 #[v, .int .i64 (K : Int)] w fun e w' => e = .returned (.int .i64 (K + mkNE l : Nat)) ∧ Out S w w' ∧ EK K S w' v l := by
  rcases h with ⟨rfl, a, c, rfl⟩ | ⟨g, off, cap, vs, rfl, h0, a1, a2, a3⟩
  · have e0 : K + mkNE ([] : List En) = K := rfl
    rw [e0]
    go_enter Tryd.func51, Tryd.ntmps51
    go_wp2
    go_loop [1, 5] (fun k i => k = .int .i64 (K : Int) ∧ i = .int .i64 0) (fun _ _ => 0)
    case atStart => exact ⟨rfl, rfl⟩
    case round =>
      obtain ⟨rfl, rfl⟩ := hrel
      go_wp2
      go_ret
      exact ⟨rfl, Out.refl _ _, .inl ⟨rfl, a, c, rfl⟩⟩
  · have H0 := hide (a3.start (K' := K))
    have HE := hide hm
    have HM := hide (mkV_mono l)
    have HN : Hid (K + mkV l l.length ≤ 500000000) := hide hK.2
    have HK := hide hK.1
    clear a3 hm hK
    unfold mkNE
    go_enter Tryd.func51, Tryd.ntmps51
    go_wp2
    go_loopw [1, 5] (fun k1 i wr => ∃ k : Nat, k ≤ l.length ∧ i = .int .i64 k ∧ k1 = .int .i64 (K + mkV l k : Nat) ∧ Out S w wr ∧ EMo K S wr g off l vs k) (fun _ i _ => l.length - (intOf i).toNat)
    case atStart => exact ⟨0, by omega, rfl, rfl, Out.refl _ _, H0.out⟩
    case round =>
      obtain ⟨k, hk, rfl, rfl, ho, hd⟩ := hrel
      by_cases hlt : k < l.length
      · have c2 := hd.c k hlt
        obtain ⟨c0, c1⟩ := hd.ua k hlt (Nat.le_refl _)
        have f0 := hd.fz (off + k * 3)
        have f1 := hd.fz (off + k * 3 + 1)
        have hsu := mkV_succ l k hlt
        have hmo := HM.out (k + 1) l.length (by omega)
        obtain ⟨X, hX⟩ : ∃ X : Nat, X = K + mkV l k := ⟨_, rfl⟩
        rw [← hX]
        have hXm : X ≤ 500000000 := by have := HN.out; omega
        have pr1 : PR (set2 wr g (off + k * 3) X) (vs k) l[k].op := (hd.op k hlt (Nat.le_refl _)).keep (by rw [set2_size]; exact Nat.le_refl _) (fun y hy hl => set2_far _ _ _ _ (hd.opS k hlt y hy).2)
        have M := hide (markP_r pr1 (HE.out k hlt) (X + 2) ⟨by omega, by have := HN.out; omega⟩)
        have hX2 : K + mkV l (k + 1) = X + 2 + l[k].op.length * 3 := by omega
        have HX := hide hX
        have HX2 := hide hX2
        have HD := hide hd
        have HO := hide ho
        obtain ⟨a, c, ea⟩ := (hd.op k hlt (Nat.le_refl _)).shp
        obtain ⟨W2, hW2⟩ : ∃ W, W = set2 wr g (off + k * 3) X := ⟨_, rfl⟩
        rw [← hW2] at M
        have d2 : W2.cell? ⟨g, off + k * 3 + 2, none⟩ = some (vs k) := by
          rw [hW2]
          unfold set2
          rw [World.cell?_setCell_other _ _ _ _ (fun c => by have := (Addr.mk.inj c).2.1; omega), World.cell?_setCell_other _ _ _ _ (fun c => by have := (Addr.mk.inj c).2.1; omega)]
          exact c2
        have HW2 := hide hW2
        unfold set2 at hW2
        rw [show ((X + 2 : Nat) : Int) = (X : Int) + 1 + 1 by omega] at M
        clear hsu hmo hX hX2 hd ho pr1
        go_wp2_with fail
        rw [← hW2]
        clear hW2 c0 c1 c2 f0 f1
        rw [ea] at M d2
        go_wp2_with fail
        refine M.out.mono ?_
        rintro e w2 ⟨rfl, hg2, hq2⟩
        rw [← ea] at hg2 hq2
        rw [HW2.out] at hg2
        have A := hide (HD.out.step hlt HX.out hg2 hq2)
        have B := hide (HO.out.trans ((set2_out wr (off + k * 3) X HD.out.inS).trans (Out.grown hg2 (fun y hy => (HD.out.opS k hlt y hy).1))))
        clear hg2 hq2 d2
        go_wp2
        refine ⟨⟨k + 1, by omega, by go_num, by rw [HX2.out]; simp, B.out, A.out⟩, by simp [intOf]; omega⟩
      · obtain rfl : k = l.length := by omega
        go_wp2
        go_ret
        exact ⟨rfl, ho, .inr ⟨g, off, cap, vs, rfl, h0, a1, a2, hd⟩⟩

set_option maxHeartbeats 2000000 in
theorem heldE_q {S : Nat → Prop} {w : World} {v : Value} {l : List En} {K : Nat} (h : EK K S w v l) (hl : l.length ≤ 10000000) (hm : ∀ i (hi : i < l.length), l[i].op.length ≤ 10000000) (hK : 0 < K ∧ K + mkNE l ≤ 500000000) :
    Calls Tryd.prog 52 #[v, .int .i64 (K : Int)] w fun e w' => e = .returned (.int .i64 (K + mkNE l : Nat)) ∧ Below w.heap.size w w' := by
  rcases h with ⟨rfl, a, c, rfl⟩ | ⟨g, off, cap, vs, rfl, h0, a1, a2, a3⟩
  · have e0 : K + mkNE ([] : List En) = K := rfl
    rw [e0]
    go_enter Tryd.func52, Tryd.ntmps52
    go_wp2
    go_loop [1, 5] (fun k i => k = .int .i64 (K : Int) ∧ i = .int .i64 0) (fun _ _ => 0)
    case atStart => exact ⟨rfl, rfl⟩
    case round =>
      obtain ⟨rfl, rfl⟩ := hrel
      go_wp2
      go_ret
      exact ⟨rfl, Below.refl _ _⟩
  · have H0 := hide a3
    have HE := hide hm
    have HM := hide (mkV_mono l)
    have HN : Hid (K + mkV l l.length ≤ 500000000) := hide hK.2
    have HK := hide hK.1
    clear a3 hm hK
    unfold mkNE
    go_enter Tryd.func52, Tryd.ntmps52
    go_wp2
    go_loopw [1, 5] (fun k1 i wr => ∃ k : Nat, k ≤ l.length ∧ i = .int .i64 k ∧ k1 = .int .i64 (K + mkV l k : Nat) ∧ Below w.heap.size w wr) (fun _ i _ => l.length - (intOf i).toNat)
    case atStart => exact ⟨0, by omega, rfl, rfl, Below.refl _ _⟩
    case round =>
      obtain ⟨k, hk, rfl, rfl, hbel⟩ := hrel
      by_cases hlt : k < l.length
      · have hd := H0.out.later hbel
        have c2 := hd.c k hlt
        obtain ⟨c0, c1⟩ := hd.ma k hlt hlt
        have hsu := mkV_succ l k hlt
        have hmo := HM.out (k + 1) l.length (by omega)
        have hq := hd.mkd k hlt hlt
        obtain ⟨X, hX⟩ : ∃ X : Nat, X = K + mkV l k := ⟨_, rfl⟩
        rw [← hX] at hq c0 c1 ⊢
        have hXm : X ≤ 500000000 := by have := HN.out; omega
        have M := hide (heldP_q hq (HE.out k hlt) ⟨by omega, by have := HN.out; omega⟩)
        have hX2 : K + mkV l (k + 1) = X + 2 + l[k].op.length * 3 := by omega
        have hpos : decide (((X + 2 + l[k].op.length * 3 : Nat) : Int) < 0) = false := by rw [decide_eq_false_iff_not]; omega
        obtain ⟨Y, hY⟩ : ∃ Y : Int, ((X + 2 + l[k].op.length * 3 : Nat) : Int) = Y := ⟨_, rfl⟩
        rw [hY] at M hpos
        rw [show ((X + 2 : Nat) : Int) = (X : Int) + 1 + 1 by omega] at M
        have HX2 := hide hX2
        have HY := hide hY
        obtain ⟨a, n, c, ea⟩ : ∃ a n c, vs k = .slice a n c := by
          rcases hq with ⟨-, a, c, e⟩ | ⟨g', c, e, -⟩
          · exact ⟨a, 0, c, e⟩
          · exact ⟨_, _, c, e⟩
        rw [ea] at c2 M
        clear hsu hmo hX hX2 hd hq hY
        go_wp2_with fail
        refine M.out.mono ?_
        rintro e w2 ⟨rfl, hb2⟩
        have B := hide (hbel.trans (hb2.mono hbel.size))
        clear hb2 c0 c1 c2
        go_wp2
        refine ⟨⟨k + 1, by omega, by go_num, by rw [HX2.out, HY.out], B.out⟩, by simp [intOf]; omega⟩
      · obtain rfl : k = l.length := by omega
        go_wp2
        go_ret
        exact ⟨rfl, hbel⟩
end Go.Proofs.YtmjehpigfkobeabDoor

set_option linter.unusedVariables false
namespace Go.Proofs.YtmjehpigfkobeabDoor
open Go.RowKit
open Doc1

theorem Tryd.sizeEntry : (Tryd.prog.info? 24).map (·.size) = some 3 := by kernel_rfl

set_option maxRecDepth 100000 in
set_option maxHeartbeats 4000000 in
theorem toEntry_cp {w : World} {v : Value} {l : List Pt} (x s : Int) (h : ArgP w v l) (hm : l.length ≤ 2000000) :
    Calls Tryd.prog 66 #[.agg #[.int .i64 x, .int .i64 s, v]] w fun e w' => ∃ g, e = .returned (.agg #[.int .i64 x, .int .i64 s, .slice (some ⟨g, 0, none⟩) l.length l.length]) ∧ w.heap.size ≤ g ∧ PCp w' g l ∧ Below w.heap.size w w' := by
  obtain ⟨a, c, ev⟩ := argP_shp h
  subst ev
  obtain ⟨w1, hw1⟩ : ∃ w1, w1 = ((w.alloc (.cells #[.int .i64 x, .int .i64 s, .slice a l.length c] 94)).alloc (.cells #[.int .i64 0, .int .i64 0, .slice none 0 0] 24)).alloc (.cells #[.int .i64 x, .int .i64 s, .slice none 0 0] 24) := ⟨_, rfl⟩
  have hs1 : w1.heap.size = w.heap.size + 3 := by rw [hw1]; simp
  have hbw : Below w.heap.size w w1 := by rw [hw1]; exact (((Below.refl _ _).alloc (Nat.le_refl _) _).alloc (by simp) _).alloc (by simp; omega) _
  obtain ⟨p1, p2, -, -⟩ := cb_two w #[.int .i64 x, .int .i64 s, .slice a l.length c] #[.int .i64 0, .int .i64 0, .slice none 0 0] 94 24
  have hup : Below (w.heap.size + 2) ((w.alloc (.cells #[.int .i64 x, .int .i64 s, .slice a l.length c] 94)).alloc (.cells #[.int .i64 0, .int .i64 0, .slice none 0 0] 24)) w1 := by
    rw [hw1]; exact (Below.refl _ _).alloc (by simp) _
  have b1 : CB w1 (w.heap.size + 1) #[.int .i64 0, .int .i64 0, .slice none 0 0] := p2.block (hup.block _ (by omega))
  have b2 : CB w1 (w.heap.size + 1 + 1) #[.int .i64 x, .int .i64 s, .slice none 0 0] := by
    rw [hw1]
    have := CB.new ((w.alloc (.cells #[.int .i64 x, .int .i64 s, .slice a l.length c] 94)).alloc (.cells #[.int .i64 0, .int .i64 0, .slice none 0 0] 24)) #[.int .i64 x, .int .i64 s, .slice none 0 0] 24
    rw [World.size_alloc, World.size_alloc] at this
    exact this
  have H := hide (toP_cp (h.later hbw) hm)
  have HB := hide hbw
  have HC1 := hide b1
  have HC2 := hide b2
  clear h hbw b1 b2 p1 p2 hup
  go_enter Tryd.func66, Tryd.ntmps66
  go_wp2_with fail
  rw [← hw1]
  clear hw1
  refine H.out.mono ?_
  rintro e w2 ⟨rfl, hcp, hb2⟩
  have HB2 : Hid (Below w.heap.size w w2) := hide (HB.out.trans (hb2.mono HB.out.size))
  have HD1 := hide (HC1.out.later hb2)
  have HD2 := hide (HC2.out.later hb2)
  rw [hs1] at hcp ⊢
  obtain ⟨V, hV⟩ : ∃ V : Value, V = .slice (some ⟨w.heap.size + 3, 0, none⟩) l.length l.length := ⟨_, rfl⟩
  have i1 := HD2.out.cell 2 rfl
  have i2 := HD2.out.fz 2
  have l2 := HD2.out.set 2 (.slice (some ⟨w.heap.size + 3, 0, none⟩) l.length l.length) rfl
  have l1 := HD1.out.other (d := w.heap.size + 1 + 1) (by omega) 2 (.slice (some ⟨w.heap.size + 3, 0, none⟩) l.length l.length)
  have g0 := l2.cell 0 rfl
  have g1 := l2.cell 1 rfl
  have g2 := l2.cell 2 rfl
  have m0 := l1.cell 0 rfl
  have z0 := l1.fz 0
  have o0 := l1.set 0 (.int .i64 x) rfl
  have n1 := o0.cell 1 rfl
  have z1 := o0.fz 1
  have o1 := o0.set 1 (.int .i64 s) rfl
  have n2 := o1.cell 2 rfl
  have z2 := o1.fz 2
  have o2 := hide (o1.set 2 (.slice (some ⟨w.heap.size + 3, 0, none⟩) l.length l.length) rfl)
  have HCP := hide hcp
  simp only [List.getElem_toArray, List.getElem_cons_succ, List.getElem_cons_zero] at i1 g0 g1 g2 m0 n1 n2
  clear hcp hb2 l1 l2 o0 o1
  go_wp2
  obtain ⟨tt, htt⟩ := o2.out
  refine bodyPost_ret (results_cell_row rfl _ _ (w.heap.size + 1) _ _ (0, 0) _ rfl htt Tryd.underlying24 rfl Tryd.sizeEntry) rfl ?_
  refine ⟨w.heap.size + 3, rfl, by omega, ?_, (((HB2.out.setCell (p := ⟨w.heap.size + 1 + 1, 2, none⟩) (by show w.heap.size ≤ w.heap.size + 1 + 1; omega) _).setCell (p := ⟨w.heap.size + 1, 0, none⟩) (by show w.heap.size ≤ w.heap.size + 1; omega) _).setCell (p := ⟨w.heap.size + 1, 1, none⟩) (by show w.heap.size ≤ w.heap.size + 1; omega) _).setCell (p := ⟨w.heap.size + 1, 2, none⟩) (by show w.heap.size ≤ w.heap.size + 1; omega) _⟩
  exact (((HCP.out.block (by simp [World.setCell]) (Below.heap_setCell _ _ _ _ (by show w.heap.size + 3 ≠ w.heap.size + 1 + 1; omega))).block (by simp [World.setCell]) (Below.heap_setCell _ _ _ _ (by show w.heap.size + 3 ≠ w.heap.size + 1; omega))).block (by simp [World.setCell]) (Below.heap_setCell _ _ _ _ (by show w.heap.size + 3 ≠ w.heap.size + 1; omega))).block (by simp [World.setCell]) (Below.heap_setCell _ _ _ _ (by show w.heap.size + 3 ≠ w.heap.size + 1; omega))

/-- Three cells of a row of entries are written. -/
def set3 (w : World) (g at' : Nat) (x s : Int) (v : Value) : World := ((w.setCell ⟨g, at', none⟩ (.int .i64 x)).setCell ⟨g, at' + 1, none⟩ (.int .i64 s)).setCell ⟨g, at' + 2, none⟩ v
theorem set3_size (w : World) (g at' : Nat) (x s : Int) (v : Value) : (set3 w g at' x s v).heap.size = w.heap.size := by simp [set3, World.setCell]
theorem set3_far (w : World) (g at' : Nat) (x s : Int) (v : Value) {y : Nat} (h : y ≠ g) : (set3 w g at' x s v).heap[y]? = w.heap[y]? := by
  unfold set3
  rw [Below.heap_setCell _ _ _ _ (by show y ≠ g; exact h), Below.heap_setCell _ _ _ _ (by show y ≠ g; exact h), Below.heap_setCell _ _ _ _ (by show y ≠ g; exact h)]
theorem set3_cell (w : World) (g at' : Nat) (x s : Int) (v : Value) {j : Nat} (h0 : j ≠ at') (h1 : j ≠ at' + 1) (h2 : j ≠ at' + 2) : (set3 w g at' x s v).cell? ⟨g, j, none⟩ = w.cell? ⟨g, j, none⟩ := by
  unfold set3
  rw [World.cell?_setCell_other _ _ _ _ (fun c => h2 (Addr.mk.inj c).2.1.symm), World.cell?_setCell_other _ _ _ _ (fun c => h1 (Addr.mk.inj c).2.1.symm), World.cell?_setCell_other _ _ _ _ (fun c => h0 (Addr.mk.inj c).2.1.symm)]
theorem set3_at {w : World} {g at' n : Nat} (x s : Int) (v : Value) (hb : Blk w g n) (hn : at' + 2 < n) : (set3 w g at' x s v).cell? ⟨g, at', none⟩ = some (.int .i64 x) ∧ (set3 w g at' x s v).cell? ⟨g, at' + 1, none⟩ = some (.int .i64 s) ∧ (set3 w g at' x s v).cell? ⟨g, at' + 2, none⟩ = some v := by
  obtain ⟨x0, y0⟩ := hb.ex at' (by omega)
  have hb1 := hb.set at' (.int .i64 x)
  obtain ⟨x1, y1⟩ := hb1.ex (at' + 1) (by omega)
  have hb2 := hb1.set (at' + 1) (.int .i64 s)
  obtain ⟨x2, y2⟩ := hb2.ex (at' + 2) (by omega)
  unfold set3
  refine ⟨?_, ?_, World.cell?_setCell_same _ _ _ y2⟩
  · rw [World.cell?_setCell_other _ _ _ _ (fun c => by have := (Addr.mk.inj c).2.1; omega), World.cell?_setCell_other _ _ _ _ (fun c => by have := (Addr.mk.inj c).2.1; omega)]
    exact World.cell?_setCell_same _ _ _ y0
  · rw [World.cell?_setCell_other _ _ _ _ (fun c => by have := (Addr.mk.inj c).2.1; omega)]
    exact World.cell?_setCell_same _ _ _ y1

/-- While entries are copied. -/
structure EW (w : World) (l : List En) (k : Nat) (wr : World) : Prop where
  blk : Blk wr w.heap.size (l.length * 3)
  below : Below w.heap.size w wr
  lt : w.heap.size < wr.heap.size
  c : ∃ gs : Nat → Nat, (∀ i (h : i < l.length), i < k → wr.cell? ⟨w.heap.size, i * 3, none⟩ = some (.int .i64 l[i].cl) ∧ wr.cell? ⟨w.heap.size, i * 3 + 1, none⟩ = some (.int .i64 l[i].sq) ∧ wr.cell? ⟨w.heap.size, i * 3 + 2, none⟩ = some (.slice (some ⟨gs i, 0, none⟩) l[i].op.length l[i].op.length) ∧ PCp wr (gs i) l[i].op ∧ w.heap.size < gs i) ∧ ∀ i j, i < j → j < k → gs i < gs j
theorem ew_start {w : World} {l : List En} {C : Array Value} {t : TypeId} (hC : C.size = l.length * 3) : EW w l 0 (w.alloc (.cells C t)) where
  blk := ⟨fun j hj => ⟨C[j]'(by omega), by rw [cell_of_row _ w.heap.size j C t (0, 0) (heap_alloc_new w _)]; simp [hC, hj]⟩, fun j => World.frozen?_alloc_new _ _ _ _⟩
  below := (Below.refl _ _).alloc (Nat.le_refl _) _
  lt := by simp
  c := ⟨fun _ => 0, fun i _ hi => by omega, fun i j _ hj => by omega⟩
theorem EW.later {w wr w2 : World} {l : List En} {k : Nat} (h : EW w l k wr) (hb : Below wr.heap.size wr w2) : EW w l k w2 where
  blk := h.blk.later hb h.lt
  below := h.below.trans (hb.mono h.below.size)
  lt := Nat.lt_of_lt_of_le h.lt hb.size
  c := by
    obtain ⟨gs, hc, hr⟩ := h.c
    refine ⟨gs, fun i hi hk => ?_, hr⟩
    obtain ⟨h0, h1, h2, h3, h4⟩ := hc i hi hk
    exact ⟨(World.cell?_of_block (a := ⟨w.heap.size, i * 3, none⟩) (hb.block _ h.lt)).trans h0, (World.cell?_of_block (a := ⟨w.heap.size, i * 3 + 1, none⟩) (hb.block _ h.lt)).trans h1, (World.cell?_of_block (a := ⟨w.heap.size, i * 3 + 2, none⟩) (hb.block _ h.lt)).trans h2, h3.later hb, h4⟩
theorem EW.step {w wr : World} {l : List En} {k g : Nat} (h : EW w l k wr) (hk : k < l.length) (hI : PCp wr g l[k].op) (hg2 : w.heap.size < g) (hnew : ∃ n, n ≤ g ∧ ∀ gs : Nat → Nat, (∀ i (h : i < l.length), i < k → wr.cell? ⟨w.heap.size, i * 3 + 2, none⟩ = some (.slice (some ⟨gs i, 0, none⟩) l[i].op.length l[i].op.length)) → ∀ i, i < k → gs i < n) :
    EW w l (k + 1) (set3 wr w.heap.size (k * 3) l[k].cl l[k].sq (.slice (some ⟨g, 0, none⟩) l[k].op.length l[k].op.length)) where
  blk := ((h.blk.set _ _).set _ _).set _ _
  below := ((h.below.setCell (Nat.le_refl _) _).setCell (Nat.le_refl _) _).setCell (Nat.le_refl _) _
  lt := by rw [set3_size]; exact h.lt
  c := by
    obtain ⟨gs, hc, hr⟩ := h.c
    obtain ⟨n, hn, hnew⟩ := hnew
    have hlow := hnew gs (fun i hi hik => (hc i hi hik).2.2.1)
    have pc : ∀ {b : Nat} {p : List Pt}, PCp wr b p → w.heap.size < b → PCp (set3 wr w.heap.size (k * 3) l[k].cl l[k].sq (.slice (some ⟨g, 0, none⟩) l[k].op.length l[k].op.length)) b p := fun hp hb => hp.block (by rw [set3_size]; exact Nat.le_refl _) (set3_far _ _ _ _ _ _ (by omega))
    refine ⟨fun i => if i = k then g else gs i, fun i hi hik => ?_, fun i j hij hjk => ?_⟩
    · by_cases e : i = k
      · subst e
        simp only [if_true]
        obtain ⟨s0, s1, s2⟩ := set3_at (at' := i * 3) l[i].cl l[i].sq (.slice (some ⟨g, 0, none⟩) l[i].op.length l[i].op.length) h.blk (by omega)
        exact ⟨s0, s1, s2, pc hI hg2, hg2⟩
      · simp only [if_neg e]
        obtain ⟨h0, h1, h2, h3, h4⟩ := hc i hi (by omega)
        exact ⟨(set3_cell _ _ _ _ _ _ (by omega) (by omega) (by omega)).trans h0, (set3_cell _ _ _ _ _ _ (by omega) (by omega) (by omega)).trans h1, (set3_cell _ _ _ _ _ _ (by omega) (by omega) (by omega)).trans h2, pc h3 h4, h4⟩
    · by_cases e : j = k
      · subst e
        have ei : i ≠ j := by omega
        simp only [if_neg ei, if_true]
        have := hlow i hij
        omega
      · have ei : i ≠ k := by omega
        simp only [if_neg e, if_neg ei]
        exact hr i j hij (by omega)
theorem EW.bound {w wr : World} {l : List En} {k : Nat} (h : EW w l k wr) (hk : k ≤ l.length) : ∀ gs : Nat → Nat, (∀ i (h : i < l.length), i < k → wr.cell? ⟨w.heap.size, i * 3 + 2, none⟩ = some (.slice (some ⟨gs i, 0, none⟩) l[i].op.length l[i].op.length)) → ∀ i, i < k → gs i < wr.heap.size := by
  intro gs hg i hi
  obtain ⟨gs', hc, -⟩ := h.c
  have h1 := hg i (by omega) hi
  obtain ⟨-, -, h2, h3, -⟩ := hc i (by omega) hi
  rw [h2] at h1
  have : gs' i = gs i := by
    injection h1 with h1
    injection h1 with h1
    injection h1 with h1
    injection h1 with h1
  rw [← this]
  exact h3.lt
theorem EW.all {w wr : World} {l : List En} (h : EW w l l.length wr) (hm : l.length ≤ maxLen) (hs : ∀ i (hi : i < l.length), l[i].op.length ≤ maxLen) : ER (fun k => w.heap.size ≤ k ∧ k < wr.heap.size) wr (.slice (some ⟨w.heap.size, 0, none⟩) l.length l.length) l := by
  rcases Nat.eq_zero_or_pos l.length with h0 | h0
  · obtain rfl := List.eq_nil_of_length_eq_zero h0
    exact .inl ⟨rfl, _, _, rfl⟩
  · obtain ⟨gs, hc, hr⟩ := h.c
    refine .inr ⟨w.heap.size, 0, l.length, fun i => .slice (some ⟨gs i, 0, none⟩) ((l[i]?.map (·.op)).getD []).length ((l[i]?.map (·.op)).getD []).length, rfl, h0, Nat.le_refl _, hm, h.lt, ⟨Nat.le_refl _, h.lt⟩, h.blk.fz, fun i hi => ?_, fun i hi _ => ?_, fun i hi c => by omega, fun i hi y hy => ?_, fun i j hij hj y hy c => ?_, fun i hi c => by omega, fun i hi _ => ?_⟩
    · rw [Nat.zero_add, List.getElem?_eq_getElem hi]; exact (hc i hi hi).2.2.1
    · rw [Nat.zero_add]; exact ⟨(hc i hi hi).1, (hc i hi hi).2.1⟩
    · have e : gs i = y := Option.some.inj hy
      have := (hc i hi hi).2.2.2.1.lt
      have := (hc i hi hi).2.2.2.2
      exact ⟨⟨by omega, by omega⟩, by omega⟩
    · have e : gs i = y := Option.some.inj hy
      have e' : gs j = y := Option.some.inj c
      have := hr i j hij hj
      omega
    · rw [List.getElem?_eq_getElem hi]
      exact PR.cp (hc i hi hi).2.2.2.1 (hs i hi)

theorem makeE (n : Nat) (hn : n ≤ 2000000) : ∃ C : Array Value, C.size = n * 3 ∧ ∀ w : World, (Instr.makeSlice 36 (.int .i64 (n : Int)) (.int .i64 (n : Int))).run Tryd.prog w = .ok (.slice (some ⟨w.heap.size, 0, none⟩) n n) (w.alloc (.cells C 24)) := by
  have hinfo : (Tryd.prog.info? 24).map (fun i => (i.zero, i.size, i.bytes)) = some (some (.agg #[.int .i64 0, .int .i64 0, .slice none 0 0]), 3, 40) := by kernel_rfl
  obtain ⟨i0, hi0, hz0, hz1, hz2⟩ := info_parts hinfo
  refine ⟨madeCells (Value.agg #[.int .i64 0, .int .i64 0, .slice none 0 0]).cells (n * i0.size), by rw [size_madeCells, hz1], fun w => ?_⟩
  have := run_make (P := Tryd.prog) w 36 24 i0 (.agg #[.int .i64 0, .int .i64 0, .slice none 0 0]) Tryd.underlying36 hi0 hz0 .i64 .i64 n n (by omega) (Int.le_refl _) (by rw [hz2]; omega) (by omega)
  simpa only [Int.toNat_natCast] using this

set_option maxHeartbeats 4000000 in
theorem toE_cp {w : World} {v : Value} {l : List En} (h : ArgE w v l) (hm : szEn l ≤ 1048576) :
    Calls Tryd.prog 36 #[v] w fun e w' => e = .returned (.slice (some ⟨w.heap.size, 0, none⟩) l.length l.length) ∧ ER (fun k => w.heap.size ≤ k ∧ k < w'.heap.size) w' (.slice (some ⟨w.heap.size, 0, none⟩) l.length l.length) l ∧ Below w.heap.size w w' := by
  obtain ⟨hl, heach⟩ := szE_each hm
  have hsmall : Hid (l.length ≤ maxLen ∧ ∀ i (hi : i < l.length), l[i].op.length ≤ maxLen) := hide ⟨by unfold maxLen; omega, fun i hi => by have := heach i hi; have := szPn_len l[i].op; unfold maxLen; omega⟩
  cases h with
  | nil a cap =>
    obtain ⟨C, hC, hmk⟩ := makeE 0 (by omega)
    have S0 := hide (ew_start (l := []) (w := w) (C := C) (t := 24) (by simpa using hC))
    have hmk0 : ∀ w : World, (Instr.makeSlice 36 (.int .i64 0) (.int .i64 0)).run Tryd.prog w = .ok (.slice (some ⟨w.heap.size, 0, none⟩) 0 0) (w.alloc (.cells C 24)) := hmk
    clear hmk hC
    go_enter Tryd.func36, Tryd.ntmps36
    go_wp2
    go_loop [4] (fun i => i = .int .i64 0) (fun _ => 0)
    case atStart => rfl
    case round =>
      subst hrel
      go_wp2
      go_ret
      exact ⟨rfl, .inl ⟨rfl, _, _, rfl⟩, S0.out.below⟩
  | row b off cap l vs hb hn hle hmx hc =>
    obtain ⟨C, hC, hmk⟩ := makeE l.length (by omega)
    have S0 := hide (ew_start (l := l) (w := w) (C := C) (t := 24) hC)
    have Hc := hide hc
    have HE := hide heach
    clear hC hc heach
    go_enter Tryd.func36, Tryd.ntmps36
    go_wp2
    clear hmk
    go_loopw [4] (fun i wr => ∃ k : Nat, k ≤ l.length ∧ i = .int .i64 k ∧ EW w l k wr) (fun i _ => l.length - (intOf i).toNat)
    case atStart => exact ⟨0, by omega, rfl, S0.out⟩
    case round =>
      obtain ⟨k, hk, rfl, hat⟩ := hrel
      by_cases hlt : k < l.length
      · obtain ⟨c0, c1, c2, c3⟩ := Hc.out k hlt
        have d0 := (World.cell?_of_block (a := ⟨b, off + k * 3, none⟩) (hat.below.block b hb)).trans c0
        have d1 := (World.cell?_of_block (a := ⟨b, off + k * 3 + 1, none⟩) (hat.below.block b hb)).trans c1
        have d2 := (World.cell?_of_block (a := ⟨b, off + k * 3 + 2, none⟩) (hat.below.block b hb)).trans c2
        have Hat := hide hat
        have T := hide (toEntry_cp l[k].cl l[k].sq (c3.later hat.below) (by have := HE.out k hlt; have := szPn_len l[k].op; omega))
        clear hat c0 c1 c2 c3
        go_wp2_with fail
        refine T.out.mono ?_
        rintro e w2 ⟨g, rfl, hg1, hI, hb2⟩
        have h2 := Hat.out.later hb2
        obtain ⟨x0, y0⟩ := h2.blk.ex (k * 3) (by omega)
        obtain ⟨x1, y1⟩ := h2.blk.ex (k * 3 + 1) (by omega)
        obtain ⟨x2, y2⟩ := h2.blk.ex (k * 3 + 2) (by omega)
        have f0 := h2.blk.fz (k * 3)
        have f1 := h2.blk.fz (k * 3 + 1)
        have f2 := h2.blk.fz (k * 3 + 2)
        have A := hide (h2.step hlt hI (Nat.lt_of_lt_of_le Hat.out.lt hg1) ⟨wr.heap.size, hg1, fun gs hgs => Hat.out.bound hk gs (fun i hi hik => by rw [← World.cell?_of_block (a := ⟨w.heap.size, i * 3 + 2, none⟩) (hb2.block _ Hat.out.lt)]; exact hgs i hi hik)⟩)
        unfold set3 at A
        clear h2 d0 d1 d2 hI hb2
        go_wp2
        refine ⟨⟨k + 1, by omega, by go_num, A.out⟩, by simp [intOf]; omega⟩
      · obtain rfl : k = l.length := by omega
        go_wp2
        go_ret
        exact ⟨rfl, hat.all hsmall.out.1 hsmall.out.2, hat.below⟩
end Go.Proofs.YtmjehpigfkobeabDoor

set_option linter.unusedVariables false
namespace Go.Proofs.YtmjehpigfkobeabDoor
open Go.RowKit
open Doc1

set_option maxRecDepth 100000 in
set_option maxHeartbeats 2000000 in
theorem eqSv_r {S S' : Nat → Prop} {w : World} {v v' : Value} {s t : ByteArray} {l : List En} (h : ER S w v l) (h' : ER S' w v' l) (bl : BdE l) :
    Calls Tryd.prog 15 #[.agg #[.string s, .string t, v], .agg #[.string s, .string t, v']] w fun e w' => e = .returned (.bool true) ∧ Below w.heap.size w w' := by
  obtain ⟨a1, c1, e1⟩ := h.shp
  obtain ⟨a3, c3, e3⟩ := h'.shp
  subst e1 e3
  obtain ⟨w1, hw1⟩ : ∃ w1, w1 = (w.alloc (.cells #[.string s, .string t, .slice a1 l.length c1] 38)).alloc (.cells #[.string s, .string t, .slice a3 l.length c3] 38) := ⟨_, rfl⟩
  obtain ⟨k1, k2, k3, k4⟩ := cb_two w #[.string s, .string t, .slice a1 l.length c1] #[.string s, .string t, .slice a3 l.length c3] 38 38
  rw [← hw1] at k1 k2 k3 k4
  have H1 := hide (eqE_r (h.later k3) (h'.later k3) bl.1 bl.2)
  have HB := hide k3
  clear h h' bl k1 k2 k3
  go_enter Tryd.func15, Tryd.ntmps15
  go_wp2_with fail
  rw [← hw1]
  clear hw1
  refine H1.out.mono ?_
  rintro e w2 ⟨rfl, hb2⟩
  have HB2 := hide (HB.out.trans (hb2.mono HB.out.size))
  clear hb2
  go_wp2
  go_ret
  exact ⟨rfl, HB2.out⟩

set_option maxRecDepth 100000 in
set_option maxHeartbeats 2000000 in
theorem markSv_r {S : Nat → Prop} {w : World} {v : Value} {s t : ByteArray} {l : List En} (h : ER S w v l) (bl : BdE l) (K : Nat) (hK : 0 < K ∧ K + mkNE l ≤ 500000000) :
    Calls Tryd.prog 18 #[.agg #[.string s, .string t, v], .int .i64 (K : Int)] w fun e w' => e = .returned (.int .i64 (K + mkNE l : Nat)) ∧ Out S w w' ∧ EK K S w' v l := by
  obtain ⟨a1, c1, e1⟩ := h.shp
  subst e1
  obtain ⟨w1, hw1⟩ : ∃ w1, w1 = w.alloc (.cells #[.string s, .string t, .slice a1 l.length c1] 38) := ⟨_, rfl⟩
  have k3 : Below w.heap.size w w1 := by rw [hw1]; exact (Below.refl _ _).alloc (Nat.le_refl _) _
  have H1 := hide (markE_r (h.later k3) bl.1 bl.2 K hK)
  have HB := hide k3
  obtain ⟨X, hX⟩ : ∃ X : Nat, X = K + mkNE l := ⟨_, rfl⟩
  rw [← hX] at H1 ⊢
  clear h bl k3 hX hK
  go_enter Tryd.func18, Tryd.ntmps18
  go_wp2_with fail
  rw [← hw1]
  clear hw1
  refine H1.out.mono ?_
  rintro e w2 ⟨rfl, ho2, hd2⟩
  have HO2 := hide ((Out.below HB.out).trans ho2)
  have HD2 := hide hd2
  clear ho2 hd2
  go_wp2
  go_ret
  exact ⟨rfl, HO2.out, HD2.out⟩

set_option maxRecDepth 100000 in
set_option maxHeartbeats 2000000 in
theorem heldSv_q {S : Nat → Prop} {w : World} {v : Value} {s t : ByteArray} {l : List En} {K : Nat} (h : EK K S w v l) (bl : BdE l) (hK : 0 < K ∧ K + mkNE l ≤ 500000000) :
    Calls Tryd.prog 19 #[.agg #[.string s, .string t, v], .int .i64 (K : Int)] w fun e w' => e = .returned (.int .i64 (K + mkNE l : Nat)) ∧ Below w.heap.size w w' := by
  obtain ⟨a1, c1, e1⟩ := h.shp
  subst e1
  obtain ⟨w1, hw1⟩ : ∃ w1, w1 = w.alloc (.cells #[.string s, .string t, .slice a1 l.length c1] 38) := ⟨_, rfl⟩
  have k3 : Below w.heap.size w w1 := by rw [hw1]; exact (Below.refl _ _).alloc (Nat.le_refl _) _
  have H1 := hide (heldE_q (h.later k3) bl.1 bl.2 hK)
  have HB := hide k3
  obtain ⟨X, hX⟩ : ∃ X : Int, X = ((K + mkNE l : Nat) : Int) := ⟨_, rfl⟩
  rw [← hX] at H1 ⊢
  have d1 : decide (X < 0) = false := by rw [decide_eq_false_iff_not]; omega
  clear h bl k3 hX hK
  go_enter Tryd.func19, Tryd.ntmps19
  go_wp2_with fail
  rw [← hw1]
  clear hw1
  refine H1.out.mono ?_
  rintro e w2 ⟨rfl, hb2⟩
  have HB2 := hide (HB.out.trans (hb2.mono HB.out.size))
  clear hb2
  go_wp2
  go_ret
  exact ⟨rfl, HB2.out⟩

/-- How much a server takes. -/
def szSn (s t : ByteArray) (l : List En) : Nat := s.size + t.size + szEn l

set_option maxRecDepth 100000 in
set_option maxHeartbeats 4000000 in
theorem szS_from {w : World} {s t : ByteArray} {v : Value} {l : List En} (h : ArgE w v l) (hs : s.size ≤ 9223372036854775807) (ht : t.size ≤ 9223372036854775807) (sl : ∀ i (hi : i < l.length), ThinP l[i].op) (left : Nat) (hlf : left ≤ 1048576) :
    Calls Tryd.prog 11 #[.agg #[.string s, .string t, v], .int .i64 (left : Int)] w fun e w' => e = .returned (.int .i64 (if szSn s t l ≤ left then ((left - szSn s t l : Nat) : Int) else -1)) ∧ Below w.heap.size w w' := by
  obtain ⟨a1, c1, e1⟩ := argE_shp h
  subst e1
  obtain ⟨w1, hw1⟩ : ∃ w1, w1 = w.alloc (.cells #[.string s, .string t, .slice a1 l.length c1] 32) := ⟨_, rfl⟩
  have k3 : Below w.heap.size w w1 := by rw [hw1]; exact (Below.refl _ _).alloc (Nat.le_refl _) _
  have H1 : Hid (∀ left, left ≤ 1048576 → _) := hide (fun left hl => szE_from (h.later k3) sl left hl)
  have HB := hide k3
  unfold szSn
  clear h sl k3
  by_cases q0 : s.size ≤ left
  · obtain ⟨X, hX⟩ : ∃ X : Nat, left - s.size = X := ⟨_, rfl⟩
    have hXi : (left : Int) - (s.size : Int) = (X : Int) := by omega
    have dX : decide ((X : Int) < 0) = false := by rw [decide_eq_false_iff_not]; omega
    by_cases q1 : t.size ≤ X
    · obtain ⟨Y, hY⟩ : ∃ Y : Nat, X - t.size = Y := ⟨_, rfl⟩
      have hYi : (X : Int) - (t.size : Int) = (Y : Int) := by omega
      have dY : decide ((Y : Int) < 0) = false := by rw [decide_eq_false_iff_not]; omega
      have H2 := hide (H1.out Y (by omega))
      have R : Hid ((if s.size + t.size + szEn l ≤ left then ((left - (s.size + t.size + szEn l) : Nat) : Int) else -1) = if szEn l ≤ Y then ((Y - szEn l : Nat) : Int) else -1) := hide (by split <;> split <;> omega)
      obtain ⟨Z, hZ⟩ : ∃ Z : Int, (if szEn l ≤ Y then ((Y - szEn l : Nat) : Int) else -1) = Z := ⟨_, rfl⟩
      rw [hZ] at H2 R
      rw [R.out]
      by_cases q2 : szEn l ≤ Y
      · rw [if_pos q2] at hZ
        have dZ : decide (Z < 0) = false := by rw [decide_eq_false_iff_not]; omega
        clear R hZ q2 hX hY H1
        go_enter Tryd.func11, Tryd.ntmps11
        go_wp2_with fail
        rw [← hw1]
        clear hw1
        refine H2.out.mono ?_
        rintro e w2 ⟨rfl, hb2⟩
        have HB2 := hide (HB.out.trans (hb2.mono HB.out.size))
        clear hb2
        go_wp2
        go_ret
        exact ⟨rfl, HB2.out⟩
      · rw [if_neg q2] at hZ
        subst hZ
        clear R q2 hX hY H1
        go_enter Tryd.func11, Tryd.ntmps11
        go_wp2_with fail
        rw [← hw1]
        clear hw1
        refine H2.out.mono ?_
        rintro e w2 ⟨rfl, hb2⟩
        have HB2 := hide (HB.out.trans (hb2.mono HB.out.size))
        clear hb2
        go_wp2
        go_ret
        exact ⟨rfl, HB2.out⟩
    · have R : Hid ((if s.size + t.size + szEn l ≤ left then ((left - (s.size + t.size + szEn l) : Nat) : Int) else -1) = -1) := hide (by rw [if_neg (by omega)])
      rw [R.out]
      have dY : decide ((X : Int) - (t.size : Int) < 0) = true := by rw [decide_eq_true_iff]; omega
      have lY : (X : Int) - (t.size : Int) < 0 := by omega
      clear R hX H1
      go_enter Tryd.func11, Tryd.ntmps11
      go_wp2
      rw [← hw1]
      go_ret
      exact ⟨rfl, HB.out⟩
  · have R : Hid ((if s.size + t.size + szEn l ≤ left then ((left - (s.size + t.size + szEn l) : Nat) : Int) else -1) = -1) := hide (by rw [if_neg (by omega)])
    rw [R.out]
    have dX : decide ((left : Int) - (s.size : Int) < 0) = true := by rw [decide_eq_true_iff]; omega
    have lX : (left : Int) - (s.size : Int) < 0 := by omega
    clear R H1
    go_enter Tryd.func11, Tryd.ntmps11
    go_wp2
    rw [← hw1]
    go_ret
    exact ⟨rfl, HB.out⟩

theorem Tryd.sizeServer : (Tryd.prog.info? 38).map (·.size) = some 3 := by kernel_rfl

set_option maxRecDepth 100000 in
set_option maxHeartbeats 4000000 in
theorem toSv_cp {w : World} {s t : ByteArray} {v : Value} {l : List En} (h : ArgE w v l) (hm : szEn l ≤ 1048576) :
    Calls Tryd.prog 13 #[.agg #[.string s, .string t, v]] w fun e w' => ∃ x, e = .returned (.agg #[.string s, .string t, x]) ∧ ER (fun k => w.heap.size ≤ k ∧ k < w'.heap.size) w' x l ∧ Below w.heap.size w w' := by
  obtain ⟨a1, c1, e1⟩ := argE_shp h
  subst e1
  obtain ⟨w1, hw1⟩ : ∃ w1, w1 = ((w.alloc (.cells #[.string s, .string t, .slice a1 l.length c1] 32)).alloc (.cells #[.string ⟨#[]⟩, .string ⟨#[]⟩, .slice none 0 0] 38)).alloc (.cells #[.string s, .string t, .slice none 0 0] 38) := ⟨_, rfl⟩
  have hs1 : w1.heap.size = w.heap.size + 3 := by rw [hw1]; simp
  have hbw : Below w.heap.size w w1 := by rw [hw1]; exact (((Below.refl _ _).alloc (Nat.le_refl _) _).alloc (by simp) _).alloc (by simp; omega) _
  obtain ⟨p1, p2, -, -⟩ := cb_two w #[.string s, .string t, .slice a1 l.length c1] #[.string ⟨#[]⟩, .string ⟨#[]⟩, .slice none 0 0] 32 38
  have hup : Below (w.heap.size + 2) ((w.alloc (.cells #[.string s, .string t, .slice a1 l.length c1] 32)).alloc (.cells #[.string ⟨#[]⟩, .string ⟨#[]⟩, .slice none 0 0] 38)) w1 := by
    rw [hw1]; exact (Below.refl _ _).alloc (by simp) _
  have b1 : CB w1 (w.heap.size + 1) #[.string ⟨#[]⟩, .string ⟨#[]⟩, .slice none 0 0] := p2.block (hup.block _ (by omega))
  have b2 : CB w1 (w.heap.size + 1 + 1) #[.string s, .string t, .slice none 0 0] := by
    rw [hw1]
    have := CB.new ((w.alloc (.cells #[.string s, .string t, .slice a1 l.length c1] 32)).alloc (.cells #[.string ⟨#[]⟩, .string ⟨#[]⟩, .slice none 0 0] 38)) #[.string s, .string t, .slice none 0 0] 38
    rw [World.size_alloc, World.size_alloc] at this
    exact this
  have H := hide (toE_cp (h.later hbw) hm)
  have HB := hide hbw
  have HC1 := hide b1
  have HC2 := hide b2
  clear h hbw b1 b2 p1 p2 hup
  go_enter Tryd.func13, Tryd.ntmps13
  go_wp2_with fail
  rw [← hw1]
  clear hw1
  refine H.out.mono ?_
  rintro e w2 ⟨rfl, hcp, hb2⟩
  have HB2 : Hid (Below w.heap.size w w2) := hide (HB.out.trans (hb2.mono HB.out.size))
  have HD1 := hide (HC1.out.later hb2)
  have HD2 := hide (HC2.out.later hb2)
  rw [hs1] at hcp ⊢
  have i1 := HD2.out.cell 2 rfl
  have i2 := HD2.out.fz 2
  have l2 := HD2.out.set 2 (.slice (some ⟨w.heap.size + 3, 0, none⟩) l.length l.length) rfl
  have l1 := HD1.out.other (d := w.heap.size + 1 + 1) (by omega) 2 (.slice (some ⟨w.heap.size + 3, 0, none⟩) l.length l.length)
  have g0 := l2.cell 0 rfl
  have g1 := l2.cell 1 rfl
  have g2 := l2.cell 2 rfl
  have m0 := l1.cell 0 rfl
  have z0 := l1.fz 0
  have o0 := l1.set 0 (.string s) rfl
  have n1 := o0.cell 1 rfl
  have z1 := o0.fz 1
  have o1 := o0.set 1 (.string t) rfl
  have n2 := o1.cell 2 rfl
  have z2 := o1.fz 2
  have o2 := hide (o1.set 2 (.slice (some ⟨w.heap.size + 3, 0, none⟩) l.length l.length) rfl)
  have hsz2 : Hid (w.heap.size + 3 ≤ w2.heap.size) := hide (by have := hb2.size; omega)
  have HCP : Hid (∀ v1 v2 v3 v4, ER (fun k => w.heap.size ≤ k ∧ k < w2.heap.size) ((((w2.setCell ⟨w.heap.size + 1 + 1, 2, none⟩ v1).setCell ⟨w.heap.size + 1, 0, none⟩ v2).setCell ⟨w.heap.size + 1, 1, none⟩ v3).setCell ⟨w.heap.size + 1, 2, none⟩ v4) (.slice (some ⟨w.heap.size + 3, 0, none⟩) l.length l.length) l) := hide (fun v1 v2 v3 v4 => by
    exact ((((hcp.set (by show ¬ (_ ∧ _); omega) v1).set (by show ¬ (_ ∧ _); omega) v2).set (by show ¬ (_ ∧ _); omega) v3).set (by show ¬ (_ ∧ _); omega) v4).wide (fun y hy => ⟨by have := hy.1; omega, hy.2⟩))
  simp only [List.getElem_toArray, List.getElem_cons_succ, List.getElem_cons_zero] at i1 g0 g1 g2 m0 n1 n2
  clear hcp hb2 l1 l2 o0 o1
  go_wp2
  obtain ⟨tt, htt⟩ := o2.out
  refine bodyPost_ret (results_cell_row rfl _ _ (w.heap.size + 1) _ _ (0, 0) _ rfl htt Tryd.underlying38 rfl Tryd.sizeServer) rfl ?_
  refine ⟨_, rfl, by simpa [World.setCell] using HCP.out _ _ _ _, (((HB2.out.setCell (p := ⟨w.heap.size + 1 + 1, 2, none⟩) (by show w.heap.size ≤ w.heap.size + 1 + 1; omega) _).setCell (p := ⟨w.heap.size + 1, 0, none⟩) (by show w.heap.size ≤ w.heap.size + 1; omega) _).setCell (p := ⟨w.heap.size + 1, 1, none⟩) (by show w.heap.size ≤ w.heap.size + 1; omega) _).setCell (p := ⟨w.heap.size + 1, 2, none⟩) (by show w.heap.size ≤ w.heap.size + 1; omega) _⟩

/-- A server's log: all blocks are of lo to hi. -/
def SX (lo hi : Nat) (w : World) (v : Value) (l : List En) : Prop := ∃ S : Nat → Prop, ER S w v l ∧ ∀ y, S y → lo ≤ y ∧ y < hi
/-- The same, marked. -/
def SK (K lo hi : Nat) (w : World) (v : Value) (l : List En) : Prop := ∃ S : Nat → Prop, EK K S w v l ∧ ∀ y, S y → lo ≤ y ∧ y < hi
theorem SX.later {lo hi : Nat} {w w1 : World} {v : Value} {l : List En} (h : SX lo hi w v l) (hb : Below w.heap.size w w1) : SX lo hi w1 v l := by
  obtain ⟨S, h1, h4⟩ := h
  exact ⟨S, h1.later hb, h4⟩
theorem SX.out {lo hi a b : Nat} {w w1 : World} {v : Value} {l : List En} (h : SX lo hi w v l) (ho : Out (Iv a b) w w1) (hd : hi ≤ a ∨ b ≤ lo) : SX lo hi w1 v l := by
  obtain ⟨S, h1, h4⟩ := h
  exact ⟨S, h1.out ho (fun y hy c => by have := h4 y hy; have := c.1; have := c.2; omega), h4⟩
theorem SX.wide {lo hi lo' hi' : Nat} {w : World} {v : Value} {l : List En} (h : SX lo hi w v l) (h1 : lo' ≤ lo) (h2 : hi ≤ hi') : SX lo' hi' w v l := by
  obtain ⟨S, k1, k4⟩ := h
  exact ⟨S, k1, fun y hy => by have := k4 y hy; omega⟩
theorem SK.later {K lo hi : Nat} {w w1 : World} {v : Value} {l : List En} (h : SK K lo hi w v l) (hb : Below w.heap.size w w1) : SK K lo hi w1 v l := by
  obtain ⟨S, h1, h4⟩ := h
  exact ⟨S, h1.later hb, h4⟩
theorem SK.out {K lo hi a b : Nat} {w w1 : World} {v : Value} {l : List En} (h : SK K lo hi w v l) (ho : Out (Iv a b) w w1) (hd : hi ≤ a ∨ b ≤ lo) : SK K lo hi w1 v l := by
  obtain ⟨S, h1, h4⟩ := h
  exact ⟨S, h1.out ho (fun y hy c => by have := h4 y hy; have := c.1; have := c.2; omega), h4⟩
theorem SX.shp {lo hi : Nat} {w : World} {v : Value} {l : List En} (h : SX lo hi w v l) : ∃ a c, v = .slice a l.length c := by
  obtain ⟨S, h1, -⟩ := h
  exact h1.shp
theorem sx_nil (lo hi : Nat) (w : World) (a : Option Addr) (c : Nat) : SX lo hi w (.slice a 0 c) [] :=
  ⟨fun _ => False, .inl ⟨rfl, a, c, rfl⟩, fun _ h => h.elim⟩

theorem eqSX {lo hi lo' hi' : Nat} {w : World} {v v' : Value} {s t : ByteArray} {l : List En} (h : SX lo hi w v l) (h' : SX lo' hi' w v' l) (bl : BdE l) :
    Calls Tryd.prog 15 #[.agg #[.string s, .string t, v], .agg #[.string s, .string t, v']] w fun e w' => e = .returned (.bool true) ∧ Below w.heap.size w w' := by
  obtain ⟨S, h1, -⟩ := h
  obtain ⟨S', h1', -⟩ := h'
  exact eqSv_r h1 h1' bl

theorem eqEX {lo hi lo' hi' : Nat} {w : World} {v v' : Value} {l : List En} (h : SX lo hi w v l) (h' : SX lo' hi' w v' l) (bl : BdE l) :
    Calls Tryd.prog 43 #[v, v'] w fun e w' => e = .returned (.bool true) ∧ Below w.heap.size w w' := by
  obtain ⟨S, h1, -⟩ := h
  obtain ⟨S', h1', -⟩ := h'
  exact eqE_r h1 h1' bl.1 bl.2

theorem markSX {lo hi : Nat} {w : World} {v : Value} {s t : ByteArray} {l : List En} (h : SX lo hi w v l) (bl : BdE l) (K : Nat) (hK : 0 < K ∧ K + mkNE l ≤ 500000000) :
    Calls Tryd.prog 18 #[.agg #[.string s, .string t, v], .int .i64 (K : Int)] w fun e w' => e = .returned (.int .i64 (K + mkNE l : Nat)) ∧ Out (Iv lo hi) w w' ∧ SK K lo hi w' v l := by
  obtain ⟨S, h1, h4⟩ := h
  refine (markSv_r h1 bl K hK).mono ?_
  rintro e w' ⟨rfl, ho, k1⟩
  exact ⟨rfl, ho.mono (fun k hk => h4 k hk), S, k1, h4⟩

theorem markEX {lo hi : Nat} {w : World} {v : Value} {l : List En} (h : SX lo hi w v l) (bl : BdE l) (K : Nat) (hK : 0 < K ∧ K + mkNE l ≤ 500000000) :
    Calls Tryd.prog 51 #[v, .int .i64 (K : Int)] w fun e w' => e = .returned (.int .i64 (K + mkNE l : Nat)) ∧ Out (Iv lo hi) w w' ∧ SK K lo hi w' v l := by
  obtain ⟨S, h1, h4⟩ := h
  refine (markE_r h1 bl.1 bl.2 K hK).mono ?_
  rintro e w' ⟨rfl, ho, k1⟩
  exact ⟨rfl, ho.mono (fun k hk => h4 k hk), S, k1, h4⟩

theorem heldSX {lo hi K : Nat} {w : World} {v : Value} {s t : ByteArray} {l : List En} (h : SK K lo hi w v l) (bl : BdE l) (hK : 0 < K ∧ K + mkNE l ≤ 500000000) :
    Calls Tryd.prog 19 #[.agg #[.string s, .string t, v], .int .i64 (K : Int)] w fun e w' => e = .returned (.int .i64 (K + mkNE l : Nat)) ∧ Below w.heap.size w w' := by
  obtain ⟨S, h1, -⟩ := h
  exact heldSv_q h1 bl hK

theorem heldEX {lo hi K : Nat} {w : World} {v : Value} {l : List En} (h : SK K lo hi w v l) (bl : BdE l) (hK : 0 < K ∧ K + mkNE l ≤ 500000000) :
    Calls Tryd.prog 52 #[v, .int .i64 (K : Int)] w fun e w' => e = .returned (.int .i64 (K + mkNE l : Nat)) ∧ Below w.heap.size w w' := by
  obtain ⟨S, h1, -⟩ := h
  exact heldE_q h1 bl.1 bl.2 hK

theorem toSX {w : World} {s t : ByteArray} {v : Value} {l : List En} (h : ArgE w v l) (hm : szEn l ≤ 1048576) :
    Calls Tryd.prog 13 #[.agg #[.string s, .string t, v]] w fun e w' => ∃ x, e = .returned (.agg #[.string s, .string t, x]) ∧ SX w.heap.size w'.heap.size w' x l ∧ Below w.heap.size w w' := by
  refine (toSv_cp h hm).mono ?_
  rintro e w' ⟨x, rfl, h3, h5⟩
  exact ⟨x, rfl, ⟨_, h3, fun y hy => hy⟩, h5⟩

/-- What a function that answers a server tells. -/
def SPost (w : World) (S T : ByteArray) (L : List En) (b : Bool) (e : Ending) (w' : World) : Prop :=
  ∃ x, e = .returned (.tuple #[.agg #[.string S, .string T, x], .bool b]) ∧ SX w.heap.size w'.heap.size w' x L ∧ Below w.heap.size w w'
/-- What a function that answers entries tells. -/
def EPost (w : World) (L : List En) (b : Bool) (e : Ending) (w' : World) : Prop :=
  ∃ x, e = .returned (.tuple #[x, .bool b]) ∧ SX w.heap.size w'.heap.size w' x L ∧ Below w.heap.size w w'
end Go.Proofs.YtmjehpigfkobeabDoor
