/- Rows of changes, each a row of parts: sizes, copies, comparisons, marks. Rows of changes: copies, comparisons, marks. Rows of changes and histories are copied. Histories: sizes, copies, comparisons, marks. Histories that lie between two blocks. -/
import Derived.Test.YtmjehpigfkobeabDoorMkPz
import Derived.Deep.RegionWith
set_option linter.unusedVariables false
namespace Go.Proofs.YtmjehpigfkobeabDoor
open Go.RowKit
open Doc1

theorem ret_c {x y : Int} (h : x = y) : Ending.returned (.int .i64 x) = .returned (.int .i64 y) := by rw [h]

/-- All blocks but those of a set are as they were. -/
structure Out (S : Nat → Prop) (w w1 : World) : Prop where
  os : w1.os = w.os
  tape : w1.tape = w.tape
  output : w1.output = w.output
  size : w.heap.size ≤ w1.heap.size
  block : ∀ k, k < w.heap.size → ¬ S k → w1.heap[k]? = w.heap[k]?
theorem Out.refl (S : Nat → Prop) (w : World) : Out S w w := ⟨rfl, rfl, rfl, Nat.le_refl _, fun _ _ _ => rfl⟩
theorem Out.trans {S : Nat → Prop} {a b c : World} (h : Out S a b) (k : Out S b c) : Out S a c :=
  ⟨k.os.trans h.os, k.tape.trans h.tape, k.output.trans h.output, Nat.le_trans h.size k.size, fun i hi hn => (k.block i (Nat.lt_of_lt_of_le hi h.size) hn).trans (h.block i hi hn)⟩
theorem Out.below {S : Nat → Prop} {w w1 : World} (h : Below w.heap.size w w1) : Out S w w1 := ⟨h.os, h.tape, h.output, h.size, fun k hk _ => h.block k hk⟩
theorem Out.grown {S : Nat → Prop} {w w1 : World} {r : Option Nat} (h : w.grownBy w1 r) (hr : ∀ y, r = some y → S y) : Out S w w1 := ⟨h.os, h.tape, h.output, h.size, fun k hk hn => h.block k hk (fun e => hn (hr k e.symm))⟩
theorem Out.mono {S T : Nat → Prop} {w w1 : World} (h : Out S w w1) (hs : ∀ k, S k → T k) : Out T w w1 := ⟨h.os, h.tape, h.output, h.size, fun k hk hn => h.block k hk (fun c => hn (hs k c))⟩
theorem Out.to {S : Nat → Prop} {w w1 : World} {B : Nat} (h : Out S w w1) (hs : ∀ k, S k → B ≤ k) (hB : B ≤ w.heap.size) : Below B w w1 := ⟨h.os, h.tape, h.output, h.size, fun k hk => h.block k (Nat.lt_of_lt_of_le hk hB) (fun c => by have := hs k c; omega)⟩

/-- How many marks the first of the rows take. -/
def mkU (l : List (List Pt)) : Nat → Nat
  | 0 => 0
  | i + 1 => mkU l i + (match l[i]? with | some x => x.length * 3 | none => 0)
theorem mkU_succ (l : List (List Pt)) (i : Nat) (h : i < l.length) : mkU l (i + 1) = mkU l i + l[i].length * 3 := by
  show mkU l i + _ = _
  rw [List.getElem?_eq_getElem h]
theorem mkU_mono (l : List (List Pt)) : ∀ i j, i ≤ j → mkU l i ≤ mkU l j
  | i, 0, h => by obtain rfl : i = 0 := by omega
                  exact Nat.le_refl _
  | i, j + 1, h => by
    by_cases e : i = j + 1
    · subst e; exact Nat.le_refl _
    · have := mkU_mono l i j (by omega)
      show _ ≤ mkU l j + _
      omega
/-- A row of changes in a block, the first k of them marked from K on. -/
structure DMo (K : Nat) (S : Nat → Prop) (w : World) (g off : Nat) (l : List (List Pt)) (vs : Nat → Value) (k : Nat) : Prop where
  lt : g < w.heap.size
  inS : S g
  c : ∀ i, i < l.length → w.cell? ⟨g, off + i, none⟩ = some (vs i)
  opS : ∀ i, i < l.length → ∀ y, (vs i).ownBlock = some y → S y ∧ y ≠ g
  dis : ∀ i j, i < j → j < l.length → ∀ y, (vs i).ownBlock = some y → (vs j).ownBlock ≠ some y
  mkd : ∀ i (h : i < l.length), i < k → PMq (K + mkU l i) w (vs i) l[i].length
  op : ∀ i (h : i < l.length), k ≤ i → PR w (vs i) l[i]
theorem DMo.keep {K k : Nat} {S : Nat → Prop} {w w1 : World} {g off : Nat} {l : List (List Pt)} {vs : Nat → Value} (h : DMo K S w g off l vs k) (hs : w.heap.size ≤ w1.heap.size) (he : ∀ y, S y → y < w.heap.size → w1.heap[y]? = w.heap[y]?) : DMo K S w1 g off l vs k where
  lt := Nat.lt_of_lt_of_le h.lt hs
  inS := h.inS
  c := fun i hi => (World.cell?_of_block (a := ⟨g, off + i, none⟩) (he g h.inS h.lt)).trans (h.c i hi)
  opS := h.opS
  dis := h.dis
  mkd := fun i hi hk => (h.mkd i hi hk).keep hs (fun y hy => he y (h.opS i hi y hy).1)
  op := fun i hi hk => (h.op i hi hk).keep hs (fun y hy => he y (h.opS i hi y hy).1)
theorem DMo.out {K k : Nat} {S S' : Nat → Prop} {w w1 : World} {g off : Nat} {l : List (List Pt)} {vs : Nat → Value} (h : DMo K S w g off l vs k) (ho : Out S' w w1) (hd : ∀ y, S y → ¬ S' y) : DMo K S w1 g off l vs k :=
  h.keep ho.size (fun y hy hl => ho.block y hl (hd y hy))
theorem DMo.later {K k : Nat} {S : Nat → Prop} {w w1 : World} {g off : Nat} {l : List (List Pt)} {vs : Nat → Value} (h : DMo K S w g off l vs k) (hb : Below w.heap.size w w1) : DMo K S w1 g off l vs k :=
  h.keep hb.size (fun y hy hl => hb.block y hl)
theorem DMo.wide {K k : Nat} {S T : Nat → Prop} {w : World} {g off : Nat} {l : List (List Pt)} {vs : Nat → Value} (h : DMo K S w g off l vs k) (hs : ∀ y, S y → T y) : DMo K T w g off l vs k :=
  ⟨h.lt, hs g h.inS, h.c, fun i hi y hy => ⟨hs y (h.opS i hi y hy).1, (h.opS i hi y hy).2⟩, h.dis, h.mkd, h.op⟩
theorem DMo.start {K K' : Nat} {S : Nat → Prop} {w : World} {g off : Nat} {l : List (List Pt)} {vs : Nat → Value} (h : DMo K S w g off l vs 0) : DMo K' S w g off l vs 0 :=
  ⟨h.lt, h.inS, h.c, h.opS, h.dis, fun i hi hk => by omega, h.op⟩
theorem DMo.step {K k : Nat} {S : Nat → Prop} {w w1 : World} {g off : Nat} {l : List (List Pt)} {vs : Nat → Value} (h : DMo K S w g off l vs k) (hk : k < l.length) (hg : w.grownBy w1 (vs k).ownBlock) (hm : PMq (K + mkU l k) w1 (vs k) l[k].length) : DMo K S w1 g off l vs (k + 1) := by
  have far : ∀ y, (vs k).ownBlock ≠ some y → y < w.heap.size → w1.heap[y]? = w.heap[y]? := fun y hy hl => hg.block y hl (Ne.symm hy)
  have dk : ∀ i, i < l.length → i ≠ k → ∀ y, (vs i).ownBlock = some y → (vs k).ownBlock ≠ some y := fun i hi hne y hy c => by
    by_cases e : i < k
    · exact h.dis i k e hk y hy c
    · exact h.dis k i (by omega) hi y c hy
  exact {
    lt := Nat.lt_of_lt_of_le h.lt hg.size
    inS := h.inS
    c := fun i hi => (World.cell?_of_block (a := ⟨g, off + i, none⟩) (far g (fun c => (h.opS k hk g c).2 rfl) h.lt)).trans (h.c i hi)
    opS := h.opS
    dis := h.dis
    mkd := fun i hi hik => by
      by_cases e : i = k
      · subst e; exact hm
      · exact (h.mkd i hi (by omega)).keep hg.size (fun y hy hl => far y (dk i hi e y hy) hl)
    op := fun i hi hik => (h.op i hi (by omega)).keep hg.size (fun y hy hl => far y (dk i hi (by omega) y hy) hl) }

/-- A row of changes that can be read and marked; all its blocks are of a set. -/
def DR (S : Nat → Prop) (w : World) (v : Value) (l : List (List Pt)) : Prop := (l = [] ∧ ∃ a cap, v = .slice a 0 cap) ∨ ∃ g off cap vs, v = .slice (some ⟨g, off, none⟩) l.length cap ∧ 0 < l.length ∧ l.length ≤ cap ∧ cap ≤ maxLen ∧ DMo 0 S w g off l vs 0
/-- A row of changes that is marked. -/
def DK (K : Nat) (S : Nat → Prop) (w : World) (v : Value) (l : List (List Pt)) : Prop := (l = [] ∧ ∃ a cap, v = .slice a 0 cap) ∨ ∃ g off cap vs, v = .slice (some ⟨g, off, none⟩) l.length cap ∧ 0 < l.length ∧ l.length ≤ cap ∧ cap ≤ maxLen ∧ DMo K S w g off l vs l.length
theorem DR.out {S S' : Nat → Prop} {w w1 : World} {v : Value} {l : List (List Pt)} (h : DR S w v l) (ho : Out S' w w1) (hd : ∀ y, S y → ¬ S' y) : DR S w1 v l :=
  h.imp id (fun ⟨g, off, cap, vs, e, h1, h2, h3, h4⟩ => ⟨g, off, cap, vs, e, h1, h2, h3, h4.out ho hd⟩)
theorem DR.later {S : Nat → Prop} {w w1 : World} {v : Value} {l : List (List Pt)} (h : DR S w v l) (hb : Below w.heap.size w w1) : DR S w1 v l :=
  h.imp id (fun ⟨g, off, cap, vs, e, h1, h2, h3, h4⟩ => ⟨g, off, cap, vs, e, h1, h2, h3, h4.later hb⟩)
theorem DR.wide {S T : Nat → Prop} {w : World} {v : Value} {l : List (List Pt)} (h : DR S w v l) (hs : ∀ y, S y → T y) : DR T w v l :=
  h.imp id (fun ⟨g, off, cap, vs, e, h1, h2, h3, h4⟩ => ⟨g, off, cap, vs, e, h1, h2, h3, h4.wide hs⟩)
theorem DK.out {K : Nat} {S S' : Nat → Prop} {w w1 : World} {v : Value} {l : List (List Pt)} (h : DK K S w v l) (ho : Out S' w w1) (hd : ∀ y, S y → ¬ S' y) : DK K S w1 v l :=
  h.imp id (fun ⟨g, off, cap, vs, e, h1, h2, h3, h4⟩ => ⟨g, off, cap, vs, e, h1, h2, h3, h4.out ho hd⟩)
theorem DK.later {K : Nat} {S : Nat → Prop} {w w1 : World} {v : Value} {l : List (List Pt)} (h : DK K S w v l) (hb : Below w.heap.size w w1) : DK K S w1 v l :=
  h.imp id (fun ⟨g, off, cap, vs, e, h1, h2, h3, h4⟩ => ⟨g, off, cap, vs, e, h1, h2, h3, h4.later hb⟩)
theorem DR.shp {S : Nat → Prop} {w : World} {v : Value} {l : List (List Pt)} (h : DR S w v l) : ∃ a cap, v = .slice a l.length cap := by
  rcases h with ⟨rfl, a, c, rfl⟩ | ⟨g, off, c, vs, rfl, -⟩
  · exact ⟨a, c, rfl⟩
  · exact ⟨_, c, rfl⟩
theorem DK.shp {K : Nat} {S : Nat → Prop} {w : World} {v : Value} {l : List (List Pt)} (h : DK K S w v l) : ∃ a cap, v = .slice a l.length cap := by
  rcases h with ⟨rfl, a, c, rfl⟩ | ⟨g, off, c, vs, rfl, -⟩
  · exact ⟨a, c, rfl⟩
  · exact ⟨_, c, rfl⟩

/-- A slice of changes as it came in. -/
inductive ArgC (W : World) : Value → List (List Pt) → Prop
  | nil (a : Option Addr) (cap : Nat) : ArgC W (.slice a 0 cap) []
  | row (b off cap : Nat) (l : List (List Pt)) (vs : Nat → Value) (hb : b < W.heap.size) (hn : 0 < l.length) (hle : l.length ≤ cap) (hm : cap ≤ maxLen)
      (hc : ∀ i (h : i < l.length), W.cell? ⟨b, off + i, none⟩ = some (vs i) ∧ ArgP W (vs i) l[i]) :
      ArgC W (.slice (some ⟨b, off, none⟩) l.length cap) l
theorem ArgC.later {W W1 : World} {v : Value} {l : List (List Pt)} (h : ArgC W v l) (hb : Below W.heap.size W W1) : ArgC W1 v l := by
  cases h with
  | nil a cap => exact .nil a cap
  | row b off cap l vs h1 h2 h3 h4 h5 => exact .row b off cap _ vs (Nat.lt_of_lt_of_le h1 hb.size) h2 h3 h4 (fun i hi => ⟨(World.cell?_of_block (a := ⟨b, off + i, none⟩) (hb.block b h1)).trans (h5 i hi).1, (h5 i hi).2.later hb⟩)
theorem argC_len {w : World} {v : Value} {l : List (List Pt)} (h : ArgC w v l) : l.length ≤ 9223372036854775807 := by
  cases h with
  | nil a cap => simp
  | row b off cap p vs h1 h2 h3 h4 h5 => unfold maxLen at h4; omega
theorem argC_shp {w : World} {v : Value} {l : List (List Pt)} (h : ArgC w v l) : ∃ a cap, v = .slice a l.length cap := by
  cases h with
  | nil a cap => exact ⟨a, cap, rfl⟩
  | row b off cap p vs h1 h2 h3 h4 h5 => exact ⟨_, cap, rfl⟩
theorem argP_shp {w : World} {v : Value} {l : List Pt} (h : ArgP w v l) : ∃ a cap, v = .slice a l.length cap := by
  cases h with
  | nil a cap => exact ⟨a, cap, rfl⟩
  | row b off cap p h1 h2 h3 h4 h5 => exact ⟨_, cap, rfl⟩

/-- How much the parts of rows take. -/
def szCU (l : List (List Pt)) : Nat → Nat
  | 0 => 0
  | i + 1 => szCU l i + (match l[i]? with | some x => szPn x | none => 0)
theorem szCU_succ (l : List (List Pt)) (i : Nat) (h : i < l.length) : szCU l (i + 1) = szCU l i + szPn l[i] := by
  show szCU l i + _ = _
  rw [List.getElem?_eq_getElem h]
theorem szCU_mono (l : List (List Pt)) : ∀ i j, i ≤ j → szCU l i ≤ szCU l j
  | i, 0, h => by obtain rfl : i = 0 := by omega
                  exact Nat.le_refl _
  | i, j + 1, h => by
    by_cases e : i = j + 1
    · subst e; exact Nat.le_refl _
    · have := szCU_mono l i j (by omega)
      show _ ≤ szCU l j + _
      omega
def szCn (l : List (List Pt)) : Nat := l.length + szCU l l.length
theorem szPn_len (l : List Pt) : l.length ≤ szPn l := by unfold szPn; omega
theorem szC_each {l : List (List Pt)} {B : Nat} (h : szCn l ≤ B) : l.length ≤ B ∧ ∀ i (hi : i < l.length), szPn l[i] ≤ B := by
  unfold szCn at h
  refine ⟨by omega, fun i hi => ?_⟩
  have h1 := szCU_succ l i hi
  have h2 := szCU_mono l (i + 1) l.length hi
  omega
theorem mkU_sz (l : List (List Pt)) : ∀ i, i ≤ l.length → mkU l i ≤ szCU l i * 3
  | 0, _ => Nat.le_refl _
  | i + 1, h => by
    have h1 := mkU_sz l i (by omega)
    have h2 := szCU_succ l i h
    have h3 := mkU_succ l i h
    have h4 := szPn_len l[i]
    omega
/-- How many marks the whole takes. -/
def mkN (l : List (List Pt)) : Nat := mkU l l.length
theorem mkN_sz (l : List (List Pt)) : mkN l ≤ szCn l * 3 := by
  have := mkU_sz l l.length (Nat.le_refl _)
  unfold mkN szCn
  omega
def ThinP (l : List Pt) : Prop := ∀ i (hi : i < l.length), l[i].put.size ≤ 9223372036854775807 ∧ l[i].drop.size ≤ 9223372036854775807

end Go.Proofs.YtmjehpigfkobeabDoor

set_option linter.unusedVariables false
namespace Go.Proofs.YtmjehpigfkobeabDoor
open Go.RowKit
open Doc1

end Go.Proofs.YtmjehpigfkobeabDoor

set_option linter.unusedVariables false
namespace Go.Proofs.YtmjehpigfkobeabDoor
open Go.RowKit
open Doc1

/-- A block of cells. -/
def CB (w : World) (c : Nat) (cs : Array Value) : Prop := ∃ t, w.heap[c]? = some (.cells cs t (0, 0))
theorem CB.lt {w : World} {c : Nat} {cs : Array Value} (h : CB w c cs) : c < w.heap.size := by
  obtain ⟨t, h⟩ := h
  exact (Array.getElem?_eq_some_iff.1 h).1
theorem CB.block {w w1 : World} {c : Nat} {cs : Array Value} (h : CB w c cs) (hb : w1.heap[c]? = w.heap[c]?) : CB w1 c cs := by
  obtain ⟨t, h⟩ := h
  exact ⟨t, hb.trans h⟩
theorem CB.later {w w1 : World} {c : Nat} {cs : Array Value} (h : CB w c cs) (hb : Below w.heap.size w w1) : CB w1 c cs := h.block (hb.block c h.lt)
theorem CB.out {S : Nat → Prop} {w w1 : World} {c : Nat} {cs : Array Value} (h : CB w c cs) (ho : Out S w w1) (hn : ¬ S c) : CB w1 c cs := h.block (ho.block c h.lt hn)
theorem CB.cell {w : World} {c : Nat} {cs : Array Value} (h : CB w c cs) (j : Nat) {x : Value} (hx : cs[j]? = some x) : w.cell? ⟨c, j, none⟩ = some x := by
  obtain ⟨t, h⟩ := h
  rw [cell_of_row _ _ j _ _ (0, 0) h, hx]
theorem CB.fz {w : World} {c : Nat} {cs : Array Value} (h : CB w c cs) (j : Nat) : w.frozen? ⟨c, j, none⟩ = false := by
  obtain ⟨t, h⟩ := h
  simp [World.frozen?, h]
theorem CB.set {w : World} {c : Nat} {cs : Array Value} (h : CB w c cs) (j : Nat) (v : Value) {ds : Array Value} (e : cs.setIfInBounds j v = ds) : CB (w.setCell ⟨c, j, none⟩ v) c ds := by
  obtain ⟨t, h⟩ := h
  obtain ⟨hlt, hk⟩ := Array.getElem?_eq_some_iff.1 h
  refine ⟨t, ?_⟩
  show (w.heap.modify c _)[c]? = _
  rw [Array.getElem?_eq_getElem (by rw [Array.size_modify]; exact hlt), Array.getElem_modify_self, hk]
  simp only
  rw [← e]
  rfl
theorem CB.other {w : World} {c d : Nat} {cs : Array Value} (h : CB w c cs) (hd : d ≠ c) (j : Nat) (v : Value) : CB (w.setCell ⟨d, j, none⟩ v) c cs := h.block (Below.heap_setCell _ _ _ _ (by show c ≠ d; exact Ne.symm hd))
theorem CB.new (w : World) (cs : Array Value) (t : TypeId) : CB (w.alloc (.cells cs t)) w.heap.size cs := ⟨t, heap_alloc_new w _⟩

theorem PCp.block {w w1 : World} {g : Nat} {l : List Pt} (h : PCp w g l) (hs : w.heap.size ≤ w1.heap.size) (e : w1.heap[g]? = w.heap[g]?) : PCp w1 g l :=
  ⟨fun j u hu => (World.cell?_of_block e).trans (h.at' j u hu), ⟨fun j hj => by rw [World.cell?_of_block e]; exact h.blk.ex j hj, fun j => by rw [World.frozen?_of_block e]; exact h.blk.fz j⟩, Nat.lt_of_lt_of_le h.lt hs⟩

/-- While changes are copied. -/
structure CW (w : World) (l : List (List Pt)) (k : Nat) (wr : World) : Prop where
  blk : Blk wr w.heap.size l.length
  below : Below w.heap.size w wr
  lt : w.heap.size < wr.heap.size
  c : ∃ gs : Nat → Nat, (∀ i (h : i < l.length), i < k → wr.cell? ⟨w.heap.size, i, none⟩ = some (.slice (some ⟨gs i, 0, none⟩) l[i].length l[i].length) ∧ PCp wr (gs i) l[i] ∧ w.heap.size < gs i) ∧ ∀ i j, i < j → j < k → gs i < gs j
theorem cw_start {w : World} {l : List (List Pt)} {C : Array Value} {t : TypeId} (hC : C.size = l.length) : CW w l 0 (w.alloc (.cells C t)) where
  blk := ⟨fun j hj => ⟨C[j]'(by omega), by rw [cell_of_row _ w.heap.size j C t (0, 0) (heap_alloc_new w _)]; simp [hC, hj]⟩, fun j => World.frozen?_alloc_new _ _ _ _⟩
  below := (Below.refl _ _).alloc (Nat.le_refl _) _
  lt := by simp
  c := ⟨fun _ => 0, fun i _ hi => by omega, fun i j _ hj => by omega⟩
theorem CW.later {w wr w2 : World} {l : List (List Pt)} {k : Nat} (h : CW w l k wr) (hb : Below wr.heap.size wr w2) : CW w l k w2 where
  blk := h.blk.later hb h.lt
  below := h.below.trans (hb.mono h.below.size)
  lt := Nat.lt_of_lt_of_le h.lt hb.size
  c := by
    obtain ⟨gs, hc, hr⟩ := h.c
    refine ⟨gs, fun i hi hk => ?_, hr⟩
    obtain ⟨h1, h2, h3⟩ := hc i hi hk
    exact ⟨(World.cell?_of_block (a := ⟨w.heap.size, i, none⟩) (hb.block _ h.lt)).trans h1, h2.later hb, h3⟩
theorem CW.step {w wr : World} {l : List (List Pt)} {k g : Nat} (h : CW w l k wr) (hk : k < l.length) (hI : PCp wr g l[k]) (hg2 : w.heap.size < g) (hgs : ∀ gs : Nat → Nat, (∀ i (h : i < l.length), i < k → PCp wr (gs i) l[i]) → True) (hnew : ∃ n, n ≤ g ∧ ∀ gs : Nat → Nat, (∀ i (h : i < l.length), i < k → wr.cell? ⟨w.heap.size, i, none⟩ = some (.slice (some ⟨gs i, 0, none⟩) l[i].length l[i].length)) → ∀ i, i < k → gs i < n) :
    CW w l (k + 1) (wr.setCell ⟨w.heap.size, k, none⟩ (.slice (some ⟨g, 0, none⟩) l[k].length l[k].length)) where
  blk := h.blk.set _ _
  below := h.below.setCell (Nat.le_refl _) _
  lt := by simpa [World.setCell] using h.lt
  c := by
    obtain ⟨gs, hc, hr⟩ := h.c
    obtain ⟨n, hn, hnew⟩ := hnew
    have hlow := hnew gs (fun i hi hik => (hc i hi hik).1)
    have pc : ∀ {b : Nat} {p : List Pt}, PCp wr b p → w.heap.size < b → PCp (wr.setCell ⟨w.heap.size, k, none⟩ (.slice (some ⟨g, 0, none⟩) l[k].length l[k].length)) b p := fun hp hb => hp.block (by simp [World.setCell]) (Below.heap_setCell _ _ _ _ (by show _ ≠ w.heap.size; omega))
    refine ⟨fun i => if i = k then g else gs i, fun i hi hik => ?_, fun i j hij hjk => ?_⟩
    · by_cases e : i = k
      · subst e
        simp only [if_true]
        obtain ⟨x0, y0⟩ := h.blk.ex i hi
        exact ⟨World.cell?_setCell_same _ _ _ y0, pc hI hg2, hg2⟩
      · simp only [if_neg e]
        obtain ⟨h1, h2, h3⟩ := hc i hi (by omega)
        exact ⟨(World.cell?_setCell_other _ _ _ _ (fun c => e (Addr.mk.inj c).2.1.symm)).trans h1, pc h2 h3, h3⟩
    · by_cases e : j = k
      · subst e
        have ei : i ≠ j := by omega
        simp only [if_neg ei, if_true]
        have := hlow i hij
        omega
      · have ei : i ≠ k := by omega
        simp only [if_neg e, if_neg ei]
        exact hr i j hij (by omega)
theorem CW.bound {w wr : World} {l : List (List Pt)} {k : Nat} (h : CW w l k wr) (hk : k ≤ l.length) : ∀ gs : Nat → Nat, (∀ i (h : i < l.length), i < k → wr.cell? ⟨w.heap.size, i, none⟩ = some (.slice (some ⟨gs i, 0, none⟩) l[i].length l[i].length)) → ∀ i, i < k → gs i < wr.heap.size := by
  intro gs hg i hi
  obtain ⟨gs', hc, -⟩ := h.c
  have h1 := hg i (by omega) hi
  obtain ⟨h2, h3, -⟩ := hc i (by omega) hi
  rw [h2] at h1
  have : gs' i = gs i := by
    injection h1 with h1
    injection h1 with h1
    injection h1 with h1
    injection h1 with h1
  rw [← this]
  exact h3.lt
theorem CW.all {w wr : World} {l : List (List Pt)} (h : CW w l l.length wr) (hm : l.length ≤ maxLen) (hs : ∀ i (hi : i < l.length), l[i].length ≤ maxLen) : DR (fun k => w.heap.size ≤ k ∧ k < wr.heap.size) wr (.slice (some ⟨w.heap.size, 0, none⟩) l.length l.length) l := by
  rcases Nat.eq_zero_or_pos l.length with h0 | h0
  · obtain rfl := List.eq_nil_of_length_eq_zero h0
    exact .inl ⟨rfl, _, _, rfl⟩
  · obtain ⟨gs, hc, hr⟩ := h.c
    refine .inr ⟨w.heap.size, 0, l.length, fun i => .slice (some ⟨gs i, 0, none⟩) (l[i]?.getD []).length (l[i]?.getD []).length, rfl, h0, Nat.le_refl _, hm, h.lt, ⟨Nat.le_refl _, h.lt⟩, fun i hi => ?_, fun i hi y hy => ?_, fun i j hij hj y hy c => ?_, fun i hi c => by omega, fun i hi _ => ?_⟩
    · rw [Nat.zero_add, List.getElem?_eq_getElem hi]; exact (hc i hi hi).1
    · have e : gs i = y := Option.some.inj hy
      have := (hc i hi hi).2.1.lt
      have := (hc i hi hi).2.2
      exact ⟨⟨by omega, by omega⟩, by omega⟩
    · have e : gs i = y := Option.some.inj hy
      have e' : gs j = y := Option.some.inj c
      have := hr i j hij hj
      omega
    · rw [List.getElem?_eq_getElem hi]
      exact PR.cp (hc i hi hi).2.1 (hs i hi)

end Go.Proofs.YtmjehpigfkobeabDoor

set_option linter.unusedVariables false
namespace Go.Proofs.YtmjehpigfkobeabDoor
open Go.RowKit
open Doc1

def BdC (l : List (List Pt)) : Prop := l.length ≤ 10000000 ∧ ∀ i (hi : i < l.length), l[i].length ≤ 10000000
theorem bdC_of {l : List (List Pt)} (h : szCn l ≤ 1048576) : BdC l := by
  obtain ⟨h1, h2⟩ := szC_each h
  exact ⟨by omega, fun i hi => by have := h2 i hi; have := szPn_len l[i]; omega⟩

theorem cb_two (w : World) (a b : Array Value) (t u : TypeId) : CB ((w.alloc (.cells a t)).alloc (.cells b u)) w.heap.size a ∧ CB ((w.alloc (.cells a t)).alloc (.cells b u)) (w.heap.size + 1) b ∧ Below w.heap.size w ((w.alloc (.cells a t)).alloc (.cells b u)) ∧ ((w.alloc (.cells a t)).alloc (.cells b u)).heap.size = w.heap.size + 2 := by
  refine ⟨(CB.new w a t).block (Below.heap_alloc _ _ _ (by simp)), ?_, ((Below.refl _ _).alloc (Nat.le_refl _) _).alloc (by simp) _, by simp⟩
  have := CB.new (w.alloc (.cells a t)) b u
  rwa [World.size_alloc] at this

/-- How much a history takes. -/
def szHn (t : ByteArray) (u r : List (List Pt)) : Nat := t.size + szCn u + szCn r

theorem DR.block {S : Nat → Prop} {w w1 : World} {v : Value} {l : List (List Pt)} (h : DR S w v l) (hs : w.heap.size ≤ w1.heap.size) (he : ∀ y, S y → y < w.heap.size → w1.heap[y]? = w.heap[y]?) : DR S w1 v l :=
  h.imp id (fun ⟨g, off, cap, vs, e, h1, h2, h3, h4⟩ => ⟨g, off, cap, vs, e, h1, h2, h3, h4.keep hs he⟩)
theorem DR.set {S : Nat → Prop} {w : World} {v : Value} {l : List (List Pt)} (h : DR S w v l) {b j : Nat} (hb : ¬ S b) (x : Value) : DR S (w.setCell ⟨b, j, none⟩ x) v l :=
  h.block (by simp [World.setCell]) (fun y hy _ => Below.heap_setCell _ _ _ _ (by show y ≠ b; intro c; subst c; exact hb hy))

end Go.Proofs.YtmjehpigfkobeabDoor

set_option linter.unusedVariables false
namespace Go.Proofs.YtmjehpigfkobeabDoor
open Go.RowKit
open Doc1

/-- A history's rows: all blocks are of lo to hi. -/
def HX (lo hi : Nat) (w : World) (vu vr : Value) (u r : List (List Pt)) : Prop :=
  ∃ S T : Nat → Prop, DR S w vu u ∧ DR T w vr r ∧ (∀ y, S y → ¬ T y) ∧ ∀ y, S y ∨ T y → lo ≤ y ∧ y < hi
/-- The same, marked. -/
def HK (K lo hi : Nat) (w : World) (vu vr : Value) (u r : List (List Pt)) : Prop :=
  ∃ S T : Nat → Prop, DK K S w vu u ∧ DK (K + mkN u) T w vr r ∧ (∀ y, S y → ¬ T y) ∧ ∀ y, S y ∨ T y → lo ≤ y ∧ y < hi
def Iv (lo hi : Nat) : Nat → Prop := fun y => lo ≤ y ∧ y < hi
theorem HX.later {lo hi : Nat} {w w1 : World} {vu vr : Value} {u r : List (List Pt)} (h : HX lo hi w vu vr u r) (hb : Below w.heap.size w w1) : HX lo hi w1 vu vr u r := by
  obtain ⟨S, T, h1, h2, h3, h4⟩ := h
  exact ⟨S, T, h1.later hb, h2.later hb, h3, h4⟩
theorem HX.out {lo hi a b : Nat} {w w1 : World} {vu vr : Value} {u r : List (List Pt)} (h : HX lo hi w vu vr u r) (ho : Out (Iv a b) w w1) (hd : hi ≤ a ∨ b ≤ lo) : HX lo hi w1 vu vr u r := by
  obtain ⟨S, T, h1, h2, h3, h4⟩ := h
  exact ⟨S, T, h1.out ho (fun y hy c => by have := h4 y (.inl hy); have := c.1; have := c.2; omega), h2.out ho (fun y hy c => by have := h4 y (.inr hy); have := c.1; have := c.2; omega), h3, h4⟩
theorem HX.wide {lo hi lo' hi' : Nat} {w : World} {vu vr : Value} {u r : List (List Pt)} (h : HX lo hi w vu vr u r) (h1 : lo' ≤ lo) (h2 : hi ≤ hi') : HX lo' hi' w vu vr u r := by
  obtain ⟨S, T, k1, k2, k3, k4⟩ := h
  exact ⟨S, T, k1, k2, k3, fun y hy => by have := k4 y hy; omega⟩
theorem HK.later {K lo hi : Nat} {w w1 : World} {vu vr : Value} {u r : List (List Pt)} (h : HK K lo hi w vu vr u r) (hb : Below w.heap.size w w1) : HK K lo hi w1 vu vr u r := by
  obtain ⟨S, T, h1, h2, h3, h4⟩ := h
  exact ⟨S, T, h1.later hb, h2.later hb, h3, h4⟩
theorem HK.out {K lo hi a b : Nat} {w w1 : World} {vu vr : Value} {u r : List (List Pt)} (h : HK K lo hi w vu vr u r) (ho : Out (Iv a b) w w1) (hd : hi ≤ a ∨ b ≤ lo) : HK K lo hi w1 vu vr u r := by
  obtain ⟨S, T, h1, h2, h3, h4⟩ := h
  exact ⟨S, T, h1.out ho (fun y hy c => by have := h4 y (.inl hy); have := c.1; have := c.2; omega), h2.out ho (fun y hy c => by have := h4 y (.inr hy); have := c.1; have := c.2; omega), h3, h4⟩
theorem CB.outI {a b : Nat} {w w1 : World} {c : Nat} {cs : Array Value} (h : CB w c cs) (ho : Out (Iv a b) w w1) (hd : c < a ∨ b ≤ c) : CB w1 c cs := h.out ho (fun e => by have := e.1; have := e.2; omega)
theorem HX.shp {lo hi : Nat} {w : World} {vu vr : Value} {u r : List (List Pt)} (h : HX lo hi w vu vr u r) : ∃ a c a' c', vu = .slice a u.length c ∧ vr = .slice a' r.length c' := by
  obtain ⟨S, T, h1, h2, -, -⟩ := h
  obtain ⟨a, c, e⟩ := h1.shp
  obtain ⟨a', c', e'⟩ := h2.shp
  exact ⟨a, c, a', c', e, e'⟩
theorem hx_nil (lo hi : Nat) (w : World) (a b : Option Addr) (c d : Nat) : HX lo hi w (.slice a 0 c) (.slice b 0 d) [] [] :=
  ⟨fun _ => False, fun _ => False, .inl ⟨rfl, a, c, rfl⟩, .inl ⟨rfl, b, d, rfl⟩, fun _ h => h.elim, fun _ h => h.elim (fun c => c.elim) (fun c => c.elim)⟩

/-- What a function that answers a history tells. -/
def HPost (w : World) (T : ByteArray) (U V : List (List Pt)) (b : Bool) (e : Ending) (w' : World) : Prop :=
  ∃ xu xr, e = .returned (.tuple #[.agg #[.string T, xu, xr], .bool b]) ∧ HX w.heap.size w'.heap.size w' xu xr U V ∧ Below w.heap.size w w'
end Go.Proofs.YtmjehpigfkobeabDoor
