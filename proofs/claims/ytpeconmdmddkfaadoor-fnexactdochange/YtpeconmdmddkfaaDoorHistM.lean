/- Rows of changes, each a row of parts: sizes, copies, comparisons, marks. Rows of changes: copies, comparisons, marks. Rows of changes and histories are copied. Histories: sizes, copies, comparisons, marks. Histories that lie between two blocks. -/
import Derived.Test.YtpeconmdmddkfaaDoorMkPz
import Derived.Deep.RegionWith
set_option linter.unusedVariables false
namespace Go.Proofs.YtpeconmdmddkfaaDoor
open Go.RowKit
open Doc1

theorem ret_c {x y : Int} (h : x = y) : Ending.returned (.int .i64 x) = .returned (.int .i64 y) := by rw [h]

/-- All blocks but those of a set are as they were. -/
structure Out (S : Nat → Prop) (w w1 : World) : Prop where
  os : w1.os = w.os
  tape : w1.tape = w.tape
  output : w1.output = w.output
  size : w.heap.size ≤ w1.heap.size
  block : ∀ k, k < w.heap.size → ¬ S k → w1.heap[k]? = w.heap[k]?
theorem Out.refl (S : Nat → Prop) (w : World) : Out S w w := ⟨rfl, rfl, rfl, Nat.le_refl _, fun _ _ _ => rfl⟩
theorem Out.trans {S : Nat → Prop} {a b c : World} (h : Out S a b) (k : Out S b c) : Out S a c :=
  ⟨k.os.trans h.os, k.tape.trans h.tape, k.output.trans h.output, Nat.le_trans h.size k.size, fun i hi hn => (k.block i (Nat.lt_of_lt_of_le hi h.size) hn).trans (h.block i hi hn)⟩
theorem Out.below {S : Nat → Prop} {w w1 : World} (h : Below w.heap.size w w1) : Out S w w1 := ⟨h.os, h.tape, h.output, h.size, fun k hk _ => h.block k hk⟩
theorem Out.grown {S : Nat → Prop} {w w1 : World} {r : Option Nat} (h : w.grownBy w1 r) (hr : ∀ y, r = some y → S y) : Out S w w1 := ⟨h.os, h.tape, h.output, h.size, fun k hk hn => h.block k hk (fun e => hn (hr k e.symm))⟩
theorem Out.mono {S T : Nat → Prop} {w w1 : World} (h : Out S w w1) (hs : ∀ k, S k → T k) : Out T w w1 := ⟨h.os, h.tape, h.output, h.size, fun k hk hn => h.block k hk (fun c => hn (hs k c))⟩
theorem Out.to {S : Nat → Prop} {w w1 : World} {B : Nat} (h : Out S w w1) (hs : ∀ k, S k → B ≤ k) (hB : B ≤ w.heap.size) : Below B w w1 := ⟨h.os, h.tape, h.output, h.size, fun k hk => h.block k (Nat.lt_of_lt_of_le hk hB) (fun c => by have := hs k c; omega)⟩

/-- How many marks the first of the rows take. -/
def mkU (l : List (List Pt)) : Nat → Nat
  | 0 => 0
  | i + 1 => mkU l i + (match l[i]? with | some x => x.length * 3 | none => 0)
theorem mkU_succ (l : List (List Pt)) (i : Nat) (h : i < l.length) : mkU l (i + 1) = mkU l i + l[i].length * 3 := by
  show mkU l i + _ = _
  rw [List.getElem?_eq_getElem h]
theorem mkU_mono (l : List (List Pt)) : ∀ i j, i ≤ j → mkU l i ≤ mkU l j
  | i, 0, h => by obtain rfl : i = 0 := by omega
                  exact Nat.le_refl _
  | i, j + 1, h => by
    by_cases e : i = j + 1
    · subst e; exact Nat.le_refl _
    · have := mkU_mono l i j (by omega)
      show _ ≤ mkU l j + _
      omega
/-- A row of changes in a block, the first k of them marked from K on. -/
structure DMo (K : Nat) (S : Nat → Prop) (w : World) (g off : Nat) (l : List (List Pt)) (vs : Nat → Value) (k : Nat) : Prop where
  lt : g < w.heap.size
  inS : S g
  c : ∀ i, i < l.length → w.cell? ⟨g, off + i, none⟩ = some (vs i)
  opS : ∀ i, i < l.length → ∀ y, (vs i).ownBlock = some y → S y ∧ y ≠ g
  dis : ∀ i j, i < j → j < l.length → ∀ y, (vs i).ownBlock = some y → (vs j).ownBlock ≠ some y
  mkd : ∀ i (h : i < l.length), i < k → PMq (K + mkU l i) w (vs i) l[i].length
  op : ∀ i (h : i < l.length), k ≤ i → PR w (vs i) l[i]
theorem DMo.keep {K k : Nat} {S : Nat → Prop} {w w1 : World} {g off : Nat} {l : List (List Pt)} {vs : Nat → Value} (h : DMo K S w g off l vs k) (hs : w.heap.size ≤ w1.heap.size) (he : ∀ y, S y → y < w.heap.size → w1.heap[y]? = w.heap[y]?) : DMo K S w1 g off l vs k where
  lt := Nat.lt_of_lt_of_le h.lt hs
  inS := h.inS
  c := fun i hi => (World.cell?_of_block (a := ⟨g, off + i, none⟩) (he g h.inS h.lt)).trans (h.c i hi)
  opS := h.opS
  dis := h.dis
  mkd := fun i hi hk => (h.mkd i hi hk).keep hs (fun y hy => he y (h.opS i hi y hy).1)
  op := fun i hi hk => (h.op i hi hk).keep hs (fun y hy => he y (h.opS i hi y hy).1)
theorem DMo.out {K k : Nat} {S S' : Nat → Prop} {w w1 : World} {g off : Nat} {l : List (List Pt)} {vs : Nat → Value} (h : DMo K S w g off l vs k) (ho : Out S' w w1) (hd : ∀ y, S y → ¬ S' y) : DMo K S w1 g off l vs k :=
  h.keep ho.size (fun y hy hl => ho.block y hl (hd y hy))
theorem DMo.later {K k : Nat} {S : Nat → Prop} {w w1 : World} {g off : Nat} {l : List (List Pt)} {vs : Nat → Value} (h : DMo K S w g off l vs k) (hb : Below w.heap.size w w1) : DMo K S w1 g off l vs k :=
  h.keep hb.size (fun y hy hl => hb.block y hl)
theorem DMo.wide {K k : Nat} {S T : Nat → Prop} {w : World} {g off : Nat} {l : List (List Pt)} {vs : Nat → Value} (h : DMo K S w g off l vs k) (hs : ∀ y, S y → T y) : DMo K T w g off l vs k :=
  ⟨h.lt, hs g h.inS, h.c, fun i hi y hy => ⟨hs y (h.opS i hi y hy).1, (h.opS i hi y hy).2⟩, h.dis, h.mkd, h.op⟩
theorem DMo.start {K K' : Nat} {S : Nat → Prop} {w : World} {g off : Nat} {l : List (List Pt)} {vs : Nat → Value} (h : DMo K S w g off l vs 0) : DMo K' S w g off l vs 0 :=
  ⟨h.lt, h.inS, h.c, h.opS, h.dis, fun i hi hk => by omega, h.op⟩
theorem DMo.step {K k : Nat} {S : Nat → Prop} {w w1 : World} {g off : Nat} {l : List (List Pt)} {vs : Nat → Value} (h : DMo K S w g off l vs k) (hk : k < l.length) (hg : w.grownBy w1 (vs k).ownBlock) (hm : PMq (K + mkU l k) w1 (vs k) l[k].length) : DMo K S w1 g off l vs (k + 1) := by
  have far : ∀ y, (vs k).ownBlock ≠ some y → y < w.heap.size → w1.heap[y]? = w.heap[y]? := fun y hy hl => hg.block y hl (Ne.symm hy)
  have dk : ∀ i, i < l.length → i ≠ k → ∀ y, (vs i).ownBlock = some y → (vs k).ownBlock ≠ some y := fun i hi hne y hy c => by
    by_cases e : i < k
    · exact h.dis i k e hk y hy c
    · exact h.dis k i (by omega) hi y c hy
  exact {
    lt := Nat.lt_of_lt_of_le h.lt hg.size
    inS := h.inS
    c := fun i hi => (World.cell?_of_block (a := ⟨g, off + i, none⟩) (far g (fun c => (h.opS k hk g c).2 rfl) h.lt)).trans (h.c i hi)
    opS := h.opS
    dis := h.dis
    mkd := fun i hi hik => by
      by_cases e : i = k
      · subst e; exact hm
      · exact (h.mkd i hi (by omega)).keep hg.size (fun y hy hl => far y (dk i hi e y hy) hl)
    op := fun i hi hik => (h.op i hi (by omega)).keep hg.size (fun y hy hl => far y (dk i hi (by omega) y hy) hl) }

/-- A row of changes that can be read and marked; all its blocks are of a set. -/
def DR (S : Nat → Prop) (w : World) (v : Value) (l : List (List Pt)) : Prop := (l = [] ∧ ∃ a cap, v = .slice a 0 cap) ∨ ∃ g off cap vs, v = .slice (some ⟨g, off, none⟩) l.length cap ∧ 0 < l.length ∧ l.length ≤ cap ∧ cap ≤ maxLen ∧ DMo 0 S w g off l vs 0
/-- A row of changes that is marked. -/
def DK (K : Nat) (S : Nat → Prop) (w : World) (v : Value) (l : List (List Pt)) : Prop := (l = [] ∧ ∃ a cap, v = .slice a 0 cap) ∨ ∃ g off cap vs, v = .slice (some ⟨g, off, none⟩) l.length cap ∧ 0 < l.length ∧ l.length ≤ cap ∧ cap ≤ maxLen ∧ DMo K S w g off l vs l.length
theorem DR.out {S S' : Nat → Prop} {w w1 : World} {v : Value} {l : List (List Pt)} (h : DR S w v l) (ho : Out S' w w1) (hd : ∀ y, S y → ¬ S' y) : DR S w1 v l :=
  h.imp id (fun ⟨g, off, cap, vs, e, h1, h2, h3, h4⟩ => ⟨g, off, cap, vs, e, h1, h2, h3, h4.out ho hd⟩)
theorem DR.later {S : Nat → Prop} {w w1 : World} {v : Value} {l : List (List Pt)} (h : DR S w v l) (hb : Below w.heap.size w w1) : DR S w1 v l :=
  h.imp id (fun ⟨g, off, cap, vs, e, h1, h2, h3, h4⟩ => ⟨g, off, cap, vs, e, h1, h2, h3, h4.later hb⟩)
theorem DR.wide {S T : Nat → Prop} {w : World} {v : Value} {l : List (List Pt)} (h : DR S w v l) (hs : ∀ y, S y → T y) : DR T w v l :=
  h.imp id (fun ⟨g, off, cap, vs, e, h1, h2, h3, h4⟩ => ⟨g, off, cap, vs, e, h1, h2, h3, h4.wide hs⟩)
theorem DK.out {K : Nat} {S S' : Nat → Prop} {w w1 : World} {v : Value} {l : List (List Pt)} (h : DK K S w v l) (ho : Out S' w w1) (hd : ∀ y, S y → ¬ S' y) : DK K S w1 v l :=
  h.imp id (fun ⟨g, off, cap, vs, e, h1, h2, h3, h4⟩ => ⟨g, off, cap, vs, e, h1, h2, h3, h4.out ho hd⟩)
theorem DK.later {K : Nat} {S : Nat → Prop} {w w1 : World} {v : Value} {l : List (List Pt)} (h : DK K S w v l) (hb : Below w.heap.size w w1) : DK K S w1 v l :=
  h.imp id (fun ⟨g, off, cap, vs, e, h1, h2, h3, h4⟩ => ⟨g, off, cap, vs, e, h1, h2, h3, h4.later hb⟩)
theorem DR.shp {S : Nat → Prop} {w : World} {v : Value} {l : List (List Pt)} (h : DR S w v l) : ∃ a cap, v = .slice a l.length cap := by
  rcases h with ⟨rfl, a, c, rfl⟩ | ⟨g, off, c, vs, rfl, -⟩
  · exact ⟨a, c, rfl⟩
  · exact ⟨_, c, rfl⟩
theorem DK.shp {K : Nat} {S : Nat → Prop} {w : World} {v : Value} {l : List (List Pt)} (h : DK K S w v l) : ∃ a cap, v = .slice a l.length cap := by
  rcases h with ⟨rfl, a, c, rfl⟩ | ⟨g, off, c, vs, rfl, -⟩
  · exact ⟨a, c, rfl⟩
  · exact ⟨_, c, rfl⟩

/-- A slice of changes as it came in. -/
inductive ArgC (W : World) : Value → List (List Pt) → Prop
  | nil (a : Option Addr) (cap : Nat) : ArgC W (.slice a 0 cap) []
  | row (b off cap : Nat) (l : List (List Pt)) (vs : Nat → Value) (hb : b < W.heap.size) (hn : 0 < l.length) (hle : l.length ≤ cap) (hm : cap ≤ maxLen)
      (hc : ∀ i (h : i < l.length), W.cell? ⟨b, off + i, none⟩ = some (vs i) ∧ ArgP W (vs i) l[i]) :
      ArgC W (.slice (some ⟨b, off, none⟩) l.length cap) l
theorem ArgC.later {W W1 : World} {v : Value} {l : List (List Pt)} (h : ArgC W v l) (hb : Below W.heap.size W W1) : ArgC W1 v l := by
  cases h with
  | nil a cap => exact .nil a cap
  | row b off cap l vs h1 h2 h3 h4 h5 => exact .row b off cap _ vs (Nat.lt_of_lt_of_le h1 hb.size) h2 h3 h4 (fun i hi => ⟨(World.cell?_of_block (a := ⟨b, off + i, none⟩) (hb.block b h1)).trans (h5 i hi).1, (h5 i hi).2.later hb⟩)
theorem argC_len {w : World} {v : Value} {l : List (List Pt)} (h : ArgC w v l) : l.length ≤ 9223372036854775807 := by
  cases h with
  | nil a cap => simp
  | row b off cap p vs h1 h2 h3 h4 h5 => unfold maxLen at h4; omega
theorem argC_shp {w : World} {v : Value} {l : List (List Pt)} (h : ArgC w v l) : ∃ a cap, v = .slice a l.length cap := by
  cases h with
  | nil a cap => exact ⟨a, cap, rfl⟩
  | row b off cap p vs h1 h2 h3 h4 h5 => exact ⟨_, cap, rfl⟩
theorem argP_shp {w : World} {v : Value} {l : List Pt} (h : ArgP w v l) : ∃ a cap, v = .slice a l.length cap := by
  cases h with
  | nil a cap => exact ⟨a, cap, rfl⟩
  | row b off cap p h1 h2 h3 h4 h5 => exact ⟨_, cap, rfl⟩

/-- How much the parts of rows take. -/
def szCU (l : List (List Pt)) : Nat → Nat
  | 0 => 0
  | i + 1 => szCU l i + (match l[i]? with | some x => szPn x | none => 0)
theorem szCU_succ (l : List (List Pt)) (i : Nat) (h : i < l.length) : szCU l (i + 1) = szCU l i + szPn l[i] := by
  show szCU l i + _ = _
  rw [List.getElem?_eq_getElem h]
theorem szCU_mono (l : List (List Pt)) : ∀ i j, i ≤ j → szCU l i ≤ szCU l j
  | i, 0, h => by obtain rfl : i = 0 := by omega
                  exact Nat.le_refl _
  | i, j + 1, h => by
    by_cases e : i = j + 1
    · subst e; exact Nat.le_refl _
    · have := szCU_mono l i j (by omega)
      show _ ≤ szCU l j + _
      omega
def szCn (l : List (List Pt)) : Nat := l.length + szCU l l.length
theorem szPn_len (l : List Pt) : l.length ≤ szPn l := by unfold szPn; omega
theorem szC_each {l : List (List Pt)} {B : Nat} (h : szCn l ≤ B) : l.length ≤ B ∧ ∀ i (hi : i < l.length), szPn l[i] ≤ B := by
  unfold szCn at h
  refine ⟨by omega, fun i hi => ?_⟩
  have h1 := szCU_succ l i hi
  have h2 := szCU_mono l (i + 1) l.length hi
  omega
theorem mkU_sz (l : List (List Pt)) : ∀ i, i ≤ l.length → mkU l i ≤ szCU l i * 3
  | 0, _ => Nat.le_refl _
  | i + 1, h => by
    have h1 := mkU_sz l i (by omega)
    have h2 := szCU_succ l i h
    have h3 := mkU_succ l i h
    have h4 := szPn_len l[i]
    omega
/-- How many marks the whole takes. -/
def mkN (l : List (List Pt)) : Nat := mkU l l.length
theorem mkN_sz (l : List (List Pt)) : mkN l ≤ szCn l * 3 := by
  have := mkU_sz l l.length (Nat.le_refl _)
  unfold mkN szCn
  omega
def ThinP (l : List Pt) : Prop := ∀ i (hi : i < l.length), l[i].put.size ≤ 9223372036854775807 ∧ l[i].drop.size ≤ 9223372036854775807

set_option maxHeartbeats 1000000 in
theorem szChange_any (v : Value) (l : List Pt) (left : Nat) (w : World) (hl : left ≤ 1048576) (hv : ArgP w v l) (ht : ThinP l) :
    Calls Tryd.prog 120 #[.agg #[v], .int .i64 (left : Int)] w fun e w' => e = .returned (.int .i64 (if szPn l ≤ left then ((left - szPn l : Nat) : Int) else -1)) ∧ Below w.heap.size w w' := by
  have hb1 : Below w.heap.size w (w.alloc (.cells #[v] 164)) := (Below.refl _ _).alloc (Nat.le_refl _) _
  have H := hide (szP_from (hv.later hb1) ht (argP_len hv) left hl)
  obtain ⟨a, c, ev⟩ := argP_shp hv
  subst ev
  have HB := hide hb1
  clear hb1 hv ht
  by_cases hq : szPn l ≤ left
  · rw [if_pos hq] at H ⊢
    obtain ⟨K, hKe⟩ : ∃ K : Nat, left - szPn l = K := ⟨_, rfl⟩
    rw [hKe] at H ⊢
    have hK : decide ((K : Int) < 0) = false := by rw [decide_eq_false_iff_not]; omega
    clear hKe hq
    go_enter Tryd.func120, Tryd.ntmps120
    go_wp2_with fail
    refine H.out.mono ?_
    rintro e w2 ⟨rfl, hb2⟩
    have HB2 : Hid (Below w.heap.size w w2) := hide (HB.out.trans (hb2.mono (by simp)))
    clear hb2
    go_wp2
    go_ret
    exact ⟨rfl, HB2.out⟩
  · rw [if_neg hq] at H ⊢
    clear hq
    go_enter Tryd.func120, Tryd.ntmps120
    go_wp2_with fail
    refine H.out.mono ?_
    rintro e w2 ⟨rfl, hb2⟩
    have HB2 : Hid (Below w.heap.size w w2) := hide (HB.out.trans (hb2.mono (by simp)))
    clear hb2
    go_wp2
    go_ret
    exact ⟨rfl, HB2.out⟩

set_option maxHeartbeats 2000000 in
/-- Too many parts and letters are told by -1. -/
theorem szC_from {w : World} {v : Value} {l : List (List Pt)} (h : ArgC w v l) (hs : ∀ i (hi : i < l.length), ThinP l[i]) (left : Nat) (hlf : left ≤ 1048576) :
    Calls Tryd.prog 54 #[v, .int .i64 (left : Int)] w fun e w' => e = .returned (.int .i64 (if szCn l ≤ left then ((left - szCn l : Nat) : Int) else -1)) ∧ Below w.heap.size w w' := by
  have hm := argC_len h
  cases h with
  | nil a cap =>
    have e0 : (if szCn ([] : List (List Pt)) ≤ left then ((left - szCn ([] : List (List Pt)) : Nat) : Int) else -1) = left := by simp [szCn, szCU]
    rw [e0]
    go_enter Tryd.func54, Tryd.ntmps54
    go_wp2
    go_loop [1, 5] (fun k i => k = .int .i64 (left : Int) ∧ i = .int .i64 0) (fun _ _ => 0)
    case atStart => exact ⟨rfl, rfl⟩
    case round =>
      obtain ⟨rfl, rfl⟩ := hrel
      go_wp2
      go_ret
      exact ⟨rfl, Below.refl _ _⟩
  | row b off cap l vs hb hn hle hmx hc =>
    have Hc := hide hc
    have Hs := hide hs
    clear hc hs
    obtain ⟨R, hR⟩ : ∃ R : Int, R = if szCn l ≤ left then ((left - szCn l : Nat) : Int) else -1 := ⟨_, rfl⟩
    rw [← hR]
    unfold szCn at hR
    have HR := hide hR
    clear hR
    by_cases hbig : l.length ≤ left
    · go_enter Tryd.func54, Tryd.ntmps54
      go_wp2
      go_loopw [1, 5] (fun k i wr => ∃ m : Nat, i = .int .i64 m ∧ m ≤ l.length ∧ l.length + szCU l m ≤ left ∧ k = .int .i64 ((left - (l.length + szCU l m) : Nat) : Int) ∧ Below w.heap.size w wr) (fun _ i _ => l.length - (intOf i).toNat)
      case atStart => exact ⟨0, rfl, Nat.zero_le _, by show l.length + 0 ≤ _; omega, by rw [show ((left - (l.length + szCU l 0) : Nat) : Int) = (left : Int) - (l.length : Int) by show ((left - (l.length + 0) : Nat) : Int) = _; omega], Below.refl _ _⟩
      case round =>
        obtain ⟨m, rfl, hm1, hm2, rfl, hbel⟩ := hrel
        by_cases hlt : m < l.length
        · obtain ⟨c0, c3⟩ := Hc.out m hlt
          have d0 := (World.cell?_of_block (a := ⟨b, off + m, none⟩) (hbel.block b hb)).trans c0
          have S := hide (szChange_any (vs m) l[m] (left - (l.length + szCU l m)) wr (by omega) (c3.later hbel) (Hs.out m hlt))
          have hsu := szCU_succ l m hlt
          have hmo := szCU_mono l (m + 1) l.length (by omega)
          clear c0 c3
          by_cases hfit : szPn l[m] ≤ left - (l.length + szCU l m)
          · rw [if_pos hfit] at S
            have e1 : left - (l.length + szCU l m) - szPn l[m] = left - (l.length + szCU l (m + 1)) := by omega
            rw [e1] at S
            have hm3 : l.length + szCU l (m + 1) ≤ left := by omega
            obtain ⟨x, hx⟩ : ∃ x, x = left - (l.length + szCU l (m + 1)) := ⟨_, rfl⟩
            rw [← hx] at S
            have Hx := hide hx
            clear hx hsu e1
            go_wp2_with fail
            refine S.out.mono ?_
            rintro e w2 ⟨rfl, hb2⟩
            go_wp2
            refine ⟨⟨m + 1, by go_num, by omega, hm3, by rw [Hx.out], hbel.trans (hb2.mono hbel.size)⟩, by simp [intOf]; omega⟩
          · rw [if_neg hfit] at S
            have hno : ¬ l.length + szCU l l.length ≤ left := by omega
            have Hno := hide hno
            clear hsu hmo hno
            go_wp2_with fail
            refine S.out.mono ?_
            rintro e w2 ⟨rfl, hb2⟩
            go_wp2
            go_ret
            refine ⟨ret_c ?_, hbel.trans (hb2.mono hbel.size)⟩
            rw [HR.out, if_neg Hno.out]
        · obtain rfl : m = l.length := by omega
          go_wp2
          go_ret
          refine ⟨ret_c ?_, hbel⟩
          rw [HR.out, if_pos hm2]
    · go_enter Tryd.func54, Tryd.ntmps54
      go_wp2
      go_ret
      refine ⟨ret_c ?_, Below.refl _ _⟩
      rw [HR.out, if_neg (by omega)]
end Go.Proofs.YtpeconmdmddkfaaDoor

set_option linter.unusedVariables false
namespace Go.Proofs.YtpeconmdmddkfaaDoor
open Go.RowKit
open Doc1

set_option maxHeartbeats 2000000 in
theorem eqChange_r {w : World} {va vb : Value} {l : List Pt} (ha : PR w va l) (hb : PR w vb l) (hm : l.length ≤ 10000000) :
    Calls Tryd.prog 118 #[.agg #[va], .agg #[vb]] w fun e w' => e = .returned (.bool true) ∧ Below w.heap.size w w' := by
  obtain ⟨aa, ca, ea⟩ := ha.shp
  obtain ⟨ab, cb, eb⟩ := hb.shp
  have H : Hid (∀ x y : Obj, Calls Tryd.prog 22 #[va, vb] ((w.alloc x).alloc y) fun e w' => e = .returned (.bool true) ∧ Below w.heap.size w w') := hide (fun x y => by
    have hb0 : Below w.heap.size w ((w.alloc x).alloc y) := ((Below.refl _ _).alloc (Nat.le_refl _) _).alloc (by simp) _
    refine (eqP_r (ha.later hb0) (hb.later hb0) hm).mono ?_
    rintro e w' ⟨rfl, h⟩
    exact ⟨rfl, hb0.trans (h.mono hb0.size)⟩)
  subst ea eb
  clear ha hb
  go_enter Tryd.func118, Tryd.ntmps118
  go_wp2_with fail
  refine (H.out _ _).mono ?_
  rintro e w2 ⟨rfl, hb2⟩
  have HB := hide hb2
  clear hb2
  go_wp2
  go_ret
  exact ⟨rfl, HB.out⟩

set_option maxHeartbeats 2000000 in
theorem eqC_r {S T : Nat → Prop} {w : World} {va vb : Value} {l : List (List Pt)} (ha : DR S w va l) (hb : DR T w vb l) (hl : l.length ≤ 10000000) (hm : ∀ i (hi : i < l.length), l[i].length ≤ 10000000) :
    Calls Tryd.prog 51 #[va, vb] w fun e w' => e = .returned (.bool true) ∧ Below w.heap.size w w' := by
  rcases Nat.eq_zero_or_pos l.length with h0 | h0
  · obtain rfl := List.eq_nil_of_length_eq_zero h0
    obtain ⟨aa, ca, rfl⟩ := ha.shp
    obtain ⟨ab, cb, rfl⟩ := hb.shp
    clear ha hb
    simp only [List.length_nil]
    go_enter Tryd.func51, Tryd.ntmps51
    go_wp2
    go_loop [5] (fun i => i = .int .i64 0) (fun _ => 0)
    case atStart => rfl
    case round =>
      subst hrel
      go_wp2
      go_ret
      exact ⟨rfl, Below.refl _ _⟩
  · rcases ha with ⟨c, -⟩ | ⟨ga, oa, ca, vsa, rfl, -, a1, a2, a3⟩
    · rw [c] at h0; exact absurd h0 (by simp)
    rcases hb with ⟨c, -⟩ | ⟨gb, ob, cb, vsb, rfl, -, b1, b2, b3⟩
    · rw [c] at h0; exact absurd h0 (by simp)
    have HA := hide a3
    have HB := hide b3
    have HE := hide hm
    clear a3 b3 hm
    go_enter Tryd.func51, Tryd.ntmps51
    go_wp2
    go_loopw [5] (fun i wr => ∃ k : Nat, k ≤ l.length ∧ i = .int .i64 k ∧ Below w.heap.size w wr) (fun i _ => l.length - (intOf i).toNat)
    case atStart => exact ⟨0, by omega, rfl, Below.refl _ _⟩
    case round =>
      obtain ⟨k, hk, rfl, hbel⟩ := hrel
      by_cases hlt : k < l.length
      · have hA := HA.out.later hbel
        have hB := HB.out.later hbel
        have a0 := hA.c k hlt
        have b0 := hB.c k hlt
        have E := hide (fun w' (h : Below wr.heap.size wr w') => eqChange_r ((hA.op k hlt (Nat.zero_le _)).later h) ((hB.op k hlt (Nat.zero_le _)).later h) (HE.out k hlt))
        clear hA hB
        go_wp2_with fail
        go_region_with (go_at_call 118; refine (E.out _ (Below.refl _ _).drew).mono ?_; rintro e w' ⟨rfl, hb'⟩)
        all_goals
          go_wp2
          go_roundw
          case rel => exact ⟨k + 1, by omega, by go_num, hbel.trans ((Below.refl _ _).drew.trans (hb'.mono (show w.heap.size ≤ wr.drew.heap.size from hbel.size)))⟩
          case measure => simp [intOf]; omega
      · go_wp2
        go_ret
        exact ⟨rfl, hbel⟩

set_option maxHeartbeats 2000000 in
theorem markC_r {S : Nat → Prop} {w : World} {v : Value} {l : List (List Pt)} (h : DR S w v l) (hl : l.length ≤ 10000000) (hm : ∀ i (hi : i < l.length), l[i].length ≤ 10000000) (K : Nat) (hK : 0 < K ∧ K + mkN l ≤ 500000000) :
    Calls Tryd.prog 52 #[v, .int .i64 (K : Int)] w fun e w' => e = .returned (.int .i64 (K + mkN l : Nat)) ∧ Out S w w' ∧ DK K S w' v l := by
  rcases h with ⟨rfl, a, c, rfl⟩ | ⟨g, off, cap, vs, rfl, h0, a1, a2, a3⟩
  · have e0 : K + mkN ([] : List (List Pt)) = K := rfl
    rw [e0]
    go_enter Tryd.func52, Tryd.ntmps52
    go_wp2
    go_loop [1, 5] (fun k i => k = .int .i64 (K : Int) ∧ i = .int .i64 0) (fun _ _ => 0)
    case atStart => exact ⟨rfl, rfl⟩
    case round =>
      obtain ⟨rfl, rfl⟩ := hrel
      go_wp2
      go_ret
      exact ⟨rfl, Out.refl _ _, .inl ⟨rfl, a, c, rfl⟩⟩
  · have H0 := hide (a3.start (K' := K))
    have HE := hide hm
    have HM := hide (mkU_mono l)
    have HN : Hid (K + mkU l l.length ≤ 500000000) := hide hK.2
    have HK := hide hK.1
    clear a3 hm hK
    unfold mkN
    go_enter Tryd.func52, Tryd.ntmps52
    go_wp2
    go_loopw [1, 5] (fun k1 i wr => ∃ k : Nat, k ≤ l.length ∧ i = .int .i64 k ∧ k1 = .int .i64 (K + mkU l k : Nat) ∧ Out S w wr ∧ DMo K S wr g off l vs k) (fun _ i _ => l.length - (intOf i).toNat)
    case atStart => exact ⟨0, by omega, rfl, rfl, Out.refl _ _, H0.out⟩
    case round =>
      obtain ⟨k, hk, rfl, rfl, ho, hd⟩ := hrel
      by_cases hlt : k < l.length
      · have c0 := hd.c k hlt
        have hsu := mkU_succ l k hlt
        have hmo := HM.out (k + 1) l.length (by omega)
        have M := hide (markP_r (hd.op k hlt (Nat.le_refl _)) (HE.out k hlt) (K + mkU l k) ⟨by have := HK.out; omega, by have := HN.out; omega⟩)
        obtain ⟨X, hX⟩ : ∃ X : Nat, X = K + mkU l k := ⟨_, rfl⟩
        rw [← hX] at M ⊢
        have hX2 : K + mkU l (k + 1) = X + l[k].length * 3 := by omega
        have HX := hide hX
        have HX2 := hide hX2
        have HD := hide hd
        have HO := hide ho
        obtain ⟨a, c, ea⟩ := (hd.op k hlt (Nat.le_refl _)).shp
        clear hsu hmo hX hX2 hd ho
        go_wp2_with fail
        rw [ea] at M
        refine M.out.mono ?_
        rintro e w2 ⟨rfl, hg2, hq2⟩
        rw [← ea] at hg2 hq2
        rw [HX.out] at hq2
        have A := hide (HD.out.step hlt hg2 hq2)
        have B := hide (HO.out.trans (Out.grown hg2 (fun y hy => (HD.out.opS k hlt y hy).1)))
        clear hg2 hq2 c0
        go_wp2
        refine ⟨⟨k + 1, by omega, by go_num, by rw [HX2.out]; simp, B.out, A.out⟩, by simp [intOf]; omega⟩
      · obtain rfl : k = l.length := by omega
        go_wp2
        go_ret
        exact ⟨rfl, ho, .inr ⟨g, off, cap, vs, rfl, h0, a1, a2, hd⟩⟩

set_option maxHeartbeats 2000000 in
theorem heldC_q {S : Nat → Prop} {w : World} {v : Value} {l : List (List Pt)} {K : Nat} (h : DK K S w v l) (hl : l.length ≤ 10000000) (hm : ∀ i (hi : i < l.length), l[i].length ≤ 10000000) (hK : 0 < K ∧ K + mkN l ≤ 500000000) :
    Calls Tryd.prog 53 #[v, .int .i64 (K : Int)] w fun e w' => e = .returned (.int .i64 (K + mkN l : Nat)) ∧ Below w.heap.size w w' := by
  rcases h with ⟨rfl, a, c, rfl⟩ | ⟨g, off, cap, vs, rfl, h0, a1, a2, a3⟩
  · have e0 : K + mkN ([] : List (List Pt)) = K := rfl
    rw [e0]
    go_enter Tryd.func53, Tryd.ntmps53
    go_wp2
    go_loop [1, 5] (fun k i => k = .int .i64 (K : Int) ∧ i = .int .i64 0) (fun _ _ => 0)
    case atStart => exact ⟨rfl, rfl⟩
    case round =>
      obtain ⟨rfl, rfl⟩ := hrel
      go_wp2
      go_ret
      exact ⟨rfl, Below.refl _ _⟩
  · have H0 := hide a3
    have HE := hide hm
    have HM := hide (mkU_mono l)
    have HN : Hid (K + mkU l l.length ≤ 500000000) := hide hK.2
    have HK := hide hK.1
    clear a3 hm hK
    unfold mkN
    go_enter Tryd.func53, Tryd.ntmps53
    go_wp2
    go_loopw [1, 5] (fun k1 i wr => ∃ k : Nat, k ≤ l.length ∧ i = .int .i64 k ∧ k1 = .int .i64 (K + mkU l k : Nat) ∧ Below w.heap.size w wr) (fun _ i _ => l.length - (intOf i).toNat)
    case atStart => exact ⟨0, by omega, rfl, rfl, Below.refl _ _⟩
    case round =>
      obtain ⟨k, hk, rfl, rfl, hbel⟩ := hrel
      by_cases hlt : k < l.length
      · have hd := H0.out.later hbel
        have c0 := hd.c k hlt
        have hsu := mkU_succ l k hlt
        have hmo := HM.out (k + 1) l.length (by omega)
        have hq := hd.mkd k hlt hlt
        have M := hide (heldP_q hq (HE.out k hlt) ⟨by have := HK.out; omega, by have := HN.out; omega⟩)
        obtain ⟨X, hX⟩ : ∃ X : Nat, X = K + mkU l k := ⟨_, rfl⟩
        rw [← hX] at M ⊢
        have hX2 : K + mkU l (k + 1) = X + l[k].length * 3 := by omega
        have hpos : decide (((X + l[k].length * 3 : Nat) : Int) < 0) = false := by rw [decide_eq_false_iff_not]; omega
        obtain ⟨Y, hY⟩ : ∃ Y : Int, ((X + l[k].length * 3 : Nat) : Int) = Y := ⟨_, rfl⟩
        rw [hY] at M hpos
        have HX2 := hide hX2
        have HY := hide hY
        obtain ⟨a, n, c, ea⟩ : ∃ a n c, vs k = .slice a n c := by
          rcases hq with ⟨-, a, c, e⟩ | ⟨g', c, e, -⟩
          · exact ⟨a, 0, c, e⟩
          · exact ⟨_, _, c, e⟩
        clear hsu hmo hX hX2 hd hq hY
        go_wp2_with fail
        rw [ea] at M
        refine M.out.mono ?_
        rintro e w2 ⟨rfl, hb2⟩
        have B := hide (hbel.trans (hb2.mono hbel.size))
        clear hb2 c0
        go_wp2
        refine ⟨⟨k + 1, by omega, by go_num, by rw [HX2.out, HY.out], B.out⟩, by simp [intOf]; omega⟩
      · obtain rfl : k = l.length := by omega
        go_wp2
        go_ret
        exact ⟨rfl, hbel⟩
end Go.Proofs.YtpeconmdmddkfaaDoor

set_option linter.unusedVariables false
namespace Go.Proofs.YtpeconmdmddkfaaDoor
open Go.RowKit
open Doc1

/-- A block of cells. -/
def CB (w : World) (c : Nat) (cs : Array Value) : Prop := ∃ t, w.heap[c]? = some (.cells cs t (0, 0))
theorem CB.lt {w : World} {c : Nat} {cs : Array Value} (h : CB w c cs) : c < w.heap.size := by
  obtain ⟨t, h⟩ := h
  exact (Array.getElem?_eq_some_iff.1 h).1
theorem CB.block {w w1 : World} {c : Nat} {cs : Array Value} (h : CB w c cs) (hb : w1.heap[c]? = w.heap[c]?) : CB w1 c cs := by
  obtain ⟨t, h⟩ := h
  exact ⟨t, hb.trans h⟩
theorem CB.later {w w1 : World} {c : Nat} {cs : Array Value} (h : CB w c cs) (hb : Below w.heap.size w w1) : CB w1 c cs := h.block (hb.block c h.lt)
theorem CB.out {S : Nat → Prop} {w w1 : World} {c : Nat} {cs : Array Value} (h : CB w c cs) (ho : Out S w w1) (hn : ¬ S c) : CB w1 c cs := h.block (ho.block c h.lt hn)
theorem CB.cell {w : World} {c : Nat} {cs : Array Value} (h : CB w c cs) (j : Nat) {x : Value} (hx : cs[j]? = some x) : w.cell? ⟨c, j, none⟩ = some x := by
  obtain ⟨t, h⟩ := h
  rw [cell_of_row _ _ j _ _ (0, 0) h, hx]
theorem CB.fz {w : World} {c : Nat} {cs : Array Value} (h : CB w c cs) (j : Nat) : w.frozen? ⟨c, j, none⟩ = false := by
  obtain ⟨t, h⟩ := h
  simp [World.frozen?, h]
theorem CB.set {w : World} {c : Nat} {cs : Array Value} (h : CB w c cs) (j : Nat) (v : Value) {ds : Array Value} (e : cs.setIfInBounds j v = ds) : CB (w.setCell ⟨c, j, none⟩ v) c ds := by
  obtain ⟨t, h⟩ := h
  obtain ⟨hlt, hk⟩ := Array.getElem?_eq_some_iff.1 h
  refine ⟨t, ?_⟩
  show (w.heap.modify c _)[c]? = _
  rw [Array.getElem?_eq_getElem (by rw [Array.size_modify]; exact hlt), Array.getElem_modify_self, hk]
  simp only
  rw [← e]
  rfl
theorem CB.other {w : World} {c d : Nat} {cs : Array Value} (h : CB w c cs) (hd : d ≠ c) (j : Nat) (v : Value) : CB (w.setCell ⟨d, j, none⟩ v) c cs := h.block (Below.heap_setCell _ _ _ _ (by show c ≠ d; exact Ne.symm hd))
theorem CB.new (w : World) (cs : Array Value) (t : TypeId) : CB (w.alloc (.cells cs t)) w.heap.size cs := ⟨t, heap_alloc_new w _⟩

theorem Tryd.sizeChange : (Tryd.prog.info? 97).map (·.size) = some 1 := by kernel_rfl

theorem PCp.block {w w1 : World} {g : Nat} {l : List Pt} (h : PCp w g l) (hs : w.heap.size ≤ w1.heap.size) (e : w1.heap[g]? = w.heap[g]?) : PCp w1 g l :=
  ⟨fun j u hu => (World.cell?_of_block e).trans (h.at' j u hu), ⟨fun j hj => by rw [World.cell?_of_block e]; exact h.blk.ex j hj, fun j => by rw [World.frozen?_of_block e]; exact h.blk.fz j⟩, Nat.lt_of_lt_of_le h.lt hs⟩

set_option maxRecDepth 100000 in
set_option maxHeartbeats 2000000 in
theorem toChange_cp {w : World} {v : Value} {l : List Pt} (h : ArgP w v l) (hm : l.length ≤ 2000000) :
    Calls Tryd.prog 121 #[.agg #[v]] w fun e w' => ∃ g, e = .returned (.agg #[.slice (some ⟨g, 0, none⟩) l.length l.length]) ∧ w.heap.size ≤ g ∧ PCp w' g l ∧ Below w.heap.size w w' := by
  obtain ⟨a, c, ev⟩ := argP_shp h
  subst ev
  obtain ⟨w1, hw1⟩ : ∃ w1, w1 = ((w.alloc (.cells #[.slice a l.length c] 164)).alloc (.cells #[.slice none 0 0] 97)).alloc (.cells #[.slice none 0 0] 97) := ⟨_, rfl⟩
  have hs1 : w1.heap.size = w.heap.size + 3 := by rw [hw1]; simp
  have hbw : Below w.heap.size w w1 := by rw [hw1]; exact (((Below.refl _ _).alloc (Nat.le_refl _) _).alloc (by simp) _).alloc (by simp; omega) _
  have hc1 : CB w1 (w.heap.size + 1) #[.slice none 0 0] := by
    rw [hw1]
    have := CB.new (w.alloc (.cells #[.slice a l.length c] 164)) #[.slice none 0 0] 97
    rw [World.size_alloc] at this
    exact this.block (Below.heap_alloc _ _ _ (by simp))
  have hc2 : CB w1 (w.heap.size + 1 + 1) #[.slice none 0 0] := by
    rw [hw1]
    have := CB.new ((w.alloc (.cells #[.slice a l.length c] 164)).alloc (.cells #[.slice none 0 0] 97)) #[.slice none 0 0] 97
    rw [World.size_alloc, World.size_alloc] at this
    exact this
  have H := hide (toP_cp (h.later hbw) hm)
  have HB := hide hbw
  have HC1 := hide hc1
  have HC2 := hide hc2
  clear h hbw hc1 hc2
  go_enter Tryd.func121, Tryd.ntmps121
  go_wp2_with fail
  rw [← hw1]
  clear hw1
  refine H.out.mono ?_
  rintro e w2 ⟨rfl, hcp, hb2⟩
  have HB2 : Hid (Below w.heap.size w w2) := hide (HB.out.trans (hb2.mono HB.out.size))
  have HD1 := hide (HC1.out.later hb2)
  have HD2 := hide (HC2.out.later hb2)
  have q1 := HD1.out.cell 0 rfl
  have q2 := HD1.out.fz 0
  have q3 := HD2.out.cell 0 rfl
  have q4 := HD2.out.fz 0
  have HCP := hide hcp
  have n1 : ¬ w.heap.size + 1 = w.heap.size + 1 + 1 := by omega
  have n2 : ¬ w.heap.size + 1 + 1 = w.heap.size + 1 := by omega
  clear hcp hb2
  go_wp2
  have HS := hide hs1
  rw [hs1] at HCP
  obtain ⟨tt, htt⟩ := (HD1.out.other (d := w.heap.size + 1 + 1) (by omega) 0 (.slice (some ⟨w.heap.size + 3, 0, none⟩) l.length l.length)).set 0 (.slice (some ⟨w.heap.size + 3, 0, none⟩) l.length l.length) rfl
  refine bodyPost_ret (results_cell_row rfl _ _ (w.heap.size + 1) _ _ (0, 0) _ rfl htt Tryd.underlying97 rfl Tryd.sizeChange) rfl ?_
  refine ⟨w.heap.size + 3, rfl, by omega, ?_, (HB2.out.setCell (by show w.heap.size ≤ w.heap.size + 1 + 1; omega) _).setCell (by show w.heap.size ≤ w.heap.size + 1; omega) _⟩
  exact (HCP.out.block (by simp [World.setCell]) (Below.heap_setCell _ _ _ _ (by show w.heap.size + 3 ≠ w.heap.size + 1 + 1; omega))).block (by simp [World.setCell]) (Below.heap_setCell _ _ _ _ (by show w.heap.size + 3 ≠ w.heap.size + 1; omega))

/-- While changes are copied. -/
structure CW (w : World) (l : List (List Pt)) (k : Nat) (wr : World) : Prop where
  blk : Blk wr w.heap.size l.length
  below : Below w.heap.size w wr
  lt : w.heap.size < wr.heap.size
  c : ∃ gs : Nat → Nat, (∀ i (h : i < l.length), i < k → wr.cell? ⟨w.heap.size, i, none⟩ = some (.slice (some ⟨gs i, 0, none⟩) l[i].length l[i].length) ∧ PCp wr (gs i) l[i] ∧ w.heap.size < gs i) ∧ ∀ i j, i < j → j < k → gs i < gs j
theorem cw_start {w : World} {l : List (List Pt)} {C : Array Value} {t : TypeId} (hC : C.size = l.length) : CW w l 0 (w.alloc (.cells C t)) where
  blk := ⟨fun j hj => ⟨C[j]'(by omega), by rw [cell_of_row _ w.heap.size j C t (0, 0) (heap_alloc_new w _)]; simp [hC, hj]⟩, fun j => World.frozen?_alloc_new _ _ _ _⟩
  below := (Below.refl _ _).alloc (Nat.le_refl _) _
  lt := by simp
  c := ⟨fun _ => 0, fun i _ hi => by omega, fun i j _ hj => by omega⟩
theorem CW.later {w wr w2 : World} {l : List (List Pt)} {k : Nat} (h : CW w l k wr) (hb : Below wr.heap.size wr w2) : CW w l k w2 where
  blk := h.blk.later hb h.lt
  below := h.below.trans (hb.mono h.below.size)
  lt := Nat.lt_of_lt_of_le h.lt hb.size
  c := by
    obtain ⟨gs, hc, hr⟩ := h.c
    refine ⟨gs, fun i hi hk => ?_, hr⟩
    obtain ⟨h1, h2, h3⟩ := hc i hi hk
    exact ⟨(World.cell?_of_block (a := ⟨w.heap.size, i, none⟩) (hb.block _ h.lt)).trans h1, h2.later hb, h3⟩
theorem CW.step {w wr : World} {l : List (List Pt)} {k g : Nat} (h : CW w l k wr) (hk : k < l.length) (hI : PCp wr g l[k]) (hg2 : w.heap.size < g) (hgs : ∀ gs : Nat → Nat, (∀ i (h : i < l.length), i < k → PCp wr (gs i) l[i]) → True) (hnew : ∃ n, n ≤ g ∧ ∀ gs : Nat → Nat, (∀ i (h : i < l.length), i < k → wr.cell? ⟨w.heap.size, i, none⟩ = some (.slice (some ⟨gs i, 0, none⟩) l[i].length l[i].length)) → ∀ i, i < k → gs i < n) :
    CW w l (k + 1) (wr.setCell ⟨w.heap.size, k, none⟩ (.slice (some ⟨g, 0, none⟩) l[k].length l[k].length)) where
  blk := h.blk.set _ _
  below := h.below.setCell (Nat.le_refl _) _
  lt := by simpa [World.setCell] using h.lt
  c := by
    obtain ⟨gs, hc, hr⟩ := h.c
    obtain ⟨n, hn, hnew⟩ := hnew
    have hlow := hnew gs (fun i hi hik => (hc i hi hik).1)
    have pc : ∀ {b : Nat} {p : List Pt}, PCp wr b p → w.heap.size < b → PCp (wr.setCell ⟨w.heap.size, k, none⟩ (.slice (some ⟨g, 0, none⟩) l[k].length l[k].length)) b p := fun hp hb => hp.block (by simp [World.setCell]) (Below.heap_setCell _ _ _ _ (by show _ ≠ w.heap.size; omega))
    refine ⟨fun i => if i = k then g else gs i, fun i hi hik => ?_, fun i j hij hjk => ?_⟩
    · by_cases e : i = k
      · subst e
        simp only [if_true]
        obtain ⟨x0, y0⟩ := h.blk.ex i hi
        exact ⟨World.cell?_setCell_same _ _ _ y0, pc hI hg2, hg2⟩
      · simp only [if_neg e]
        obtain ⟨h1, h2, h3⟩ := hc i hi (by omega)
        exact ⟨(World.cell?_setCell_other _ _ _ _ (fun c => e (Addr.mk.inj c).2.1.symm)).trans h1, pc h2 h3, h3⟩
    · by_cases e : j = k
      · subst e
        have ei : i ≠ j := by omega
        simp only [if_neg ei, if_true]
        have := hlow i hij
        omega
      · have ei : i ≠ k := by omega
        simp only [if_neg e, if_neg ei]
        exact hr i j hij (by omega)
theorem CW.bound {w wr : World} {l : List (List Pt)} {k : Nat} (h : CW w l k wr) (hk : k ≤ l.length) : ∀ gs : Nat → Nat, (∀ i (h : i < l.length), i < k → wr.cell? ⟨w.heap.size, i, none⟩ = some (.slice (some ⟨gs i, 0, none⟩) l[i].length l[i].length)) → ∀ i, i < k → gs i < wr.heap.size := by
  intro gs hg i hi
  obtain ⟨gs', hc, -⟩ := h.c
  have h1 := hg i (by omega) hi
  obtain ⟨h2, h3, -⟩ := hc i (by omega) hi
  rw [h2] at h1
  have : gs' i = gs i := by
    injection h1 with h1
    injection h1 with h1
    injection h1 with h1
    injection h1 with h1
  rw [← this]
  exact h3.lt
theorem CW.all {w wr : World} {l : List (List Pt)} (h : CW w l l.length wr) (hm : l.length ≤ maxLen) (hs : ∀ i (hi : i < l.length), l[i].length ≤ maxLen) : DR (fun k => w.heap.size ≤ k ∧ k < wr.heap.size) wr (.slice (some ⟨w.heap.size, 0, none⟩) l.length l.length) l := by
  rcases Nat.eq_zero_or_pos l.length with h0 | h0
  · obtain rfl := List.eq_nil_of_length_eq_zero h0
    exact .inl ⟨rfl, _, _, rfl⟩
  · obtain ⟨gs, hc, hr⟩ := h.c
    refine .inr ⟨w.heap.size, 0, l.length, fun i => .slice (some ⟨gs i, 0, none⟩) (l[i]?.getD []).length (l[i]?.getD []).length, rfl, h0, Nat.le_refl _, hm, h.lt, ⟨Nat.le_refl _, h.lt⟩, fun i hi => ?_, fun i hi y hy => ?_, fun i j hij hj y hy c => ?_, fun i hi c => by omega, fun i hi _ => ?_⟩
    · rw [Nat.zero_add, List.getElem?_eq_getElem hi]; exact (hc i hi hi).1
    · have e : gs i = y := Option.some.inj hy
      have := (hc i hi hi).2.1.lt
      have := (hc i hi hi).2.2
      exact ⟨⟨by omega, by omega⟩, by omega⟩
    · have e : gs i = y := Option.some.inj hy
      have e' : gs j = y := Option.some.inj c
      have := hr i j hij hj
      omega
    · rw [List.getElem?_eq_getElem hi]
      exact PR.cp (hc i hi hi).2.1 (hs i hi)

theorem makeC (n : Nat) (hn : n ≤ 2000000) : ∃ C : Array Value, C.size = n ∧ ∀ w : World, (Instr.makeSlice 22 (.int .i64 (n : Int)) (.int .i64 (n : Int))).run Tryd.prog w = .ok (.slice (some ⟨w.heap.size, 0, none⟩) n n) (w.alloc (.cells C 97)) := by
  have hinfo : (Tryd.prog.info? 97).map (fun i => (i.zero, i.size, i.bytes)) = some (some (.agg #[.slice none 0 0]), 1, 24) := by kernel_rfl
  obtain ⟨i0, hi0, hz0, hz1, hz2⟩ := info_parts hinfo
  refine ⟨madeCells (Value.agg #[.slice none 0 0]).cells (n * i0.size), by rw [size_madeCells, hz1, Nat.mul_one], fun w => ?_⟩
  have := run_make (P := Tryd.prog) w 22 97 i0 (.agg #[.slice none 0 0]) Tryd.underlying22 hi0 hz0 .i64 .i64 n n (by omega) (Int.le_refl _) (by rw [hz2]; omega) (by omega)
  simpa only [Int.toNat_natCast] using this

set_option maxHeartbeats 2000000 in
theorem toC_cp {w : World} {v : Value} {l : List (List Pt)} (h : ArgC w v l) (hm : szCn l ≤ 1048576) :
    Calls Tryd.prog 56 #[v] w fun e w' => e = .returned (.slice (some ⟨w.heap.size, 0, none⟩) l.length l.length) ∧ DR (fun k => w.heap.size ≤ k ∧ k < w'.heap.size) w' (.slice (some ⟨w.heap.size, 0, none⟩) l.length l.length) l ∧ Below w.heap.size w w' := by
  obtain ⟨hl, heach⟩ := szC_each hm
  have hsmall : Hid (l.length ≤ maxLen ∧ ∀ i (hi : i < l.length), l[i].length ≤ maxLen) := hide ⟨by unfold maxLen; omega, fun i hi => by have := heach i hi; have := szPn_len l[i]; unfold maxLen; omega⟩
  cases h with
  | nil a cap =>
    obtain ⟨C, hC, hmk⟩ := makeC 0 (by omega)
    have S0 := hide (cw_start (l := []) (w := w) (C := C) (t := 97) (by simpa using hC))
    have hmk0 : ∀ w : World, (Instr.makeSlice 22 (.int .i64 0) (.int .i64 0)).run Tryd.prog w = .ok (.slice (some ⟨w.heap.size, 0, none⟩) 0 0) (w.alloc (.cells C 97)) := hmk
    clear hmk hC
    go_enter Tryd.func56, Tryd.ntmps56
    go_wp2
    go_loop [4] (fun i => i = .int .i64 0) (fun _ => 0)
    case atStart => rfl
    case round =>
      subst hrel
      go_wp2
      go_ret
      exact ⟨rfl, .inl ⟨rfl, _, _, rfl⟩, S0.out.below⟩
  | row b off cap l vs hb hn hle hmx hc =>
    obtain ⟨C, hC, hmk⟩ := makeC l.length (by omega)
    have S0 := hide (cw_start (l := l) (w := w) (C := C) (t := 97) hC)
    have Hc := hide hc
    have HE := hide heach
    clear hC hc heach
    go_enter Tryd.func56, Tryd.ntmps56
    go_wp2
    clear hmk
    go_loopw [4] (fun i wr => ∃ k : Nat, k ≤ l.length ∧ i = .int .i64 k ∧ CW w l k wr) (fun i _ => l.length - (intOf i).toNat)
    case atStart => exact ⟨0, by omega, rfl, S0.out⟩
    case round =>
      obtain ⟨k, hk, rfl, hat⟩ := hrel
      by_cases hlt : k < l.length
      · obtain ⟨c0, c3⟩ := Hc.out k hlt
        have d0 := (World.cell?_of_block (a := ⟨b, off + k, none⟩) (hat.below.block b hb)).trans c0
        have Hat := hide hat
        have T := hide (toChange_cp (c3.later hat.below) (by have := HE.out k hlt; have := szPn_len l[k]; omega))
        clear hat c0 c3
        go_wp2_with fail
        refine T.out.mono ?_
        rintro e w2 ⟨g, rfl, hg1, hI, hb2⟩
        have h2 := Hat.out.later hb2
        obtain ⟨x0, y0⟩ := h2.blk.ex k hlt
        have f0 := h2.blk.fz k
        have A := hide (h2.step hlt hI (Nat.lt_of_lt_of_le Hat.out.lt hg1) (fun _ _ => trivial) ⟨wr.heap.size, hg1, fun gs hgs => Hat.out.bound hk gs (fun i hi hik => by rw [← World.cell?_of_block (a := ⟨w.heap.size, i, none⟩) (hb2.block _ Hat.out.lt)]; exact hgs i hi hik)⟩)
        clear h2 d0 hI hb2
        go_wp2
        refine ⟨⟨k + 1, by omega, by go_num, A.out⟩, by simp [intOf]; omega⟩
      · obtain rfl : k = l.length := by omega
        go_wp2
        go_ret
        exact ⟨rfl, hat.all hsmall.out.1 hsmall.out.2, hat.below⟩
end Go.Proofs.YtpeconmdmddkfaaDoor

set_option linter.unusedVariables false
namespace Go.Proofs.YtpeconmdmddkfaaDoor
open Go.RowKit
open Doc1

def BdC (l : List (List Pt)) : Prop := l.length ≤ 10000000 ∧ ∀ i (hi : i < l.length), l[i].length ≤ 10000000
theorem bdC_of {l : List (List Pt)} (h : szCn l ≤ 1048576) : BdC l := by
  obtain ⟨h1, h2⟩ := szC_each h
  exact ⟨by omega, fun i hi => by have := h2 i hi; have := szPn_len l[i]; omega⟩

theorem cb_two (w : World) (a b : Array Value) (t u : TypeId) : CB ((w.alloc (.cells a t)).alloc (.cells b u)) w.heap.size a ∧ CB ((w.alloc (.cells a t)).alloc (.cells b u)) (w.heap.size + 1) b ∧ Below w.heap.size w ((w.alloc (.cells a t)).alloc (.cells b u)) ∧ ((w.alloc (.cells a t)).alloc (.cells b u)).heap.size = w.heap.size + 2 := by
  refine ⟨(CB.new w a t).block (Below.heap_alloc _ _ _ (by simp)), ?_, ((Below.refl _ _).alloc (Nat.le_refl _) _).alloc (by simp) _, by simp⟩
  have := CB.new (w.alloc (.cells a t)) b u
  rwa [World.size_alloc] at this

set_option maxRecDepth 100000 in
set_option maxHeartbeats 2000000 in
theorem eqH_r {S T S' T' : Nat → Prop} {w : World} {vu vr vu' vr' : Value} {t : ByteArray} {u r : List (List Pt)} (hu : DR S w vu u) (hr : DR T w vr r) (hu' : DR S' w vu' u) (hr' : DR T' w vr' r) (bu : BdC u) (br : BdC r) :
    Calls Tryd.prog 11 #[.agg #[.string t, vu, vr], .agg #[.string t, vu', vr']] w fun e w' => e = .returned (.bool true) ∧ Below w.heap.size w w' := by
  obtain ⟨a1, c1, e1⟩ := hu.shp
  obtain ⟨a2, c2, e2⟩ := hr.shp
  obtain ⟨a3, c3, e3⟩ := hu'.shp
  obtain ⟨a4, c4, e4⟩ := hr'.shp
  subst e1 e2 e3 e4
  obtain ⟨w1, hw1⟩ : ∃ w1, w1 = (w.alloc (.cells #[.string t, .slice a1 u.length c1, .slice a2 r.length c2] 24)).alloc (.cells #[.string t, .slice a3 u.length c3, .slice a4 r.length c4] 24) := ⟨_, rfl⟩
  obtain ⟨k1, k2, k3, k4⟩ := cb_two w #[.string t, .slice a1 u.length c1, .slice a2 r.length c2] #[.string t, .slice a3 u.length c3, .slice a4 r.length c4] 24 24
  rw [← hw1] at k1 k2 k3 k4
  have H1 := hide (eqC_r (hu.later k3) (hu'.later k3) bu.1 bu.2)
  have H2 : Hid (∀ w2, Below w1.heap.size w1 w2 → Calls Tryd.prog 51 #[.slice a2 r.length c2, .slice a4 r.length c4] w2 fun e w' => e = .returned (.bool true) ∧ Below w2.heap.size w2 w') := hide (fun w2 h2 => eqC_r ((hr.later k3).later h2) ((hr'.later k3).later h2) br.1 br.2)
  have HK1 := hide k1
  have HK2 := hide k2
  have HB := hide k3
  clear hu hr hu' hr' bu br k1 k2 k3
  go_enter Tryd.func11, Tryd.ntmps11
  go_wp2_with fail
  rw [← hw1]
  clear hw1
  refine H1.out.mono ?_
  rintro e w2 ⟨rfl, hb2⟩
  have q1 := (HK1.out.later hb2).cell 2 rfl
  have q2 := (HK2.out.later hb2).cell 2 rfl
  have H3 := hide (H2.out w2 hb2)
  have HB2 := hide (HB.out.trans (hb2.mono HB.out.size))
  simp only [List.getElem_toArray, List.getElem_cons_succ, List.getElem_cons_zero] at q1 q2
  clear hb2 H2
  go_wp2_with fail
  refine H3.out.mono ?_
  rintro e w3 ⟨rfl, hb3⟩
  have HB3 := hide (HB2.out.trans (hb3.mono HB2.out.size))
  clear hb3 q1 q2
  go_wp2
  go_ret
  exact ⟨rfl, HB3.out⟩

set_option maxRecDepth 100000 in
set_option maxHeartbeats 2000000 in
theorem markH_r {S T : Nat → Prop} {w : World} {vu vr : Value} {t : ByteArray} {u r : List (List Pt)} (hu : DR S w vu u) (hr : DR T w vr r) (hST : ∀ y, S y → ¬ T y) (hSw : ∀ y, S y → y < w.heap.size) (bu : BdC u) (br : BdC r) (K : Nat) (hK : 0 < K ∧ K + mkN u + mkN r ≤ 500000000) :
    Calls Tryd.prog 12 #[.agg #[.string t, vu, vr], .int .i64 (K : Int)] w fun e w' => e = .returned (.int .i64 (K + mkN u + mkN r : Nat)) ∧ Out (fun y => S y ∨ T y) w w' ∧ DK K S w' vu u ∧ DK (K + mkN u) T w' vr r := by
  obtain ⟨a1, c1, e1⟩ := hu.shp
  obtain ⟨a2, c2, e2⟩ := hr.shp
  subst e1 e2
  obtain ⟨w1, hw1⟩ : ∃ w1, w1 = w.alloc (.cells #[.string t, .slice a1 u.length c1, .slice a2 r.length c2] 24) := ⟨_, rfl⟩
  have k1 : CB w1 w.heap.size #[.string t, .slice a1 u.length c1, .slice a2 r.length c2] := by rw [hw1]; exact CB.new _ _ _
  have k3 : Below w.heap.size w w1 := by rw [hw1]; exact (Below.refl _ _).alloc (Nat.le_refl _) _
  have H1 := hide (markC_r (hu.later k3) bu.1 bu.2 K ⟨hK.1, by omega⟩)
  have H2 : Hid (∀ w2, Out S w1 w2 → Calls Tryd.prog 52 #[.slice a2 r.length c2, .int .i64 ((K + mkN u : Nat) : Int)] w2 fun e w' => e = .returned (.int .i64 (K + mkN u + mkN r : Nat)) ∧ Out T w2 w' ∧ DK (K + mkN u) T w' (.slice a2 r.length c2) r) := hide (fun w2 h2 => markC_r ((hr.later k3).out h2 (fun y hy c => hST y c hy)) br.1 br.2 (K + mkN u) ⟨by omega, hK.2⟩)
  have HST := hide hST
  have HSw := hide hSw
  have HK1 := hide k1
  have HB := hide k3
  obtain ⟨X, hX⟩ : ∃ X : Nat, X = K + mkN u := ⟨_, rfl⟩
  obtain ⟨Y, hY⟩ : ∃ Y : Nat, Y = X + mkN r := ⟨_, rfl⟩
  rw [← hX] at H1 H2 ⊢
  rw [← hY] at H2 ⊢
  clear hu hr bu br k1 k3 hST hSw hX hY hK
  go_enter Tryd.func12, Tryd.ntmps12
  go_wp2_with fail
  rw [← hw1]
  clear hw1
  refine H1.out.mono ?_
  rintro e w2 ⟨rfl, ho2, hd2⟩
  have q1 := (HK1.out.out ho2 (fun c => by have := HSw.out _ c; omega)).cell 2 rfl
  simp only [List.getElem_toArray, List.getElem_cons_succ, List.getElem_cons_zero] at q1
  have H3 := hide (H2.out w2 ho2)
  have HO2 := hide ho2
  have HD2 := hide hd2
  clear ho2 hd2 H2
  go_wp2_with fail
  refine H3.out.mono ?_
  rintro e w3 ⟨rfl, ho3, hd3⟩
  have HO3 : Hid (Out (fun y => S y ∨ T y) w w3) := hide ((Out.below HB.out).trans ((HO2.out.mono (fun k c => .inl c)).trans (ho3.mono (fun k c => .inr c))))
  have HD3 := hide hd3
  have HD4 := hide (HD2.out.out ho3 HST.out)
  clear ho3 hd3 q1
  go_wp2
  go_ret
  exact ⟨rfl, HO3.out, HD4.out, HD3.out⟩

set_option maxRecDepth 100000 in
set_option maxHeartbeats 2000000 in
theorem heldH_q {S T : Nat → Prop} {w : World} {vu vr : Value} {t : ByteArray} {u r : List (List Pt)} {K : Nat} (hu : DK K S w vu u) (hr : DK (K + mkN u) T w vr r) (bu : BdC u) (br : BdC r) (hK : 0 < K ∧ K + mkN u + mkN r ≤ 500000000) :
    Calls Tryd.prog 13 #[.agg #[.string t, vu, vr], .int .i64 (K : Int)] w fun e w' => e = .returned (.int .i64 (K + mkN u + mkN r : Nat)) ∧ Below w.heap.size w w' := by
  obtain ⟨a1, c1, e1⟩ := hu.shp
  obtain ⟨a2, c2, e2⟩ := hr.shp
  subst e1 e2
  obtain ⟨w1, hw1⟩ : ∃ w1, w1 = w.alloc (.cells #[.string t, .slice a1 u.length c1, .slice a2 r.length c2] 24) := ⟨_, rfl⟩
  have k1 : CB w1 w.heap.size #[.string t, .slice a1 u.length c1, .slice a2 r.length c2] := by rw [hw1]; exact CB.new _ _ _
  have k3 : Below w.heap.size w w1 := by rw [hw1]; exact (Below.refl _ _).alloc (Nat.le_refl _) _
  have H1 := hide (heldC_q (hu.later k3) bu.1 bu.2 ⟨hK.1, by omega⟩)
  have H2 : Hid (∀ w2, Below w1.heap.size w1 w2 → Calls Tryd.prog 53 #[.slice a2 r.length c2, .int .i64 ((K + mkN u : Nat) : Int)] w2 fun e w' => e = .returned (.int .i64 (K + mkN u + mkN r : Nat)) ∧ Below w2.heap.size w2 w') := hide (fun w2 h2 => heldC_q ((hr.later k3).later h2) br.1 br.2 ⟨by omega, hK.2⟩)
  have HK1 := hide k1
  have HB := hide k3
  obtain ⟨X, hX⟩ : ∃ X : Int, X = ((K + mkN u : Nat) : Int) := ⟨_, rfl⟩
  obtain ⟨Y, hY⟩ : ∃ Y : Int, Y = ((K + mkN u + mkN r : Nat) : Int) := ⟨_, rfl⟩
  rw [← hX] at H1 H2
  rw [← hY] at H2 ⊢
  have d1 : decide (X < 0) = false := by rw [decide_eq_false_iff_not]; omega
  have d2 : decide (Y < 0) = false := by rw [decide_eq_false_iff_not]; omega
  clear hu hr bu br k1 k3 hX hY hK
  go_enter Tryd.func13, Tryd.ntmps13
  go_wp2_with fail
  rw [← hw1]
  clear hw1
  refine H1.out.mono ?_
  rintro e w2 ⟨rfl, hb2⟩
  have q1 := (HK1.out.later hb2).cell 2 rfl
  simp only [List.getElem_toArray, List.getElem_cons_succ, List.getElem_cons_zero] at q1
  have H3 := hide (H2.out w2 hb2)
  have HB2 := hide (HB.out.trans (hb2.mono HB.out.size))
  clear hb2 H2
  go_wp2_with fail
  refine H3.out.mono ?_
  rintro e w3 ⟨rfl, hb3⟩
  have HB3 := hide (HB2.out.trans (hb3.mono HB2.out.size))
  clear hb3 q1
  go_wp2
  go_ret
  exact ⟨rfl, HB3.out⟩

/-- How much a history takes. -/
def szHn (t : ByteArray) (u r : List (List Pt)) : Nat := t.size + szCn u + szCn r

set_option maxRecDepth 100000 in
set_option maxHeartbeats 4000000 in
theorem szH_from {w : World} {t : ByteArray} {vu vr : Value} {u r : List (List Pt)} (hu : ArgC w vu u) (hr : ArgC w vr r) (ht : t.size ≤ 9223372036854775807) (su : ∀ i (hi : i < u.length), ThinP u[i]) (sr : ∀ i (hi : i < r.length), ThinP r[i]) (left : Nat) (hlf : left ≤ 1048576) :
    Calls Tryd.prog 14 #[.agg #[.string t, vu, vr], .int .i64 (left : Int)] w fun e w' => e = .returned (.int .i64 (if szHn t u r ≤ left then ((left - szHn t u r : Nat) : Int) else -1)) ∧ Below w.heap.size w w' := by
  obtain ⟨a1, c1, e1⟩ := argC_shp hu
  obtain ⟨a2, c2, e2⟩ := argC_shp hr
  subst e1 e2
  obtain ⟨w1, hw1⟩ : ∃ w1, w1 = w.alloc (.cells #[.string t, .slice a1 u.length c1, .slice a2 r.length c2] 32) := ⟨_, rfl⟩
  have k1 : CB w1 w.heap.size #[.string t, .slice a1 u.length c1, .slice a2 r.length c2] := by rw [hw1]; exact CB.new _ _ _
  have k3 : Below w.heap.size w w1 := by rw [hw1]; exact (Below.refl _ _).alloc (Nat.le_refl _) _
  have H1 : Hid (∀ left, left ≤ 1048576 → _) := hide (fun left hl => szC_from (hu.later k3) su left hl)
  have H2 : Hid (∀ left, left ≤ 1048576 → ∀ w2, Below w1.heap.size w1 w2 → _) := hide (fun left hl w2 h2 => szC_from ((hr.later k3).later h2) sr left hl)
  have HK1 := hide k1
  have HB := hide k3
  unfold szHn
  clear hu hr su sr k1 k3
  by_cases q0 : t.size ≤ left
  · obtain ⟨X, hX⟩ : ∃ X : Nat, left - t.size = X := ⟨_, rfl⟩
    have hXi : (left : Int) - (t.size : Int) = (X : Int) := by omega
    have dX : decide ((X : Int) < 0) = false := by rw [decide_eq_false_iff_not]; omega
    have H1 := hide (H1.out X (by omega))
    by_cases q1 : szCn u ≤ X
    · simp only [if_pos q1] at H1
      obtain ⟨Y, hY⟩ : ∃ Y : Nat, X - szCn u = Y := ⟨_, rfl⟩
      rw [hY] at H1
      have dY : decide ((Y : Int) < 0) = false := by rw [decide_eq_false_iff_not]; omega
      have H2 := hide (H2.out Y (by omega))
      have R : Hid ((if t.size + szCn u + szCn r ≤ left then ((left - (t.size + szCn u + szCn r) : Nat) : Int) else -1) = if szCn r ≤ Y then ((Y - szCn r : Nat) : Int) else -1) := hide (by split <;> split <;> omega)
      obtain ⟨Z, hZ⟩ : ∃ Z : Int, (if szCn r ≤ Y then ((Y - szCn r : Nat) : Int) else -1) = Z := ⟨_, rfl⟩
      rw [hZ] at H2 R
      rw [R.out]
      by_cases q2 : szCn r ≤ Y
      · rw [if_pos q2] at hZ
        have dZ : decide (Z < 0) = false := by rw [decide_eq_false_iff_not]; omega
        clear R hZ q2 q1 q0 hX hY
        go_enter Tryd.func14, Tryd.ntmps14
        go_wp2_with fail
        rw [← hw1]
        clear hw1
        refine H1.out.mono ?_
        rintro e w2 ⟨rfl, hb2⟩
        have q1 := (HK1.out.later hb2).cell 2 rfl
        simp only [List.getElem_toArray, List.getElem_cons_succ, List.getElem_cons_zero] at q1
        have H3 := hide (H2.out w2 hb2)
        have HB2 := hide (HB.out.trans (hb2.mono HB.out.size))
        clear hb2 H2
        go_wp2_with fail
        refine H3.out.mono ?_
        rintro e w3 ⟨rfl, hb3⟩
        have HB3 := hide (HB2.out.trans (hb3.mono HB2.out.size))
        clear hb3 q1
        go_wp2
        go_ret
        exact ⟨rfl, HB3.out⟩
      · rw [if_neg q2] at hZ
        subst hZ
        clear R q2 q1 q0 hX hY
        go_enter Tryd.func14, Tryd.ntmps14
        go_wp2_with fail
        rw [← hw1]
        clear hw1
        refine H1.out.mono ?_
        rintro e w2 ⟨rfl, hb2⟩
        have q1 := (HK1.out.later hb2).cell 2 rfl
        simp only [List.getElem_toArray, List.getElem_cons_succ, List.getElem_cons_zero] at q1
        have H3 := hide (H2.out w2 hb2)
        have HB2 := hide (HB.out.trans (hb2.mono HB.out.size))
        clear hb2 H2
        go_wp2_with fail
        refine H3.out.mono ?_
        rintro e w3 ⟨rfl, hb3⟩
        have HB3 := hide (HB2.out.trans (hb3.mono HB2.out.size))
        clear hb3 q1
        go_wp2
        go_ret
        exact ⟨rfl, HB3.out⟩
    · simp only [if_neg q1] at H1
      have R : Hid ((if t.size + szCn u + szCn r ≤ left then ((left - (t.size + szCn u + szCn r) : Nat) : Int) else -1) = -1) := hide (by rw [if_neg (by omega)])
      rw [R.out]
      clear R q1 q0 hX H2
      go_enter Tryd.func14, Tryd.ntmps14
      go_wp2_with fail
      rw [← hw1]
      clear hw1
      refine H1.out.mono ?_
      rintro e w2 ⟨rfl, hb2⟩
      have HB2 := hide (HB.out.trans (hb2.mono HB.out.size))
      clear hb2
      go_wp2
      go_ret
      exact ⟨rfl, HB2.out⟩
  · have R : Hid ((if t.size + szCn u + szCn r ≤ left then ((left - (t.size + szCn u + szCn r) : Nat) : Int) else -1) = -1) := hide (by rw [if_neg (by omega)])
    rw [R.out]
    have dX : decide ((left : Int) - (t.size : Int) < 0) = true := by rw [decide_eq_true_iff]; omega
    have lX : (left : Int) - (t.size : Int) < 0 := by omega
    clear R H1 H2
    go_enter Tryd.func14, Tryd.ntmps14
    go_wp2
    rw [← hw1]
    go_ret
    exact ⟨rfl, HB.out⟩

theorem Tryd.sizeHistory : (Tryd.prog.info? 24).map (·.size) = some 3 := by kernel_rfl

theorem DR.block {S : Nat → Prop} {w w1 : World} {v : Value} {l : List (List Pt)} (h : DR S w v l) (hs : w.heap.size ≤ w1.heap.size) (he : ∀ y, S y → y < w.heap.size → w1.heap[y]? = w.heap[y]?) : DR S w1 v l :=
  h.imp id (fun ⟨g, off, cap, vs, e, h1, h2, h3, h4⟩ => ⟨g, off, cap, vs, e, h1, h2, h3, h4.keep hs he⟩)
theorem DR.set {S : Nat → Prop} {w : World} {v : Value} {l : List (List Pt)} (h : DR S w v l) {b j : Nat} (hb : ¬ S b) (x : Value) : DR S (w.setCell ⟨b, j, none⟩ x) v l :=
  h.block (by simp [World.setCell]) (fun y hy _ => Below.heap_setCell _ _ _ _ (by show y ≠ b; intro c; subst c; exact hb hy))

set_option maxRecDepth 100000 in
set_option maxHeartbeats 4000000 in
theorem toH_cp {w : World} {t : ByteArray} {vu vr : Value} {u r : List (List Pt)} (hu : ArgC w vu u) (hr : ArgC w vr r) (mu : szCn u ≤ 1048576) (mr : szCn r ≤ 1048576) :
    Calls Tryd.prog 16 #[.agg #[.string t, vu, vr]] w fun e w' => ∃ xu xr m, e = .returned (.agg #[.string t, xu, xr]) ∧ w.heap.size ≤ m ∧ m ≤ w'.heap.size ∧ DR (fun k => w.heap.size ≤ k ∧ k < m) w' xu u ∧ DR (fun k => m ≤ k ∧ k < w'.heap.size) w' xr r ∧ Below w.heap.size w w' := by
  obtain ⟨a1, c1, e1⟩ := argC_shp hu
  obtain ⟨a2, c2, e2⟩ := argC_shp hr
  subst e1 e2
  obtain ⟨w1, hw1⟩ : ∃ w1, w1 = ((w.alloc (.cells #[.string t, .slice a1 u.length c1, .slice a2 r.length c2] 32)).alloc (.cells #[.string ⟨#[]⟩, .slice none 0 0, .slice none 0 0] 24)).alloc (.cells #[.string t, .slice none 0 0, .slice none 0 0] 24) := ⟨_, rfl⟩
  have hs1 : w1.heap.size = w.heap.size + 3 := by rw [hw1]; simp
  have hbw : Below w.heap.size w w1 := by rw [hw1]; exact (((Below.refl _ _).alloc (Nat.le_refl _) _).alloc (by simp) _).alloc (by simp; omega) _
  obtain ⟨p1, p2, -, -⟩ := cb_two w #[.string t, .slice a1 u.length c1, .slice a2 r.length c2] #[.string ⟨#[]⟩, .slice none 0 0, .slice none 0 0] 32 24
  have hup : Below (w.heap.size + 2) ((w.alloc (.cells #[.string t, .slice a1 u.length c1, .slice a2 r.length c2] 32)).alloc (.cells #[.string ⟨#[]⟩, .slice none 0 0, .slice none 0 0] 24)) w1 := by
    rw [hw1]; exact (Below.refl _ _).alloc (by simp) _
  have b0 : CB w1 w.heap.size #[.string t, .slice a1 u.length c1, .slice a2 r.length c2] := p1.block (hup.block _ (by omega))
  have b1 : CB w1 (w.heap.size + 1) #[.string ⟨#[]⟩, .slice none 0 0, .slice none 0 0] := p2.block (hup.block _ (by omega))
  have b2 : CB w1 (w.heap.size + 1 + 1) #[.string t, .slice none 0 0, .slice none 0 0] := by
    rw [hw1]
    have := CB.new ((w.alloc (.cells #[.string t, .slice a1 u.length c1, .slice a2 r.length c2] 32)).alloc (.cells #[.string ⟨#[]⟩, .slice none 0 0, .slice none 0 0] 24)) #[.string t, .slice none 0 0, .slice none 0 0] 24
    rw [World.size_alloc, World.size_alloc] at this
    exact this
  have H1 := hide (toC_cp (hu.later hbw) mu)
  have H2 : Hid (∀ w2, Below w.heap.size w w2 → Calls Tryd.prog 56 #[.slice a2 r.length c2] w2 fun e w' => e = .returned (.slice (some ⟨w2.heap.size, 0, none⟩) r.length r.length) ∧ DR (fun k => w2.heap.size ≤ k ∧ k < w'.heap.size) w' (.slice (some ⟨w2.heap.size, 0, none⟩) r.length r.length) r ∧ Below w2.heap.size w2 w') := hide (fun w2 h2 => toC_cp (hr.later h2) mr)
  have HB := hide hbw
  have HB0 := hide b0
  have HB1 := hide b1
  have HB2 := hide b2
  have HS := hide hs1
  clear hu hr mu mr hbw b0 b1 b2 p1 p2 hup hs1
  go_enter Tryd.func16, Tryd.ntmps16
  go_wp2_with fail
  rw [← hw1]
  clear hw1
  refine H1.out.mono ?_
  rintro e w2 ⟨rfl, hd, hb2⟩
  have B0 := HB0.out.later hb2
  have B1 := hide (HB1.out.later hb2)
  have B2 := HB2.out.later hb2
  obtain ⟨xu, hxu⟩ : ∃ xu, xu = Value.slice (some ⟨w1.heap.size, 0, none⟩) u.length u.length := ⟨_, rfl⟩
  have i1 := B2.cell 1 rfl
  have i2 := B2.fz 1
  have j2 := hide (B2.set 1 (.slice (some ⟨w1.heap.size, 0, none⟩) u.length u.length) rfl)
  have j0 := hide (B0.other (d := w.heap.size + 1 + 1) (by omega) 1 (.slice (some ⟨w1.heap.size, 0, none⟩) u.length u.length))
  have j1 := hide (B1.out.other (d := w.heap.size + 1 + 1) (by omega) 1 (.slice (some ⟨w1.heap.size, 0, none⟩) u.length u.length))
  have jd := hide (hd.set (b := w.heap.size + 1 + 1) (j := 1) (by have := HS.out; omega) (.slice (some ⟨w1.heap.size, 0, none⟩) u.length u.length))
  have jb := hide ((HB.out.trans (hb2.mono HB.out.size)).setCell (p := ⟨w.heap.size + 1 + 1, 1, none⟩) (by show w.heap.size ≤ w.heap.size + 1 + 1; omega) (.slice (some ⟨w1.heap.size, 0, none⟩) u.length u.length))
  have i3 := j0.out.cell 2 rfl
  simp only [List.getElem_toArray, List.getElem_cons_succ, List.getElem_cons_zero] at i1 i3
  obtain ⟨w3, hw3⟩ : ∃ w3, w3 = w2.setCell ⟨w.heap.size + 1 + 1, 1, none⟩ (.slice (some ⟨w1.heap.size, 0, none⟩) u.length u.length) := ⟨_, rfl⟩
  have js : Hid (w1.heap.size ≤ w3.heap.size ∧ w3.heap.size = w2.heap.size) := hide (by rw [hw3]; simpa [World.setCell] using hb2.size)
  rw [← hw3] at j2 j0 j1 jd jb
  clear B0 B1 B2 hd hb2 H1
  have H3 := hide (H2.out w3 jb.out)
  clear H2
  go_wp2_with fail
  rw [← hw3]
  clear hw3 i1 i2 i3
  refine H3.out.mono ?_
  rintro e w4 ⟨rfl, hd4, hb4⟩
  have B1 := j1.out.later hb4
  have B2 := j2.out.later hb4
  have i1 := B2.cell 2 rfl
  have i2 := B2.fz 2
  have l2 := B2.set 2 (.slice (some ⟨w3.heap.size, 0, none⟩) r.length r.length) rfl
  have l1 := B1.other (d := w.heap.size + 1 + 1) (by omega) 2 (.slice (some ⟨w3.heap.size, 0, none⟩) r.length r.length)
  have g0 := l2.cell 0 rfl
  have g1 := l2.cell 1 rfl
  have g2 := l2.cell 2 rfl
  have m0 := l1.cell 0 rfl
  have m1 := l1.cell 1 rfl
  have m2 := l1.cell 2 rfl
  have z0 := l1.fz 0
  have o0 := l1.set 0 (.string t) rfl
  have n1 := o0.cell 1 rfl
  have z1 := o0.fz 1
  have o1 := o0.set 1 (.slice (some ⟨w1.heap.size, 0, none⟩) u.length u.length) rfl
  have n2 := o1.cell 2 rfl
  have z2 := o1.fz 2
  have o2 := hide (o1.set 2 (.slice (some ⟨w3.heap.size, 0, none⟩) r.length r.length) rfl)
  have hS := HS.out
  have hJ := js.out
  have hW4 := hb4.size
  have kU : Hid (∀ p1 p2 p3 p4 v1 v2 v3 v4, p1 = w.heap.size + 1 + 1 → DR (fun k => w.heap.size ≤ k ∧ k < w3.heap.size) ((((w4.setCell ⟨p1, 2, none⟩ v1).setCell ⟨w.heap.size + 1, p2, none⟩ v2).setCell ⟨w.heap.size + 1, p3, none⟩ v3).setCell ⟨w.heap.size + 1, p4, none⟩ v4) (.slice (some ⟨w1.heap.size, 0, none⟩) u.length u.length) u) := hide (fun p1 p2 p3 p4 v1 v2 v3 v4 e1 => by
    subst e1
    exact ((((((jd.out.later hb4).set (by show ¬ (_ ∧ _); omega) v1).set (by show ¬ (_ ∧ _); omega) v2).set (by show ¬ (_ ∧ _); omega) v3).set (by show ¬ (_ ∧ _); omega) v4).wide (fun y hy => ⟨by have := hy.1; omega, by have := hy.2; omega⟩)))
  have kR : Hid (∀ p1 p2 p3 p4 v1 v2 v3 v4, p1 = w.heap.size + 1 + 1 → DR (fun k => w3.heap.size ≤ k ∧ k < w4.heap.size) ((((w4.setCell ⟨p1, 2, none⟩ v1).setCell ⟨w.heap.size + 1, p2, none⟩ v2).setCell ⟨w.heap.size + 1, p3, none⟩ v3).setCell ⟨w.heap.size + 1, p4, none⟩ v4) (.slice (some ⟨w3.heap.size, 0, none⟩) r.length r.length) r) := hide (fun p1 p2 p3 p4 v1 v2 v3 v4 e1 => by
    subst e1
    exact ((((hd4.set (by show ¬ (_ ∧ _); omega) v1).set (by show ¬ (_ ∧ _); omega) v2).set (by show ¬ (_ ∧ _); omega) v3).set (by show ¬ (_ ∧ _); omega) v4))
  have kB : Hid (∀ p2 p3 p4 v1 v2 v3 v4, Below w.heap.size w ((((w4.setCell ⟨w.heap.size + 1 + 1, 2, none⟩ v1).setCell ⟨w.heap.size + 1, p2, none⟩ v2).setCell ⟨w.heap.size + 1, p3, none⟩ v3).setCell ⟨w.heap.size + 1, p4, none⟩ v4)) := hide (fun p2 p3 p4 v1 v2 v3 v4 => by
    have hb := jb.out.trans (hb4.mono jb.out.size)
    exact (((hb.setCell (p := ⟨w.heap.size + 1 + 1, 2, none⟩) (by show w.heap.size ≤ w.heap.size + 1 + 1; omega) v1).setCell (p := ⟨w.heap.size + 1, p2, none⟩) (by show w.heap.size ≤ w.heap.size + 1; omega) v2).setCell (p := ⟨w.heap.size + 1, p3, none⟩) (by show w.heap.size ≤ w.heap.size + 1; omega) v3).setCell (p := ⟨w.heap.size + 1, p4, none⟩) (by show w.heap.size ≤ w.heap.size + 1; omega) v4)
  have HJ : Hid (w.heap.size ≤ w3.heap.size ∧ w3.heap.size ≤ w4.heap.size) := hide ⟨by omega, hW4⟩
  simp only [List.getElem_toArray, List.getElem_cons_succ, List.getElem_cons_zero] at i1 g0 g1 g2 m0 m1 m2 n1 n2
  clear B1 B2 l2 l1 o0 o1 hd4 hb4 hS hJ hW4 H3
  go_wp2
  obtain ⟨tt, htt⟩ := o2.out
  refine bodyPost_ret (results_cell_row rfl _ _ (w.heap.size + 1) _ _ (0, 0) _ rfl htt Tryd.underlying24 rfl Tryd.sizeHistory) rfl ?_
  exact ⟨_, _, w3.heap.size, rfl, HJ.out.1, by simpa [World.setCell] using HJ.out.2, kU.out _ _ _ _ _ _ _ _ rfl, by simpa [World.setCell] using kR.out _ _ _ _ _ _ _ _ rfl, kB.out _ _ _ _ _ _ _⟩
end Go.Proofs.YtpeconmdmddkfaaDoor

set_option linter.unusedVariables false
namespace Go.Proofs.YtpeconmdmddkfaaDoor
open Go.RowKit
open Doc1

/-- A history's rows: all blocks are of lo to hi. -/
def HX (lo hi : Nat) (w : World) (vu vr : Value) (u r : List (List Pt)) : Prop :=
  ∃ S T : Nat → Prop, DR S w vu u ∧ DR T w vr r ∧ (∀ y, S y → ¬ T y) ∧ ∀ y, S y ∨ T y → lo ≤ y ∧ y < hi
/-- The same, marked. -/
def HK (K lo hi : Nat) (w : World) (vu vr : Value) (u r : List (List Pt)) : Prop :=
  ∃ S T : Nat → Prop, DK K S w vu u ∧ DK (K + mkN u) T w vr r ∧ (∀ y, S y → ¬ T y) ∧ ∀ y, S y ∨ T y → lo ≤ y ∧ y < hi
def Iv (lo hi : Nat) : Nat → Prop := fun y => lo ≤ y ∧ y < hi
theorem HX.later {lo hi : Nat} {w w1 : World} {vu vr : Value} {u r : List (List Pt)} (h : HX lo hi w vu vr u r) (hb : Below w.heap.size w w1) : HX lo hi w1 vu vr u r := by
  obtain ⟨S, T, h1, h2, h3, h4⟩ := h
  exact ⟨S, T, h1.later hb, h2.later hb, h3, h4⟩
theorem HX.out {lo hi a b : Nat} {w w1 : World} {vu vr : Value} {u r : List (List Pt)} (h : HX lo hi w vu vr u r) (ho : Out (Iv a b) w w1) (hd : hi ≤ a ∨ b ≤ lo) : HX lo hi w1 vu vr u r := by
  obtain ⟨S, T, h1, h2, h3, h4⟩ := h
  exact ⟨S, T, h1.out ho (fun y hy c => by have := h4 y (.inl hy); have := c.1; have := c.2; omega), h2.out ho (fun y hy c => by have := h4 y (.inr hy); have := c.1; have := c.2; omega), h3, h4⟩
theorem HX.wide {lo hi lo' hi' : Nat} {w : World} {vu vr : Value} {u r : List (List Pt)} (h : HX lo hi w vu vr u r) (h1 : lo' ≤ lo) (h2 : hi ≤ hi') : HX lo' hi' w vu vr u r := by
  obtain ⟨S, T, k1, k2, k3, k4⟩ := h
  exact ⟨S, T, k1, k2, k3, fun y hy => by have := k4 y hy; omega⟩
theorem HK.later {K lo hi : Nat} {w w1 : World} {vu vr : Value} {u r : List (List Pt)} (h : HK K lo hi w vu vr u r) (hb : Below w.heap.size w w1) : HK K lo hi w1 vu vr u r := by
  obtain ⟨S, T, h1, h2, h3, h4⟩ := h
  exact ⟨S, T, h1.later hb, h2.later hb, h3, h4⟩
theorem HK.out {K lo hi a b : Nat} {w w1 : World} {vu vr : Value} {u r : List (List Pt)} (h : HK K lo hi w vu vr u r) (ho : Out (Iv a b) w w1) (hd : hi ≤ a ∨ b ≤ lo) : HK K lo hi w1 vu vr u r := by
  obtain ⟨S, T, h1, h2, h3, h4⟩ := h
  exact ⟨S, T, h1.out ho (fun y hy c => by have := h4 y (.inl hy); have := c.1; have := c.2; omega), h2.out ho (fun y hy c => by have := h4 y (.inr hy); have := c.1; have := c.2; omega), h3, h4⟩
theorem CB.outI {a b : Nat} {w w1 : World} {c : Nat} {cs : Array Value} (h : CB w c cs) (ho : Out (Iv a b) w w1) (hd : c < a ∨ b ≤ c) : CB w1 c cs := h.out ho (fun e => by have := e.1; have := e.2; omega)
theorem HX.shp {lo hi : Nat} {w : World} {vu vr : Value} {u r : List (List Pt)} (h : HX lo hi w vu vr u r) : ∃ a c a' c', vu = .slice a u.length c ∧ vr = .slice a' r.length c' := by
  obtain ⟨S, T, h1, h2, -, -⟩ := h
  obtain ⟨a, c, e⟩ := h1.shp
  obtain ⟨a', c', e'⟩ := h2.shp
  exact ⟨a, c, a', c', e, e'⟩
theorem hx_nil (lo hi : Nat) (w : World) (a b : Option Addr) (c d : Nat) : HX lo hi w (.slice a 0 c) (.slice b 0 d) [] [] :=
  ⟨fun _ => False, fun _ => False, .inl ⟨rfl, a, c, rfl⟩, .inl ⟨rfl, b, d, rfl⟩, fun _ h => h.elim, fun _ h => h.elim (fun c => c.elim) (fun c => c.elim)⟩

theorem eqX {lo hi lo' hi' : Nat} {w : World} {vu vr vu' vr' : Value} {t : ByteArray} {u r : List (List Pt)} (h : HX lo hi w vu vr u r) (h' : HX lo' hi' w vu' vr' u r) (bu : BdC u) (br : BdC r) :
    Calls Tryd.prog 11 #[.agg #[.string t, vu, vr], .agg #[.string t, vu', vr']] w fun e w' => e = .returned (.bool true) ∧ Below w.heap.size w w' := by
  obtain ⟨S, T, h1, h2, -, -⟩ := h
  obtain ⟨S', T', h1', h2', -, -⟩ := h'
  exact eqH_r h1 h2 h1' h2' bu br

theorem markX {lo hi : Nat} {w : World} {vu vr : Value} {t : ByteArray} {u r : List (List Pt)} (h : HX lo hi w vu vr u r) (hw : hi ≤ w.heap.size) (bu : BdC u) (br : BdC r) (K : Nat) (hK : 0 < K ∧ K + mkN u + mkN r ≤ 500000000) :
    Calls Tryd.prog 12 #[.agg #[.string t, vu, vr], .int .i64 (K : Int)] w fun e w' => e = .returned (.int .i64 (K + mkN u + mkN r : Nat)) ∧ Out (Iv lo hi) w w' ∧ HK K lo hi w' vu vr u r := by
  obtain ⟨S, T, h1, h2, h3, h4⟩ := h
  refine (markH_r h1 h2 h3 (fun y hy => by have := h4 y (.inl hy); omega) bu br K hK).mono ?_
  rintro e w' ⟨rfl, ho, k1, k2⟩
  exact ⟨rfl, ho.mono (fun k hk => h4 k hk), S, T, k1, k2, h3, h4⟩

theorem heldX {lo hi K : Nat} {w : World} {vu vr : Value} {t : ByteArray} {u r : List (List Pt)} (h : HK K lo hi w vu vr u r) (bu : BdC u) (br : BdC r) (hK : 0 < K ∧ K + mkN u + mkN r ≤ 500000000) :
    Calls Tryd.prog 13 #[.agg #[.string t, vu, vr], .int .i64 (K : Int)] w fun e w' => e = .returned (.int .i64 (K + mkN u + mkN r : Nat)) ∧ Below w.heap.size w w' := by
  obtain ⟨S, T, h1, h2, -, -⟩ := h
  exact heldH_q h1 h2 bu br hK

theorem toX {w : World} {t : ByteArray} {vu vr : Value} {u r : List (List Pt)} (hu : ArgC w vu u) (hr : ArgC w vr r) (mu : szCn u ≤ 1048576) (mr : szCn r ≤ 1048576) :
    Calls Tryd.prog 16 #[.agg #[.string t, vu, vr]] w fun e w' => ∃ xu xr, e = .returned (.agg #[.string t, xu, xr]) ∧ HX w.heap.size w'.heap.size w' xu xr u r ∧ Below w.heap.size w w' := by
  refine (toH_cp hu hr mu mr).mono ?_
  rintro e w' ⟨xu, xr, m, rfl, h1, h2, h3, h4, h5⟩
  exact ⟨xu, xr, rfl, ⟨_, _, h3, h4, fun y hy c => by have := hy.2; have := c.1; omega, fun y hy => by rcases hy with hy | hy <;> (have := hy.1; have := hy.2; omega)⟩, h5⟩

/-- What a function that answers a history tells. -/
def HPost (w : World) (T : ByteArray) (U V : List (List Pt)) (b : Bool) (e : Ending) (w' : World) : Prop :=
  ∃ xu xr, e = .returned (.tuple #[.agg #[.string T, xu, xr], .bool b]) ∧ HX w.heap.size w'.heap.size w' xu xr U V ∧ Below w.heap.size w w'
end Go.Proofs.YtpeconmdmddkfaaDoor
