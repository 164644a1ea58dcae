/- Rows of changes, each a row of parts: sizes, copies, comparisons, marks. -/
import Derived.Test.YtpeconmdmddkfaaDoorMkPq
import Derived.Deep.RegionWith
set_option linter.unusedVariables false
namespace Go.Proofs.YtpeconmdmddkfaaDoor
open Go.RowKit
open Doc1

theorem ret_c {x y : Int} (h : x = y) : Ending.returned (.int .i64 x) = .returned (.int .i64 y) := by rw [h]

/-- All blocks but those of a set are as they were. -/
structure Out (S : Nat → Prop) (w w1 : World) : Prop where
  os : w1.os = w.os
  tape : w1.tape = w.tape
  output : w1.output = w.output
  size : w.heap.size ≤ w1.heap.size
  block : ∀ k, k < w.heap.size → ¬ S k → w1.heap[k]? = w.heap[k]?
theorem Out.refl (S : Nat → Prop) (w : World) : Out S w w := ⟨rfl, rfl, rfl, Nat.le_refl _, fun _ _ _ => rfl⟩
theorem Out.trans {S : Nat → Prop} {a b c : World} (h : Out S a b) (k : Out S b c) : Out S a c :=
  ⟨k.os.trans h.os, k.tape.trans h.tape, k.output.trans h.output, Nat.le_trans h.size k.size, fun i hi hn => (k.block i (Nat.lt_of_lt_of_le hi h.size) hn).trans (h.block i hi hn)⟩
theorem Out.below {S : Nat → Prop} {w w1 : World} (h : Below w.heap.size w w1) : Out S w w1 := ⟨h.os, h.tape, h.output, h.size, fun k hk _ => h.block k hk⟩
theorem Out.grown {S : Nat → Prop} {w w1 : World} {r : Option Nat} (h : w.grownBy w1 r) (hr : ∀ y, r = some y → S y) : Out S w w1 := ⟨h.os, h.tape, h.output, h.size, fun k hk hn => h.block k hk (fun e => hn (hr k e.symm))⟩
theorem Out.mono {S T : Nat → Prop} {w w1 : World} (h : Out S w w1) (hs : ∀ k, S k → T k) : Out T w w1 := ⟨h.os, h.tape, h.output, h.size, fun k hk hn => h.block k hk (fun c => hn (hs k c))⟩
theorem Out.to {S : Nat → Prop} {w w1 : World} {B : Nat} (h : Out S w w1) (hs : ∀ k, S k → B ≤ k) (hB : B ≤ w.heap.size) : Below B w w1 := ⟨h.os, h.tape, h.output, h.size, fun k hk => h.block k (Nat.lt_of_lt_of_le hk hB) (fun c => by have := hs k c; omega)⟩

/-- How many marks the first of the rows take. -/
def mkU (l : List (List Pt)) : Nat → Nat
  | 0 => 0
  | i + 1 => mkU l i + (match l[i]? with | some x => x.length * 3 | none => 0)
theorem mkU_succ (l : List (List Pt)) (i : Nat) (h : i < l.length) : mkU l (i + 1) = mkU l i + l[i].length * 3 := by
  show mkU l i + _ = _
  rw [List.getElem?_eq_getElem h]
theorem mkU_mono (l : List (List Pt)) : ∀ i j, i ≤ j → mkU l i ≤ mkU l j
  | i, 0, h => by obtain rfl : i = 0 := by omega
                  exact Nat.le_refl _
  | i, j + 1, h => by
    by_cases e : i = j + 1
    · subst e; exact Nat.le_refl _
    · have := mkU_mono l i j (by omega)
      show _ ≤ mkU l j + _
      omega
/-- A row of changes in a block, the first k of them marked from K on. -/
structure DMo (K : Nat) (S : Nat → Prop) (w : World) (g off : Nat) (l : List (List Pt)) (vs : Nat → Value) (k : Nat) : Prop where
  lt : g < w.heap.size
  inS : S g
  c : ∀ i, i < l.length → w.cell? ⟨g, off + i, none⟩ = some (vs i)
  opS : ∀ i, i < l.length → ∀ y, (vs i).ownBlock = some y → S y ∧ y ≠ g
  dis : ∀ i j, i < j → j < l.length → ∀ y, (vs i).ownBlock = some y → (vs j).ownBlock ≠ some y
  mkd : ∀ i (h : i < l.length), i < k → PMq (K + mkU l i) w (vs i) l[i].length
  op : ∀ i (h : i < l.length), k ≤ i → PR w (vs i) l[i]
theorem DMo.keep {K k : Nat} {S : Nat → Prop} {w w1 : World} {g off : Nat} {l : List (List Pt)} {vs : Nat → Value} (h : DMo K S w g off l vs k) (hs : w.heap.size ≤ w1.heap.size) (he : ∀ y, S y → y < w.heap.size → w1.heap[y]? = w.heap[y]?) : DMo K S w1 g off l vs k where
  lt := Nat.lt_of_lt_of_le h.lt hs
  inS := h.inS
  c := fun i hi => (World.cell?_of_block (a := ⟨g, off + i, none⟩) (he g h.inS h.lt)).trans (h.c i hi)
  opS := h.opS
  dis := h.dis
  mkd := fun i hi hk => (h.mkd i hi hk).keep hs (fun y hy => he y (h.opS i hi y hy).1)
  op := fun i hi hk => (h.op i hi hk).keep hs (fun y hy => he y (h.opS i hi y hy).1)
theorem DMo.out {K k : Nat} {S S' : Nat → Prop} {w w1 : World} {g off : Nat} {l : List (List Pt)} {vs : Nat → Value} (h : DMo K S w g off l vs k) (ho : Out S' w w1) (hd : ∀ y, S y → ¬ S' y) : DMo K S w1 g off l vs k :=
  h.keep ho.size (fun y hy hl => ho.block y hl (hd y hy))
theorem DMo.later {K k : Nat} {S : Nat → Prop} {w w1 : World} {g off : Nat} {l : List (List Pt)} {vs : Nat → Value} (h : DMo K S w g off l vs k) (hb : Below w.heap.size w w1) : DMo K S w1 g off l vs k :=
  h.keep hb.size (fun y hy hl => hb.block y hl)
theorem DMo.wide {K k : Nat} {S T : Nat → Prop} {w : World} {g off : Nat} {l : List (List Pt)} {vs : Nat → Value} (h : DMo K S w g off l vs k) (hs : ∀ y, S y → T y) : DMo K T w g off l vs k :=
  ⟨h.lt, hs g h.inS, h.c, fun i hi y hy => ⟨hs y (h.opS i hi y hy).1, (h.opS i hi y hy).2⟩, h.dis, h.mkd, h.op⟩
theorem DMo.start {K K' : Nat} {S : Nat → Prop} {w : World} {g off : Nat} {l : List (List Pt)} {vs : Nat → Value} (h : DMo K S w g off l vs 0) : DMo K' S w g off l vs 0 :=
  ⟨h.lt, h.inS, h.c, h.opS, h.dis, fun i hi hk => by omega, h.op⟩
theorem DMo.step {K k : Nat} {S : Nat → Prop} {w w1 : World} {g off : Nat} {l : List (List Pt)} {vs : Nat → Value} (h : DMo K S w g off l vs k) (hk : k < l.length) (hg : w.grownBy w1 (vs k).ownBlock) (hm : PMq (K + mkU l k) w1 (vs k) l[k].length) : DMo K S w1 g off l vs (k + 1) := by
  have far : ∀ y, (vs k).ownBlock ≠ some y → y < w.heap.size → w1.heap[y]? = w.heap[y]? := fun y hy hl => hg.block y hl (Ne.symm hy)
  have dk : ∀ i, i < l.length → i ≠ k → ∀ y, (vs i).ownBlock = some y → (vs k).ownBlock ≠ some y := fun i hi hne y hy c => by
    by_cases e : i < k
    · exact h.dis i k e hk y hy c
    · exact h.dis k i (by omega) hi y c hy
  exact {
    lt := Nat.lt_of_lt_of_le h.lt hg.size
    inS := h.inS
    c := fun i hi => (World.cell?_of_block (a := ⟨g, off + i, none⟩) (far g (fun c => (h.opS k hk g c).2 rfl) h.lt)).trans (h.c i hi)
    opS := h.opS
    dis := h.dis
    mkd := fun i hi hik => by
      by_cases e : i = k
      · subst e; exact hm
      · exact (h.mkd i hi (by omega)).keep hg.size (fun y hy hl => far y (dk i hi e y hy) hl)
    op := fun i hi hik => (h.op i hi (by omega)).keep hg.size (fun y hy hl => far y (dk i hi (by omega) y hy) hl) }

/-- A row of changes that can be read and marked; all its blocks are of a set. -/
def DR (S : Nat → Prop) (w : World) (v : Value) (l : List (List Pt)) : Prop := (l = [] ∧ ∃ a cap, v = .slice a 0 cap) ∨ ∃ g off cap vs, v = .slice (some ⟨g, off, none⟩) l.length cap ∧ 0 < l.length ∧ l.length ≤ cap ∧ cap ≤ maxLen ∧ DMo 0 S w g off l vs 0
/-- A row of changes that is marked. -/
def DK (K : Nat) (S : Nat → Prop) (w : World) (v : Value) (l : List (List Pt)) : Prop := (l = [] ∧ ∃ a cap, v = .slice a 0 cap) ∨ ∃ g off cap vs, v = .slice (some ⟨g, off, none⟩) l.length cap ∧ 0 < l.length ∧ l.length ≤ cap ∧ cap ≤ maxLen ∧ DMo K S w g off l vs l.length
theorem DR.out {S S' : Nat → Prop} {w w1 : World} {v : Value} {l : List (List Pt)} (h : DR S w v l) (ho : Out S' w w1) (hd : ∀ y, S y → ¬ S' y) : DR S w1 v l :=
  h.imp id (fun ⟨g, off, cap, vs, e, h1, h2, h3, h4⟩ => ⟨g, off, cap, vs, e, h1, h2, h3, h4.out ho hd⟩)
theorem DR.later {S : Nat → Prop} {w w1 : World} {v : Value} {l : List (List Pt)} (h : DR S w v l) (hb : Below w.heap.size w w1) : DR S w1 v l :=
  h.imp id (fun ⟨g, off, cap, vs, e, h1, h2, h3, h4⟩ => ⟨g, off, cap, vs, e, h1, h2, h3, h4.later hb⟩)
theorem DR.wide {S T : Nat → Prop} {w : World} {v : Value} {l : List (List Pt)} (h : DR S w v l) (hs : ∀ y, S y → T y) : DR T w v l :=
  h.imp id (fun ⟨g, off, cap, vs, e, h1, h2, h3, h4⟩ => ⟨g, off, cap, vs, e, h1, h2, h3, h4.wide hs⟩)
theorem DK.out {K : Nat} {S S' : Nat → Prop} {w w1 : World} {v : Value} {l : List (List Pt)} (h : DK K S w v l) (ho : Out S' w w1) (hd : ∀ y, S y → ¬ S' y) : DK K S w1 v l :=
  h.imp id (fun ⟨g, off, cap, vs, e, h1, h2, h3, h4⟩ => ⟨g, off, cap, vs, e, h1, h2, h3, h4.out ho hd⟩)
theorem DK.later {K : Nat} {S : Nat → Prop} {w w1 : World} {v : Value} {l : List (List Pt)} (h : DK K S w v l) (hb : Below w.heap.size w w1) : DK K S w1 v l :=
  h.imp id (fun ⟨g, off, cap, vs, e, h1, h2, h3, h4⟩ => ⟨g, off, cap, vs, e, h1, h2, h3, h4.later hb⟩)
theorem DR.shp {S : Nat → Prop} {w : World} {v : Value} {l : List (List Pt)} (h : DR S w v l) : ∃ a cap, v = .slice a l.length cap := by
  rcases h with ⟨rfl, a, c, rfl⟩ | ⟨g, off, c, vs, rfl, -⟩
  · exact ⟨a, c, rfl⟩
  · exact ⟨_, c, rfl⟩
theorem DK.shp {K : Nat} {S : Nat → Prop} {w : World} {v : Value} {l : List (List Pt)} (h : DK K S w v l) : ∃ a cap, v = .slice a l.length cap := by
  rcases h with ⟨rfl, a, c, rfl⟩ | ⟨g, off, c, vs, rfl, -⟩
  · exact ⟨a, c, rfl⟩
  · exact ⟨_, c, rfl⟩

/-- A slice of changes as it came in. -/
inductive ArgC (W : World) : Value → List (List Pt) → Prop
  | nil (a : Option Addr) (cap : Nat) : ArgC W (.slice a 0 cap) []
  | row (b off cap : Nat) (l : List (List Pt)) (vs : Nat → Value) (hb : b < W.heap.size) (hn : 0 < l.length) (hle : l.length ≤ cap) (hm : cap ≤ maxLen)
      (hc : ∀ i (h : i < l.length), W.cell? ⟨b, off + i, none⟩ = some (vs i) ∧ ArgP W (vs i) l[i]) :
      ArgC W (.slice (some ⟨b, off, none⟩) l.length cap) l
theorem ArgC.later {W W1 : World} {v : Value} {l : List (List Pt)} (h : ArgC W v l) (hb : Below W.heap.size W W1) : ArgC W1 v l := by
  cases h with
  | nil a cap => exact .nil a cap
  | row b off cap l vs h1 h2 h3 h4 h5 => exact .row b off cap _ vs (Nat.lt_of_lt_of_le h1 hb.size) h2 h3 h4 (fun i hi => ⟨(World.cell?_of_block (a := ⟨b, off + i, none⟩) (hb.block b h1)).trans (h5 i hi).1, (h5 i hi).2.later hb⟩)
theorem argC_len {w : World} {v : Value} {l : List (List Pt)} (h : ArgC w v l) : l.length ≤ 9223372036854775807 := by
  cases h with
  | nil a cap => simp
  | row b off cap p vs h1 h2 h3 h4 h5 => unfold maxLen at h4; omega
theorem argC_shp {w : World} {v : Value} {l : List (List Pt)} (h : ArgC w v l) : ∃ a cap, v = .slice a l.length cap := by
  cases h with
  | nil a cap => exact ⟨a, cap, rfl⟩
  | row b off cap p vs h1 h2 h3 h4 h5 => exact ⟨_, cap, rfl⟩
theorem argP_shp {w : World} {v : Value} {l : List Pt} (h : ArgP w v l) : ∃ a cap, v = .slice a l.length cap := by
  cases h with
  | nil a cap => exact ⟨a, cap, rfl⟩
  | row b off cap p h1 h2 h3 h4 h5 => exact ⟨_, cap, rfl⟩

/-- How much the parts of rows take. -/
def szCU (l : List (List Pt)) : Nat → Nat
  | 0 => 0
  | i + 1 => szCU l i + (match l[i]? with | some x => szPn x | none => 0)
theorem szCU_succ (l : List (List Pt)) (i : Nat) (h : i < l.length) : szCU l (i + 1) = szCU l i + szPn l[i] := by
  show szCU l i + _ = _
  rw [List.getElem?_eq_getElem h]
theorem szCU_mono (l : List (List Pt)) : ∀ i j, i ≤ j → szCU l i ≤ szCU l j
  | i, 0, h => by obtain rfl : i = 0 := by omega
                  exact Nat.le_refl _
  | i, j + 1, h => by
    by_cases e : i = j + 1
    · subst e; exact Nat.le_refl _
    · have := szCU_mono l i j (by omega)
      show _ ≤ szCU l j + _
      omega
def szCn (l : List (List Pt)) : Nat := l.length + szCU l l.length
theorem szPn_len (l : List Pt) : l.length ≤ szPn l := by unfold szPn; omega
theorem szC_each {l : List (List Pt)} {B : Nat} (h : szCn l ≤ B) : l.length ≤ B ∧ ∀ i (hi : i < l.length), szPn l[i] ≤ B := by
  unfold szCn at h
  refine ⟨by omega, fun i hi => ?_⟩
  have h1 := szCU_succ l i hi
  have h2 := szCU_mono l (i + 1) l.length hi
  omega
theorem mkU_sz (l : List (List Pt)) : ∀ i, i ≤ l.length → mkU l i ≤ szCU l i * 3
  | 0, _ => Nat.le_refl _
  | i + 1, h => by
    have h1 := mkU_sz l i (by omega)
    have h2 := szCU_succ l i h
    have h3 := mkU_succ l i h
    have h4 := szPn_len l[i]
    omega
/-- How many marks the whole takes. -/
def mkN (l : List (List Pt)) : Nat := mkU l l.length
theorem mkN_sz (l : List (List Pt)) : mkN l ≤ szCn l * 3 := by
  have := mkU_sz l l.length (Nat.le_refl _)
  unfold mkN szCn
  omega
def ThinP (l : List Pt) : Prop := ∀ i (hi : i < l.length), l[i].put.size ≤ 9223372036854775807 ∧ l[i].drop.size ≤ 9223372036854775807

set_option maxHeartbeats 1000000 in
theorem szChange_any (v : Value) (l : List Pt) (left : Nat) (w : World) (hl : left ≤ 1048576) (hv : ArgP w v l) (ht : ThinP l) :
    Calls Tryd.prog 120 #[.agg #[v], .int .i64 (left : Int)] w fun e w' => e = .returned (.int .i64 (if szPn l ≤ left then ((left - szPn l : Nat) : Int) else -1)) ∧ Below w.heap.size w w' := by
  have hb1 : Below w.heap.size w (w.alloc (.cells #[v] 164)) := (Below.refl _ _).alloc (Nat.le_refl _) _
  have H := hide (szP_from (hv.later hb1) ht (argP_len hv) left hl)
  obtain ⟨a, c, ev⟩ := argP_shp hv
  subst ev
  have HB := hide hb1
  clear hb1 hv ht
  by_cases hq : szPn l ≤ left
  · rw [if_pos hq] at H ⊢
    obtain ⟨K, hKe⟩ : ∃ K : Nat, left - szPn l = K := ⟨_, rfl⟩
    rw [hKe] at H ⊢
    have hK : decide ((K : Int) < 0) = false := by rw [decide_eq_false_iff_not]; omega
    clear hKe hq
    go_enter Tryd.func120, Tryd.ntmps120
    go_wp2_with fail
    refine H.out.mono ?_
    rintro e w2 ⟨rfl, hb2⟩
    have HB2 : Hid (Below w.heap.size w w2) := hide (HB.out.trans (hb2.mono (by simp)))
    clear hb2
    go_wp2
    go_ret
    exact ⟨rfl, HB2.out⟩
  · rw [if_neg hq] at H ⊢
    clear hq
    go_enter Tryd.func120, Tryd.ntmps120
    go_wp2_with fail
    refine H.out.mono ?_
    rintro e w2 ⟨rfl, hb2⟩
    have HB2 : Hid (Below w.heap.size w w2) := hide (HB.out.trans (hb2.mono (by simp)))
    clear hb2
    go_wp2
    go_ret
    exact ⟨rfl, HB2.out⟩

set_option maxHeartbeats 2000000 in
/-- Too many parts and letters are told by -1. -/
theorem szC_from {w : World} {v : Value} {l : List (List Pt)} (h : ArgC w v l) (hs : ∀ i (hi : i < l.length), ThinP l[i]) (left : Nat) (hlf : left ≤ 1048576) :
    Calls Tryd.prog 54 #[v, .int .i64 (left : Int)] w fun e w' => e = .returned (.int .i64 (if szCn l ≤ left then ((left - szCn l : Nat) : Int) else -1)) ∧ Below w.heap.size w w' := by
  have hm := argC_len h
  cases h with
  | nil a cap =>
    have e0 : (if szCn ([] : List (List Pt)) ≤ left then ((left - szCn ([] : List (List Pt)) : Nat) : Int) else -1) = left := by simp [szCn, szCU]
    rw [e0]
    go_enter Tryd.func54, Tryd.ntmps54
    go_wp2
    go_loop [1, 5] (fun k i => k = .int .i64 (left : Int) ∧ i = .int .i64 0) (fun _ _ => 0)
    case atStart => exact ⟨rfl, rfl⟩
    case round =>
      obtain ⟨rfl, rfl⟩ := hrel
      go_wp2
      go_ret
      exact ⟨rfl, Below.refl _ _⟩
  | row b off cap l vs hb hn hle hmx hc =>
    have Hc := hide hc
    have Hs := hide hs
    clear hc hs
    obtain ⟨R, hR⟩ : ∃ R : Int, R = if szCn l ≤ left then ((left - szCn l : Nat) : Int) else -1 := ⟨_, rfl⟩
    rw [← hR]
    unfold szCn at hR
    have HR := hide hR
    clear hR
    by_cases hbig : l.length ≤ left
    · go_enter Tryd.func54, Tryd.ntmps54
      go_wp2
      go_loopw [1, 5] (fun k i wr => ∃ m : Nat, i = .int .i64 m ∧ m ≤ l.length ∧ l.length + szCU l m ≤ left ∧ k = .int .i64 ((left - (l.length + szCU l m) : Nat) : Int) ∧ Below w.heap.size w wr) (fun _ i _ => l.length - (intOf i).toNat)
      case atStart => exact ⟨0, rfl, Nat.zero_le _, by show l.length + 0 ≤ _; omega, by rw [show ((left - (l.length + szCU l 0) : Nat) : Int) = (left : Int) - (l.length : Int) by show ((left - (l.length + 0) : Nat) : Int) = _; omega], Below.refl _ _⟩
      case round =>
        obtain ⟨m, rfl, hm1, hm2, rfl, hbel⟩ := hrel
        by_cases hlt : m < l.length
        · obtain ⟨c0, c3⟩ := Hc.out m hlt
          have d0 := (World.cell?_of_block (a := ⟨b, off + m, none⟩) (hbel.block b hb)).trans c0
          have S := hide (szChange_any (vs m) l[m] (left - (l.length + szCU l m)) wr (by omega) (c3.later hbel) (Hs.out m hlt))
          have hsu := szCU_succ l m hlt
          have hmo := szCU_mono l (m + 1) l.length (by omega)
          clear c0 c3
          by_cases hfit : szPn l[m] ≤ left - (l.length + szCU l m)
          · rw [if_pos hfit] at S
            have e1 : left - (l.length + szCU l m) - szPn l[m] = left - (l.length + szCU l (m + 1)) := by omega
            rw [e1] at S
            have hm3 : l.length + szCU l (m + 1) ≤ left := by omega
            obtain ⟨x, hx⟩ : ∃ x, x = left - (l.length + szCU l (m + 1)) := ⟨_, rfl⟩
            rw [← hx] at S
            have Hx := hide hx
            clear hx hsu e1
            go_wp2_with fail
            refine S.out.mono ?_
            rintro e w2 ⟨rfl, hb2⟩
            go_wp2
            refine ⟨⟨m + 1, by go_num, by omega, hm3, by rw [Hx.out], hbel.trans (hb2.mono hbel.size)⟩, by simp [intOf]; omega⟩
          · rw [if_neg hfit] at S
            have hno : ¬ l.length + szCU l l.length ≤ left := by omega
            have Hno := hide hno
            clear hsu hmo hno
            go_wp2_with fail
            refine S.out.mono ?_
            rintro e w2 ⟨rfl, hb2⟩
            go_wp2
            go_ret
            refine ⟨ret_c ?_, hbel.trans (hb2.mono hbel.size)⟩
            rw [HR.out, if_neg Hno.out]
        · obtain rfl : m = l.length := by omega
          go_wp2
          go_ret
          refine ⟨ret_c ?_, hbel⟩
          rw [HR.out, if_pos hm2]
    · go_enter Tryd.func54, Tryd.ntmps54
      go_wp2
      go_ret
      refine ⟨ret_c ?_, Below.refl _ _⟩
      rw [HR.out, if_neg (by omega)]
end Go.Proofs.YtpeconmdmddkfaaDoor
