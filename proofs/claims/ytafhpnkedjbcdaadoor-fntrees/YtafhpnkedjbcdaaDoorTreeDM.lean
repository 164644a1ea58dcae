/- The drawing of trees: (*spec.l1Cur).tree. The contract of (*spec.l1Cur).tree and of the drawings by it. The contract of (*spec.l1Cur).tree, and what DrawKidsOf draws. -/
import Derived.Test.YtafhpnkedjbcdaaDoorDraw4
import Derived.Test.YtafhpnkedjbcdaaDoorTreeW2
import Derived.Test.YtafhpnkedjbcdaaDoorLyW13
namespace Go.Proofs.YtafhpnkedjbcdaaDoor
open Go.RowKit
open Doc1

/-- A tree that was drawn: nodes in a block, each of which may still be written. -/
structure TrAt (w : World) (g cap : Nat) (l : List Nd) : Prop where
  cap : l.length ≤ cap ∧ cap ≤ maxLen
  at' : NAt w g l
  blk : Blk w g (3 * l.length)
  lt : g < w.heap.size
  len : 0 < l.length ∧ l.length ≤ 301
  sz : ∀ i (hi : i < l.length), l[i].name.size ≤ 300 ∧ l[i].text.size ≤ 300
  up : ∀ i (hi : i < l.length), -1 ≤ l[i].up ∧ l[i].up ≤ 301
theorem TrAt.grown {w w1 : World} {g c cap : Nat} {l : List Nd} (h : TrAt w g cap l) (hg : w.grownBy w1 (some c)) (hne : g ≠ c) : TrAt w1 g cap l := by
  have hn : some g ≠ some c := fun e => hne (Option.some.inj e)
  have C := fun j => hg.cell_far ⟨g, j, none⟩ h.lt hn
  have F := fun j => hg.frozen_far ⟨g, j, none⟩ h.lt hn
  exact ⟨h.cap, ⟨fun i hi => (C _).trans (h.at'.c0 i hi), fun i hi => (C _).trans (h.at'.c1 i hi), fun i hi => (C _).trans (h.at'.c2 i hi)⟩, ⟨fun j hj => by rw [C]; exact h.blk.ex j hj, fun j => (F j).trans (h.blk.fz j)⟩, Nat.lt_of_lt_of_le h.lt hg.size, h.len, h.sz, h.up⟩
theorem TrAt.later {w w1 : World} {B g cap : Nat} {l : List Nd} (h : TrAt w g cap l) (hb : Below B w w1) (hB : g < B) : TrAt w1 g cap l :=
  ⟨h.cap, h.at'.later hb hB, h.blk.later hb hB, Nat.lt_of_lt_of_le h.lt hb.size, h.len, h.sz, h.up⟩
theorem TrAt.alloc {w : World} {g cap : Nat} {l : List Nd} (h : TrAt w g cap l) (o : Obj) : TrAt (w.alloc o) g cap l := h.later ((Below.refl _ _).alloc (Nat.le_refl _) o) h.lt
theorem cell_put {w : World} {g j k : Nat} {v : Value} (hx : ∃ u, w.cell? ⟨g, k, none⟩ = some u) : (w.setCell ⟨g, k, none⟩ v).cell? ⟨g, j, none⟩ = if j = k then some v else w.cell? ⟨g, j, none⟩ := by
  obtain ⟨u, hu⟩ := hx
  by_cases e : j = k
  · subst e; rw [if_pos rfl]; exact World.cell?_setCell_same _ _ _ hu
  · rw [if_neg e]; exact World.cell?_setCell_other _ _ _ _ (fun c => e (by injection c with _ c2; exact c2.symm))
/-- A node with one field written anew. -/
theorem TrAt.put {w : World} {g cap : Nat} {l : List Nd} (h : TrAt w g cap l) {i f : Nat} (hi : i < l.length) (n : Nd) (v : Value) (hn : (n.name.size ≤ 300 ∧ n.text.size ≤ 300) ∧ -1 ≤ n.up ∧ n.up ≤ 301)
    (hv : (f = 0 ∧ v = .string n.name ∧ n.text = l[i].text ∧ n.up = l[i].up) ∨ (f = 1 ∧ v = .string n.text ∧ n.name = l[i].name ∧ n.up = l[i].up) ∨ (f = 2 ∧ v = .int .i64 n.up ∧ n.name = l[i].name ∧ n.text = l[i].text)) :
    TrAt (w.setCell ⟨g, i * 3 + f, none⟩ v) g cap (l.set i n) := by
  have hf : f < 3 := by rcases hv with ⟨rfl, -⟩ | ⟨rfl, -⟩ | ⟨rfl, -⟩ <;> omega
  have P := fun j => cell_put (w := w) (g := g) (j := j) (v := v) (h.blk.ex (i * 3 + f) (by omega))
  have key : ∀ m, m < l.length → ∀ (hm : m < (l.set i n).length), (w.setCell ⟨g, i * 3 + f, none⟩ v).cell? ⟨g, m * 3, none⟩ = some (.string (l.set i n)[m].name) ∧ (w.setCell ⟨g, i * 3 + f, none⟩ v).cell? ⟨g, m * 3 + 1, none⟩ = some (.string (l.set i n)[m].text) ∧ (w.setCell ⟨g, i * 3 + f, none⟩ v).cell? ⟨g, m * 3 + 2, none⟩ = some (.int .i64 (l.set i n)[m].up) := by
    intro m hml hm
    rw [P, P, P]
    by_cases e : m = i
    · subst e
      rw [List.getElem_set_self]
      have a0 := h.at'.c0 m hml
      have a1 := h.at'.c1 m hml
      have a2 := h.at'.c2 m hml
      rcases hv with ⟨rfl, rfl, e1, e2⟩ | ⟨rfl, rfl, e1, e2⟩ | ⟨rfl, rfl, e1, e2⟩
      · rw [if_pos (by omega), if_neg (by omega), if_neg (by omega), e1, e2]; exact ⟨rfl, a1, a2⟩
      · rw [if_neg (by omega), if_pos rfl, if_neg (by omega), e1, e2]; exact ⟨a0, rfl, a2⟩
      · rw [if_neg (by omega), if_neg (by omega), if_pos rfl, e1, e2]; exact ⟨a0, a1, rfl⟩
    · rw [List.getElem_set_ne (by omega)]
      rw [if_neg (by omega), if_neg (by omega), if_neg (by omega)]
      exact ⟨h.at'.c0 m hml, h.at'.c1 m hml, h.at'.c2 m hml⟩
  have hl : (l.set i n).length = l.length := List.length_set
  have el : ∀ m (hm : m < (l.set i n).length), (l.set i n)[m] = n ∨ ∃ hm' : m < l.length, (l.set i n)[m] = l[m] := fun m hm => by
    by_cases e : m = i
    · subst e; exact .inl (List.getElem_set_self _)
    · exact .inr ⟨by omega, List.getElem_set_ne (by omega) _⟩
  refine ⟨by rw [hl]; exact h.cap, ⟨fun m hm => (key m (by omega) hm).1, fun m hm => (key m (by omega) hm).2.1, fun m hm => (key m (by omega) hm).2.2⟩, ⟨fun j hj => ?_, fun j => by rw [World.frozen?_setCell]; exact h.blk.fz j⟩, by have := h.lt; simpa using this, by rw [hl]; exact h.len, fun m hm => ?_, fun m hm => ?_⟩
  · rw [P]
    split
    · exact ⟨_, rfl⟩
    · exact h.blk.ex j (by omega)
  · rcases el m hm with e | ⟨hm', e⟩
    · rw [e]; exact hn.1
    · rw [e]; exact h.sz m hm'
  · rcases el m hm with e | ⟨hm', e⟩
    · rw [e]; exact hn.2
    · rw [e]; exact h.up m hm'
theorem szU_small {l : List Nd} (h : ∀ i (hi : i < l.length), l[i].name.size ≤ 300 ∧ l[i].text.size ≤ 300) : ∀ n, n ≤ l.length → szU l n ≤ 600 * n
  | 0, _ => by simp [szU]
  | n + 1, hn => by
    have := szU_small h n (by omega)
    have h2 := h n (by omega)
    rw [szU_succ l n (by omega)]
    omega
theorem TrAt.nin {w : World} {g cap : Nat} {l : List Nd} (h : TrAt w g cap l) : Nin w g cap l := by
  have := szU_small h.sz l.length (Nat.le_refl _)
  have := h.len
  exact ⟨h.cap, by omega, h.at', h.lt⟩
/-- What a drawing of a tree leaves. -/
def TreePost (g : Nat) (C : Value) (M : Nat) (w : World) (e : Ending) (w' : World) : Prop :=
  ∃ (gt cap : Nat) (l : List Nd), e = .returned (.slice (some ⟨gt, 0, none⟩) l.length cap) ∧ w.heap.size ≤ gt ∧ TrAt w' gt cap l ∧ CurAt g C M w' ∧ w.grownBy w' (some g)
end Go.Proofs.YtafhpnkedjbcdaaDoor

namespace Go.Proofs.YtafhpnkedjbcdaaDoor.Doc1

/-- What is known of the nodes behind so many bytes. -/
structure PB (p : PS) (m : Nat) : Prop where
  l : ∀ n ∈ p.l, n.name.size ≤ 1 ∧ n.text.size ≤ m ∧ -1 ≤ n.up ∧ n.up ≤ m
  r : p.r.length ≤ m
  st : ∀ o ∈ p.st, o ≤ m
  len : p.out.length ≤ m + 1
  ne : p.l ≠ []
theorem PB.upb {p : PS} {m : Nat} (h : PB p m) : 0 ≤ p.up ∧ p.up ≤ m := by
  unfold PS.up
  cases e : p.st with
  | nil => simp
  | cons o r => have := h.st o (by rw [e]; simp); simp; omega
theorem PB.out {p : PS} {m : Nat} (h : PB p m) : ∀ n ∈ p.out, n.name.size ≤ 1 ∧ n.text.size ≤ m ∧ -1 ≤ n.up ∧ n.up ≤ m := by
  intro n hn
  unfold PS.out at hn
  split at hn
  · exact h.l n hn
  · rcases List.mem_append.1 hn with h1 | h1
    · exact h.l n h1
    · rw [List.mem_singleton] at h1
      subst h1
      have := h.upb
      have := h.r
      refine ⟨by simp [ba_size], by rw [ba_size]; omega, by show -1 ≤ p.up; omega, by show p.up ≤ _; omega⟩
theorem PB.oute {p : PS} {m : Nat} (h : PB p m) : p.out ≠ [] := by
  unfold PS.out
  split
  · exact h.ne
  · simp
theorem pb_step {p : PS} {m : Nat} (h : PB p m) (c : UInt8) : PB (pst p c) (m + 1) := by
  have hu := h.upb
  have ho := h.out
  have hl := h.len
  have up1 : ∀ n ∈ p.out, n.name.size ≤ 1 ∧ n.text.size ≤ m + 1 ∧ -1 ≤ n.up ∧ n.up ≤ ((m + 1 : Nat) : Int) := fun n hn => by have := ho n hn; omega
  unfold pst
  split
  · refine ⟨fun n hn => ?_, by simp, fun o hm => ?_, ?_, by simp⟩
    · rcases List.mem_append.1 hn with h1 | h1
      · exact up1 n h1
      · rw [List.mem_singleton] at h1
        subst h1
        refine ⟨by simp [ba_size], by simp [ba_size], by show -1 ≤ p.up; omega, by show p.up ≤ _; omega⟩
    · rcases List.mem_cons.1 hm with rfl | h1
      · exact hl
      · have := h.st o h1; omega
    · rw [out_nil _ rfl]; simp; omega
  · split
    · refine ⟨up1, by simp, fun o hm => ?_, ?_, h.oute⟩
      · have := h.st o (List.mem_of_mem_tail hm); omega
      · rw [out_nil _ rfl]; show p.out.length ≤ _; omega
    · refine ⟨fun n hn => ?_, ?_, fun o hm => ?_, ?_, h.ne⟩
      · have := h.l n hn; omega
      · have := h.r; simp; omega
      · have := h.st o hm; omega
      · unfold PS.out at hl ⊢
        rw [if_neg (by simp)]
        split at hl <;> (simp at hl ⊢; omega)
theorem pb_feed : ∀ (s : List UInt8) (p : PS) (m : Nat), PB p m → PB (feed p s) (m + s.length)
  | [], p, m, h => h
  | c :: s, p, m, h => by
    have := pb_feed s (pst p c) (m + 1) (pb_step h c)
    rw [feed_cons, List.length_cons, show m + (s.length + 1) = m + 1 + s.length by omega]
    exact this
theorem pb_start : PB pin 0 where
  l := fun n hn => by
    unfold pin at hn
    rw [List.mem_singleton] at hn
    subst hn
    refine ⟨by simp [ba_size], by simp [ba_size], by decide, by decide⟩
  r := by simp [pin]
  st := fun o hm => by simp [pin] at hm; omega
  len := by simp [pin, PS.out]
  ne := by simp [pin]
theorem tree_bd (s : List UInt8) : (∀ n ∈ tree s, n.name.size ≤ 1 ∧ n.text.size ≤ s.length ∧ -1 ≤ n.up ∧ n.up ≤ s.length) ∧ tree s ≠ [] := by
  have := pb_feed s pin 0 pb_start
  rw [Nat.zero_add] at this
  exact ⟨this.out, this.oute⟩
end Go.Proofs.YtafhpnkedjbcdaaDoor.Doc1

namespace Go.Proofs.YtafhpnkedjbcdaaDoor
open Go.RowKit
open Doc1

def nameT3 : List ByteArray := [⟨#[]⟩, ⟨#[65]⟩, ⟨#[90]⟩]
def textT3 : List ByteArray := [⟨#[]⟩, ⟨#[120]⟩, ⟨#[65]⟩]
theorem nameT3_le : ∀ s ∈ nameT3, s.size ≤ 1 := by decide
theorem textT3_le : ∀ s ∈ textT3, s.size ≤ 1 := by decide
theorem docAa : doc (⟨#[65, 97, 47]⟩ : ByteArray).data.toList = true := by decide
theorem grown_of_below {w w1 : World} {r : Option Nat} (h : Below w.heap.size w w1) : w.grownBy w1 r := ⟨h.os, h.tape, h.output, h.size, fun k hk _ => h.block k hk⟩
theorem CurAt.below {g : Nat} {C : Value} {M : Nat} {w w1 : World} (h : CurAt g C M w) (hb : Below w.heap.size w w1) : CurAt g C M w1 := by
  have hl := h.lt
  have C' := fun j => World.cell?_of_block (a := ⟨g, j, none⟩) (hb.block g hl)
  obtain ⟨i, x, e1, e2, e3⟩ := h.ex
  exact ⟨(C' 0).trans h.c0, ⟨i, x, (C' 1).trans e1, (C' 2).trans e2, e3⟩, fun j => by
    have := h.fz j
    unfold World.frozen? at this ⊢
    rw [hb.block g hl]
    exact this⟩
/-- The row of a document's tree. -/
theorem tree_row {w : World} {B : Nat} {v : Value} {s : ByteArray} (h : NOwn w B v (tree s.data.toList)) (hd : doc s.data.toList = true) : ∃ gt cap, v = .slice (some ⟨gt, 0, none⟩) (tree s.data.toList).length cap ∧ B ≤ gt ∧ TrAt w gt cap (tree s.data.toList) := by
  have hs := doc_size s hd
  have e9 : s.size = s.data.toList.length := by simp
  rw [e9] at hs
  obtain ⟨b1, b2⟩ := tree_bd s.data.toList
  have hl := tree_len s.data.toList
  obtain ⟨gt, cap, rfl, h1, h2, h3, h4, h5, h6⟩ := NOwn.shape h b2
  refine ⟨gt, cap, rfl, h3, ⟨⟨h1, h2⟩, h5, h6, h4, ⟨List.length_pos_iff.2 b2, by omega⟩, fun i hi => ?_, fun i hi => ?_⟩⟩
  · have := b1 _ (List.getElem_mem hi); omega
  · have := b1 _ (List.getElem_mem hi); omega
end Go.Proofs.YtafhpnkedjbcdaaDoor

namespace Go.Proofs.YtafhpnkedjbcdaaDoor
open Go.RowKit
open Doc1

theorem tree_row' {w : World} {B : Nat} {v : Value} (s : ByteArray) (h : NOwn w B v (tree s.data.toList)) (hd : doc s.data.toList = true) : ∃ gt cap, ∃ L : List Nd, v = .slice (some ⟨gt, 0, none⟩) L.length cap ∧ B ≤ gt ∧ TrAt w gt cap L := by
  obtain ⟨gt, cap, h1, h2, h3⟩ := tree_row h hd
  exact ⟨gt, cap, _, h1, h2, h3⟩
theorem heap_put (w : World) {b k j : Nat} (v : Value) (h : j ≠ b) : (w.setCell ⟨b, k, none⟩ v).heap[j]? = w.heap[j]? := by
  unfold World.setCell
  simp only []
  rw [Array.getElem?_modify]
  rw [if_neg (by omega)]
theorem grown_put {w w6 : World} {g b k : Nat} (h : w.grownBy w6 (some g)) (hb : w.heap.size ≤ b) (v : Value) : w.grownBy (w6.setCell ⟨b, k, none⟩ v) (some g) :=
  ⟨h.os, h.tape, h.output, by have := h.size; simpa using this, fun j hj hne => (heap_put w6 v (by omega)).trans (h.block j hj hne)⟩
theorem CurAt.put {g : Nat} {C : Value} {M : Nat} {w : World} {b k : Nat} (h : CurAt g C M w) (hb : g ≠ b) (v : Value) : CurAt g C M (w.setCell ⟨b, k, none⟩ v) := by
  have C' := fun j => World.cell?_of_block (w := w) (a := ⟨g, j, none⟩) (heap_put w (k := k) v hb)
  obtain ⟨i, x, e1, e2, e3⟩ := h.ex
  exact ⟨(C' 0).trans h.c0, ⟨i, x, (C' 1).trans e1, (C' 2).trans e2, e3⟩, fun j => by rw [World.frozen?_setCell]; exact h.fz j⟩

set_option maxRecDepth 100000 in
set_option maxHeartbeats 8000000 in
theorem cur_tree (g : Nat) (C : Value) (M : Nat) (w : World) (hcur : CurAt g C M w) (hco : CodeAt g C w) (hM : M ≤ 70000000) :
    Calls Tryd.prog 81 #[.pointer (some ⟨g, 0, none⟩)] w (TreePost g C (M + 500000) w) := by
  have hgl := hcur.lt
  have D := hide docAa
  go_enter Tryd.func81, Tryd.ntmps81
  go_wp2_with fail
  refine (doc_any g C M w hcur hco (by omega)).mono ?_
  rintro e w1 ⟨s, rfl, hs, hc1, hg1⟩
  have hco1 := hco.grown hg1
  have hz1 := hg1.size
  clear hcur hco
  have G := hide (goodDocS_any s w1 (by omega))
  cases hq : doc s.data.toList with
  | true =>
    have HD := hide hq
    have T := hide (l2Tree_any s w1 HD.out)
    rw [hq] at G
    clear hq D
    go_wp2_with fail
    refine G.out.mono ?_
    rintro e w' ⟨rfl, hw⟩
    replace hw := hw.symm; subst hw
    go_wp2_with fail
    refine T.out.mono ?_
    rintro e w2 ⟨v, rfl, hown, hb2⟩
    obtain ⟨gt, cap, L, rfl, hgt, htr⟩ := tree_row' s hown HD.out
    have hc2 := hc1.below hb2
    have hg2 := hg1.trans (grown_of_below hb2)
    have hco2 := hco1.grown (grown_of_below hb2)
    have ne : gt ≠ g := by have := hc1.lt; omega
    have hgt0 : w.heap.size ≤ gt := by omega
    clear hown hb2 hc1 hg1 hco1 T G HD hs
    have hcap := htr.cap
    have hll := htr.len
    go_wp2_with fail
    refine (one_any g C _ 12 w2 hc2 hco2 (by omega)).mono ?_
    rintro e w3 ⟨y, rfl, hc3, hg3⟩
    have htr3 := htr.grown hg3 ne
    have hgA := hg2.trans hg3
    have hco3 := hco2.grown hg3
    clear htr hc2 hg2 hg3 hco2
    cases y with
    | false =>
      go_wp2
      go_ret
      exact ⟨gt, cap, L, rfl, hgt0, htr3, hc3.mono (by omega), hgA⟩
    | true =>
      go_wp2_with fail
      refine (pick_any g C _ 3 w3 hc3 hco3 (by omega)).mono ?_
      rintro e w4 ⟨y, rfl, hy0, hy1, hy2, hc4, hg4⟩
      have hy3 := hy2 (by omega)
      have htr4 := htr3.grown hg4 ne
      have hgB := hgA.trans hg4
      have hco4 := hco3.grown hg4
      clear htr3 hc3 hgA hg4 hco3 hy2
      by_cases y0 : y = 0
      · subst y0
        go_wp2_with fail
        refine (pick_any g C _ (L.length : Int) w4 hc4 hco4 (by omega)).mono ?_
        rintro e w5 ⟨i, rfl, hi0, hi1, hi2, hc5, hg5⟩
        obtain ⟨i, rfl⟩ : ∃ i' : Nat, i = i' := ⟨i.toNat, by omega⟩
        have hi3 : i < L.length := by have := hi2 (by omega); omega
        have i1 : (i : Int) < (L.length : Int) := by omega
        have htr5 := htr4.grown hg5 ne
        have hgC := hgB.trans hg5
        have hco5 := hco4.grown hg5
        have hg5l := hc5.lt
        clear htr4 hc4 hgB hg5 hco4 hi2
        have hbd := htr5.sz i hi3
        have hub := htr5.up i hi3
        go_wp2_with fail
        refine (of_any g C _ 1 w5.heap.size 0 3 3 _ (hc5.alloc _) (hco5.alloc _) (by omega) (by omega) (texts_new w5 nameT3 9 1 nameT3_le) (by omega) (by omega) (by omega)).mono ?_
        rintro e w6 ⟨m, rfl, hm, hc6, hg6⟩
        have htr6 := (htr5.alloc _).grown hg6 ne
        have hgD := (hgC.trans (World.grownBy_alloc w5 _ _)).trans hg6
        clear htr5 hc5 hgC hg6 hco5
        obtain ⟨u, hu⟩ := htr6.blk.ex (i * 3) (by omega)
        have hf := htr6.blk.fz (i * 3)
        have HP := hide (htr6.put hi3 (f := 0) ⟨m, L[i].text, L[i].up⟩ (.string m) ⟨⟨by show m.size ≤ 300; omega, hbd.2⟩, hub⟩ (.inl ⟨rfl, rfl, rfl, rfl⟩))
        have HC := hide (hc6.put (k := i * 3) (Ne.symm ne) (.string m))
        have HG := hide (grown_put (k := i * 3) hgD hgt0 (.string m))
        clear htr6 hc6 hgD
        go_wp2
        go_ret
        exact ⟨gt, cap, _, by rw [List.length_set]; rfl, hgt0, HP.out, HC.out.mono (by omega), HG.out⟩
      · by_cases y1 : y = 1
        · subst y1
          go_wp2_with fail
          refine (pick_any g C _ (L.length : Int) w4 hc4 hco4 (by omega)).mono ?_
          rintro e w5 ⟨i, rfl, hi0, hi1, hi2, hc5, hg5⟩
          obtain ⟨i, rfl⟩ : ∃ i' : Nat, i = i' := ⟨i.toNat, by omega⟩
          have hi3 : i < L.length := by have := hi2 (by omega); omega
          have i1 : (i : Int) < (L.length : Int) := by omega
          have htr5 := htr4.grown hg5 ne
          have hgC := hgB.trans hg5
          have hco5 := hco4.grown hg5
          have hg5l := hc5.lt
          clear htr4 hc4 hgB hg5 hco4 hi2
          have hbd := htr5.sz i hi3
          have hub := htr5.up i hi3
          go_wp2_with fail
          refine (pick_any g C _ 5 w5 hc5 hco5 (by omega)).mono ?_
          rintro e w6 ⟨z, rfl, hz0, hz2, hz3, hc6, hg6⟩
          have hz4 := hz3 (by omega)
          have htr6 := htr5.grown hg6 ne
          have hgD := hgC.trans hg6
          clear htr5 hc5 hgC hg6 hco5 hz3
          obtain ⟨u, hu⟩ := htr6.blk.ex (i * 3 + 2) (by omega)
          have hf := htr6.blk.fz (i * 3 + 2)
          have HP := hide (htr6.put hi3 (f := 2) ⟨L[i].name, L[i].text, z - 1⟩ (.int .i64 (z - 1)) ⟨hbd, by show -1 ≤ z - 1; omega, by show z - 1 ≤ _; omega⟩ (.inr (.inr ⟨rfl, rfl, rfl, rfl⟩)))
          have HC := hide (hc6.put (k := i * 3 + 2) (Ne.symm ne) (.int .i64 (z - 1)))
          have HG := hide (grown_put (k := i * 3 + 2) hgD hgt0 (.int .i64 (z - 1)))
          clear htr6 hc6 hgD
          go_wp2
          go_ret
          exact ⟨gt, cap, _, by rw [List.length_set]; rfl, hgt0, HP.out, HC.out.mono (by omega), HG.out⟩
        · skip
          go_wp2_with fail
          refine (pick_any g C _ (L.length : Int) w4 hc4 hco4 (by omega)).mono ?_
          rintro e w5 ⟨i, rfl, hi0, hi1, hi2, hc5, hg5⟩
          obtain ⟨i, rfl⟩ : ∃ i' : Nat, i = i' := ⟨i.toNat, by omega⟩
          have hi3 : i < L.length := by have := hi2 (by omega); omega
          have i1 : (i : Int) < (L.length : Int) := by omega
          have htr5 := htr4.grown hg5 ne
          have hgC := hgB.trans hg5
          have hco5 := hco4.grown hg5
          have hg5l := hc5.lt
          clear htr4 hc4 hgB hg5 hco4 hi2
          have hbd := htr5.sz i hi3
          have hub := htr5.up i hi3
          go_wp2_with fail
          refine (of_any g C _ 1 w5.heap.size 0 3 3 _ (hc5.alloc _) (hco5.alloc _) (by omega) (by omega) (texts_new w5 textT3 9 1 textT3_le) (by omega) (by omega) (by omega)).mono ?_
          rintro e w6 ⟨m, rfl, hm, hc6, hg6⟩
          have htr6 := (htr5.alloc _).grown hg6 ne
          have hgD := (hgC.trans (World.grownBy_alloc w5 _ _)).trans hg6
          clear htr5 hc5 hgC hg6 hco5
          obtain ⟨u, hu⟩ := htr6.blk.ex (i * 3 + 1) (by omega)
          have hf := htr6.blk.fz (i * 3 + 1)
          have HP := hide (htr6.put hi3 (f := 1) ⟨L[i].name, m, L[i].up⟩ (.string m) ⟨⟨hbd.1, by show m.size ≤ 300; omega⟩, hub⟩ (.inr (.inl ⟨rfl, rfl, rfl, rfl⟩)))
          have HC := hide (hc6.put (k := i * 3 + 1) (Ne.symm ne) (.string m))
          have HG := hide (grown_put (k := i * 3 + 1) hgD hgt0 (.string m))
          clear htr6 hc6 hgD
          go_wp2
          go_ret
          exact ⟨gt, cap, _, by rw [List.length_set]; rfl, hgt0, HP.out, HC.out.mono (by omega), HG.out⟩
  | false =>
    have HD := hide D.out
    have T := hide (l2Tree_any (⟨#[65, 97, 47]⟩ : ByteArray) w1 HD.out)
    rw [hq] at G
    clear hq D
    go_wp2_with fail
    refine G.out.mono ?_
    rintro e w' ⟨rfl, hw⟩
    replace hw := hw.symm; subst hw
    go_wp2_with fail
    refine T.out.mono ?_
    rintro e w2 ⟨v, rfl, hown, hb2⟩
    obtain ⟨gt, cap, L, rfl, hgt, htr⟩ := tree_row' ⟨#[65, 97, 47]⟩ hown HD.out
    have hc2 := hc1.below hb2
    have hg2 := hg1.trans (grown_of_below hb2)
    have hco2 := hco1.grown (grown_of_below hb2)
    have ne : gt ≠ g := by have := hc1.lt; omega
    have hgt0 : w.heap.size ≤ gt := by omega
    clear hown hb2 hc1 hg1 hco1 T G HD hs
    have hcap := htr.cap
    have hll := htr.len
    go_wp2_with fail
    refine (one_any g C _ 12 w2 hc2 hco2 (by omega)).mono ?_
    rintro e w3 ⟨y, rfl, hc3, hg3⟩
    have htr3 := htr.grown hg3 ne
    have hgA := hg2.trans hg3
    have hco3 := hco2.grown hg3
    clear htr hc2 hg2 hg3 hco2
    cases y with
    | false =>
      go_wp2
      go_ret
      exact ⟨gt, cap, L, rfl, hgt0, htr3, hc3.mono (by omega), hgA⟩
    | true =>
      go_wp2_with fail
      refine (pick_any g C _ 3 w3 hc3 hco3 (by omega)).mono ?_
      rintro e w4 ⟨y, rfl, hy0, hy1, hy2, hc4, hg4⟩
      have hy3 := hy2 (by omega)
      have htr4 := htr3.grown hg4 ne
      have hgB := hgA.trans hg4
      have hco4 := hco3.grown hg4
      clear htr3 hc3 hgA hg4 hco3 hy2
      by_cases y0 : y = 0
      · subst y0
        go_wp2_with fail
        refine (pick_any g C _ (L.length : Int) w4 hc4 hco4 (by omega)).mono ?_
        rintro e w5 ⟨i, rfl, hi0, hi1, hi2, hc5, hg5⟩
        obtain ⟨i, rfl⟩ : ∃ i' : Nat, i = i' := ⟨i.toNat, by omega⟩
        have hi3 : i < L.length := by have := hi2 (by omega); omega
        have i1 : (i : Int) < (L.length : Int) := by omega
        have htr5 := htr4.grown hg5 ne
        have hgC := hgB.trans hg5
        have hco5 := hco4.grown hg5
        have hg5l := hc5.lt
        clear htr4 hc4 hgB hg5 hco4 hi2
        have hbd := htr5.sz i hi3
        have hub := htr5.up i hi3
        go_wp2_with fail
        refine (of_any g C _ 1 w5.heap.size 0 3 3 _ (hc5.alloc _) (hco5.alloc _) (by omega) (by omega) (texts_new w5 nameT3 9 1 nameT3_le) (by omega) (by omega) (by omega)).mono ?_
        rintro e w6 ⟨m, rfl, hm, hc6, hg6⟩
        have htr6 := (htr5.alloc _).grown hg6 ne
        have hgD := (hgC.trans (World.grownBy_alloc w5 _ _)).trans hg6
        clear htr5 hc5 hgC hg6 hco5
        obtain ⟨u, hu⟩ := htr6.blk.ex (i * 3) (by omega)
        have hf := htr6.blk.fz (i * 3)
        have HP := hide (htr6.put hi3 (f := 0) ⟨m, L[i].text, L[i].up⟩ (.string m) ⟨⟨by show m.size ≤ 300; omega, hbd.2⟩, hub⟩ (.inl ⟨rfl, rfl, rfl, rfl⟩))
        have HC := hide (hc6.put (k := i * 3) (Ne.symm ne) (.string m))
        have HG := hide (grown_put (k := i * 3) hgD hgt0 (.string m))
        clear htr6 hc6 hgD
        go_wp2
        go_ret
        exact ⟨gt, cap, _, by rw [List.length_set]; rfl, hgt0, HP.out, HC.out.mono (by omega), HG.out⟩
      · by_cases y1 : y = 1
        · subst y1
          go_wp2_with fail
          refine (pick_any g C _ (L.length : Int) w4 hc4 hco4 (by omega)).mono ?_
          rintro e w5 ⟨i, rfl, hi0, hi1, hi2, hc5, hg5⟩
          obtain ⟨i, rfl⟩ : ∃ i' : Nat, i = i' := ⟨i.toNat, by omega⟩
          have hi3 : i < L.length := by have := hi2 (by omega); omega
          have i1 : (i : Int) < (L.length : Int) := by omega
          have htr5 := htr4.grown hg5 ne
          have hgC := hgB.trans hg5
          have hco5 := hco4.grown hg5
          have hg5l := hc5.lt
          clear htr4 hc4 hgB hg5 hco4 hi2
          have hbd := htr5.sz i hi3
          have hub := htr5.up i hi3
          go_wp2_with fail
          refine (pick_any g C _ 5 w5 hc5 hco5 (by omega)).mono ?_
          rintro e w6 ⟨z, rfl, hz0, hz2, hz3, hc6, hg6⟩
          have hz4 := hz3 (by omega)
          have htr6 := htr5.grown hg6 ne
          have hgD := hgC.trans hg6
          clear htr5 hc5 hgC hg6 hco5 hz3
          obtain ⟨u, hu⟩ := htr6.blk.ex (i * 3 + 2) (by omega)
          have hf := htr6.blk.fz (i * 3 + 2)
          have HP := hide (htr6.put hi3 (f := 2) ⟨L[i].name, L[i].text, z - 1⟩ (.int .i64 (z - 1)) ⟨hbd, by show -1 ≤ z - 1; omega, by show z - 1 ≤ _; omega⟩ (.inr (.inr ⟨rfl, rfl, rfl, rfl⟩)))
          have HC := hide (hc6.put (k := i * 3 + 2) (Ne.symm ne) (.int .i64 (z - 1)))
          have HG := hide (grown_put (k := i * 3 + 2) hgD hgt0 (.int .i64 (z - 1)))
          clear htr6 hc6 hgD
          go_wp2
          go_ret
          exact ⟨gt, cap, _, by rw [List.length_set]; rfl, hgt0, HP.out, HC.out.mono (by omega), HG.out⟩
        · skip
          go_wp2_with fail
          refine (pick_any g C _ (L.length : Int) w4 hc4 hco4 (by omega)).mono ?_
          rintro e w5 ⟨i, rfl, hi0, hi1, hi2, hc5, hg5⟩
          obtain ⟨i, rfl⟩ : ∃ i' : Nat, i = i' := ⟨i.toNat, by omega⟩
          have hi3 : i < L.length := by have := hi2 (by omega); omega
          have i1 : (i : Int) < (L.length : Int) := by omega
          have htr5 := htr4.grown hg5 ne
          have hgC := hgB.trans hg5
          have hco5 := hco4.grown hg5
          have hg5l := hc5.lt
          clear htr4 hc4 hgB hg5 hco4 hi2
          have hbd := htr5.sz i hi3
          have hub := htr5.up i hi3
          go_wp2_with fail
          refine (of_any g C _ 1 w5.heap.size 0 3 3 _ (hc5.alloc _) (hco5.alloc _) (by omega) (by omega) (texts_new w5 textT3 9 1 textT3_le) (by omega) (by omega) (by omega)).mono ?_
          rintro e w6 ⟨m, rfl, hm, hc6, hg6⟩
          have htr6 := (htr5.alloc _).grown hg6 ne
          have hgD := (hgC.trans (World.grownBy_alloc w5 _ _)).trans hg6
          clear htr5 hc5 hgC hg6 hco5
          obtain ⟨u, hu⟩ := htr6.blk.ex (i * 3 + 1) (by omega)
          have hf := htr6.blk.fz (i * 3 + 1)
          have HP := hide (htr6.put hi3 (f := 1) ⟨L[i].name, m, L[i].up⟩ (.string m) ⟨⟨hbd.1, by show m.size ≤ 300; omega⟩, hub⟩ (.inr (.inl ⟨rfl, rfl, rfl, rfl⟩)))
          have HC := hide (hc6.put (k := i * 3 + 1) (Ne.symm ne) (.string m))
          have HG := hide (grown_put (k := i * 3 + 1) hgD hgt0 (.string m))
          clear htr6 hc6 hgD
          go_wp2
          go_ret
          exact ⟨gt, cap, _, by rw [List.length_set]; rfl, hgt0, HP.out, HC.out.mono (by omega), HG.out⟩
end Go.Proofs.YtafhpnkedjbcdaaDoor
