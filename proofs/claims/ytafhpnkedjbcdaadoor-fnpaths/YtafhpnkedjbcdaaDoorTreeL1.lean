/- The laws' sameNodes and sameInts, the drawing DrawKidsOf, and how sizes add up. -/
import Derived.Test.YtafhpnkedjbcdaaDoorTreeDM
import Derived.Test.YtafhpnkedjbcdaaDoorTreeS3
import Derived.Test.YtafhpnkedjbcdaaDoorOwn1
import Derived.Test.YtafhpnkedjbcdaaDoorCells
namespace Go.Proofs.YtafhpnkedjbcdaaDoor.Doc1

theorem tree_good {s : ByteArray} (hd : doc s.data.toList = true) : goodT (tree s.data.toList) = true ∧ fl (tree s.data.toList) 0 = s.data.toList := by
  obtain ⟨z, y, h1, h2, h3⟩ := tree_lay s hd
  obtain ⟨b1, b2⟩ := tree_bd s.data.toList
  have hl := tree_len s.data.toList
  have hs : s.data.toList.length ≤ 300 := by
    have hd' := hd
    unfold doc at hd'
    simp only [Bool.and_eq_true] at hd'
    have := hd'.1
    unfold good at this
    simp only [Bool.and_eq_true, decide_eq_true_eq] at this
    exact this.2
  have hlay : (layL (tree s.data.toList)).isSome = true := by
    unfold layL
    rw [if_neg (by intro c; rcases c with c | c; exact b2 c; omega), h1]
    simp only [Option.bind_some, h2, h3, hd, if_true, Option.isSome_some]
  obtain ⟨ht, ho⟩ := tile_lay h1 b2 h2
  rw [ho] at ht
  refine ⟨by rw [← lay_good]; exact hlay, ?_⟩
  rw [fl_all ht (List.length_pos_iff.2 b2) (fr_zero h1 b2 h2), h3]
theorem good_names {l : List Nd} (h : goodT l = true) : ∀ n ∈ l, n.name.size ≤ 1 := by
  unfold goodT at h
  simp only [Bool.and_eq_true, decide_eq_true_eq] at h
  have := (tree_bd (fl l 0)).1
  rw [h.2.2] at this
  exact fun n hn => (this n hn).1
/-- The size of a node: its own, and those of its parts. -/
theorem fl_sum {l : List Nd} (h : goodT l = true) {k : Nat} (hk : k < l.length) : ((fl l k).length : Int) = ((l[k].text.size : Int) + (if l[k].name.toList = [] then 0 else 2)) + ((kids l k).map (fun i => ((fl l i).length : Int))).sum := by
  have e : ndAt l k = l[k] := by unfold ndAt; simp [hk]
  have hn := good_names h l[k] (List.getElem_mem hk)
  have fm : ∀ K : List Nat, (((K.flatMap (fl l)).length : Nat) : Int) = (K.map (fun i => ((fl l i).length : Int))).sum := by
    intro K
    induction K with
    | nil => rfl
    | cons a K ih => rw [List.flatMap_cons, List.length_append, List.map_cons, List.sum_cons, ← ih]; omega
  rw [fl_eq, ← fm]
  have e1 : nmL l k = l[k].name.data.toList := by unfold nmL; rw [e]
  have e2 : txL l k = l[k].text.data.toList := by unfold txL; rw [e]
  have e3 : l[k].text.size = l[k].text.data.toList.length := by simp
  have e4 : l[k].name.size = l[k].name.data.toList.length := by simp
  rw [List.length_append, List.length_append, List.length_append, e2, ← e3]
  unfold slL
  rw [e1, ByteArray.toList_eq]
  rw [e4] at hn
  cases hc : l[k].name.data.toList with
  | nil => simp
  | cons a r =>
    rw [hc] at hn
    simp only [List.length_cons] at hn
    rw [if_neg (by simp), if_neg (by simp)]
    simp only [List.length_cons, List.length_nil]
    omega
end Go.Proofs.YtafhpnkedjbcdaaDoor.Doc1

namespace Go.Proofs.YtafhpnkedjbcdaaDoor
open Go.RowKit
open Doc1

set_option maxRecDepth 100000 in
set_option maxHeartbeats 1000000 in
theorem sameNodes_at (ga gb ca cb : Nat) (l : List Nd) (w : World) (hm : l.length ≤ 10000000) (_h1 : l.length ≤ ca ∧ ca ≤ maxLen) (_h2 : l.length ≤ cb ∧ cb ≤ maxLen) (ha : NAt w ga l) (hb : NAt w gb l) (hga : ga < w.heap.size) (hgb : gb < w.heap.size) :
    Calls Tryd.prog 29 #[.slice (some ⟨ga, 0, none⟩) l.length ca, .slice (some ⟨gb, 0, none⟩) l.length cb] w fun e w' => e = .returned (.bool true) ∧ Below w.heap.size w w' := by
  go_enter Tryd.func29, Tryd.ntmps29
  go_wp2
  go_loopw [13] (fun i wr => ∃ k : Nat, k ≤ l.length ∧ i = .int .i64 k ∧ Below w.heap.size w wr) (fun i _ => l.length - (intOf i).toNat)
  case atStart => exact ⟨0, by omega, rfl, Below.refl _ _⟩
  case round =>
    obtain ⟨k, hk, rfl, hbel⟩ := hrel
    by_cases hlt : k < l.length
    · have a0 := (ha.later hbel hga).c0 k hlt
      have a1 := (ha.later hbel hga).c1 k hlt
      have a2 := (ha.later hbel hga).c2 k hlt
      have b0 := (hb.later hbel hgb).c0 k hlt
      have b1 := (hb.later hbel hgb).c1 k hlt
      have b2 := (hb.later hbel hgb).c2 k hlt
      go_wp2
      go_quiet (fail)
      go_wp2
      go_roundw
      case rel => exact ⟨k + 1, by omega, by go_num, hbel.trans ⟨rfl, rfl, rfl, Nat.le_refl _, fun _ _ => rfl⟩⟩
      case measure => simp [intOf]; omega
    · go_wp2
      go_ret
      exact ⟨rfl, hbel⟩

set_option maxRecDepth 100000 in
set_option maxHeartbeats 1000000 in
theorem sameInts_at (ga gb ca cb : Nat) (l : List Int) (w : World) (hm : l.length ≤ 10000000) (_h1 : l.length ≤ ca ∧ ca ≤ maxLen) (_h2 : l.length ≤ cb ∧ cb ≤ maxLen) (ha : IAt w ga l) (hb : IAt w gb l) (hga : ga < w.heap.size) (hgb : gb < w.heap.size) :
    Calls Tryd.prog 35 #[.slice (some ⟨ga, 0, none⟩) l.length ca, .slice (some ⟨gb, 0, none⟩) l.length cb] w fun e w' => e = .returned (.bool true) ∧ Below w.heap.size w w' := by
  go_enter Tryd.func35, Tryd.ntmps35
  go_wp2
  go_loopw [13] (fun i wr => ∃ k : Nat, k ≤ l.length ∧ i = .int .i64 k ∧ Below w.heap.size w wr) (fun i _ => l.length - (intOf i).toNat)
  case atStart => exact ⟨0, by omega, rfl, Below.refl _ _⟩
  case round =>
    obtain ⟨k, hk, rfl, hbel⟩ := hrel
    by_cases hlt : k < l.length
    · have a0 := ha.later hbel hga k hlt
      have b0 := hb.later hbel hgb k hlt
      go_wp2
      go_quiet (fail)
      go_wp2
      go_roundw
      case rel => exact ⟨k + 1, by omega, by go_num, hbel.trans ⟨rfl, rfl, rfl, Nat.le_refl _, fun _ _ => rfl⟩⟩
      case measure => simp [intOf]; omega
    · go_wp2
      go_ret
      exact ⟨rfl, hbel⟩

set_option maxHeartbeats 400000 in
theorem sameNodes_zero (a b : Option Addr) (ca cb : Nat) (w : World) :
    Calls Tryd.prog 29 #[.slice a 0 ca, .slice b 0 cb] w fun e w' => e = .returned (.bool true) ∧ w' = w := by
  go_enter Tryd.func29, Tryd.ntmps29
  go_wp2
  go_loop [13] (fun i => i = .int .i64 0) (fun _ => 0)
  case atStart => rfl
  case round =>
    subst hrel
    go_wp2
    go_ret
    exact ⟨rfl, rfl⟩

set_option maxHeartbeats 400000 in
theorem sameInts_zero (a b : Option Addr) (ca cb : Nat) (w : World) :
    Calls Tryd.prog 35 #[.slice a 0 ca, .slice b 0 cb] w fun e w' => e = .returned (.bool true) ∧ w' = w := by
  go_enter Tryd.func35, Tryd.ntmps35
  go_wp2
  go_loop [13] (fun i => i = .int .i64 0) (fun _ => 0)
  case atStart => rfl
  case round =>
    subst hrel
    go_wp2
    go_ret
    exact ⟨rfl, rfl⟩

theorem sameNodes_own {w : World} {Ba Bb : Nat} {va vb : Value} {l : List Nd} (ha : NOwn w Ba va l) (hb : NOwn w Bb vb l) (hm : l.length ≤ 10000000) :
    Calls Tryd.prog 29 #[va, vb] w fun e w' => e = .returned (.bool true) ∧ Below w.heap.size w w' := by
  by_cases h0 : l = []
  · subst h0
    obtain ⟨a, ca, rfl, -, -⟩ := own_shp ha
    obtain ⟨b, cb, rfl, -, -⟩ := own_shp hb
    refine (sameNodes_zero a b ca cb w).mono ?_
    rintro e w' ⟨rfl, rfl⟩
    exact ⟨rfl, Below.refl _ _⟩
  · obtain ⟨ga, ca, rfl, a1, a2, -, a3, a4, -⟩ := NOwn.shape ha h0
    obtain ⟨gb, cb, rfl, b1, b2, -, b3, b4, -⟩ := NOwn.shape hb h0
    exact sameNodes_at ga gb ca cb l w hm ⟨a1, a2⟩ ⟨b1, b2⟩ a4 b4 a3 b3

theorem iat_of_cls {w : World} {g : Nat} {l : List Int} (h : CLs w g (ints l)) : IAt w g l := fun i hi => h i _ (by simp [ints, hi])
theorem sameInts_own {w : World} {Ba Bb : Nat} {va vb : Value} {l : List Int} (ha : w.ownsRow Ba 3 1 va l.length (ints l)) (hb : w.ownsRow Bb 3 1 vb l.length (ints l)) (hm : l.length ≤ 10000000) :
    Calls Tryd.prog 35 #[va, vb] w fun e w' => e = .returned (.bool true) ∧ Below w.heap.size w w' := by
  by_cases h0 : l = []
  · subst h0
    obtain ⟨a, ca, rfl, -, -⟩ := own_shp ha
    obtain ⟨b, cb, rfl, -, -⟩ := own_shp hb
    refine (sameInts_zero a b ca cb w).mono ?_
    rintro e w' ⟨rfl, rfl⟩
    exact ⟨rfl, Below.refl _ _⟩
  · have hp := List.length_pos_iff.2 h0
    obtain ⟨ga, ca, rfl, a1, a2, -, a3, a4, -⟩ := own_cat ha hp
    obtain ⟨gb, cb, rfl, b1, b2, -, b3, b4, -⟩ := own_cat hb hp
    exact sameInts_at ga gb ca cb l w hm ⟨a1, a2⟩ ⟨b1, b2⟩ (iat_of_cls a4) (iat_of_cls b4) a3 b3

/-- What DrawKidsOf leaves. -/
def KidsDrawn (w : World) (e : Ending) (w' : World) : Prop :=
  ∃ (gt cap : Nat) (l : List Nd) (k : Int), e = .returned (.tuple #[.slice (some ⟨gt, 0, none⟩) l.length cap, .int .i64 k]) ∧ w.heap.size ≤ gt ∧ TrAt w' gt cap l ∧ -1 ≤ k ∧ k ≤ 65535 ∧ Below w.heap.size w w'

set_option maxRecDepth 100000 in
set_option maxHeartbeats 1000000 in
theorem drawKidsOf_any (C : Value) (w : World) (hco : CodeAt w.heap.size C w) :
    Calls Tryd.prog 32 #[C] w (KidsDrawn w) := by
  have hcur := cur_new w C
  have hco1 := hco.grown (World.grownBy_alloc w (.cells #[C, .int .i64 0, .int .u64 0] 83) (some w.heap.size))
  obtain ⟨a, len, cap, rfl⟩ := hco.shape
  clear hco
  go_enter Tryd.func32, Tryd.ntmps32
  go_wp2_with fail
  refine (cur_tree _ _ _ _ hcur hco1 (by omega)).mono ?_
  rintro e w1 ⟨gt, cp, l, rfl, hgt, htr, hc1, hg1⟩
  have hco2 := hco1.grown hg1
  have hll := htr.len
  have hcp := htr.cap
  have hgt2 : w.heap.size + 1 ≤ gt := by simpa using hgt
  clear hcur hco1 hgt
  go_wp2_with fail
  refine (pick_any _ _ _ ((l.length : Int) + 2) w1 hc1 hco2 (by omega)).mono ?_
  rintro e w2 ⟨y, rfl, hy0, hy1, hy2, hc2, hg2⟩
  have hb2 := below_of_grown (hg1.trans hg2)
  have htr2 := htr.grown hg2 (by omega)
  clear hc2 hg2 hg1 hc1 hco2 htr hy2
  go_wp2
  go_ret2
  exact ⟨gt, cp, l, y - 1, rfl, by omega, htr2, by omega, by omega, hb2⟩
end Go.Proofs.YtafhpnkedjbcdaaDoor
