/- The contracts of the laws' own helpers over rows of ints: held against one another, marked, and whether marks are held. -/
import Derived.Test.YtafhpnkedjbcdayWalks4
import Derived.Test.YtafhpnkedjbcdayRowsG
import Derived.Deep.QuietTactic
import Derived.BigQuiet
namespace Go.Proofs.Ytafhpnkedjbcday
open Go.RowKit
open Doc1

/-- A row of ints lies in a block. -/
def IAt (w : World) (g : Nat) (l : List Int) : Prop := ∀ i (h : i < l.length), w.cell? ⟨g, i, none⟩ = some (.int .i64 l[i])
theorem IAt.later {w w1 : World} {B g : Nat} {l : List Int} (h : IAt w g l) (hb : Below B w w1) (hg : g < B) : IAt w1 g l := fun i hi => (World.cell?_of_block (hb.block g hg)).trans (h i hi)
theorem IAt.grown {w w1 : World} {g b : Nat} {l : List Int} (h : IAt w g l) (hg : w.grownBy w1 (some b)) (hl : g < w.heap.size) (hne : g ≠ b) : IAt w1 g l := fun i hi => (World.cell?_of_block (hg.block g hl (by simpa using hne))).trans (h i hi)
structure IBlk (w : World) (g n : Nat) : Prop where
  ex : ∀ j, j < n → ∃ v, w.cell? ⟨g, j, none⟩ = some v
  fz : ∀ j, w.frozen? ⟨g, j, none⟩ = false
theorem IBlk.later {w w1 : World} {B g n : Nat} (h : IBlk w g n) (hb : Below B w w1) (hg : g < B) : IBlk w1 g n where
  ex := fun j hj => by rw [World.cell?_of_block (hb.block g hg)]; exact h.ex j hj
  fz := fun j => by rw [World.frozen?_of_block (hb.block g hg)]; exact h.fz j
theorem ints_shape {w : World} {B : Nat} {v : Value} {l : List Int} (h : w.ownsRow B 3 1 v l.length (ints l)) (hl : l ≠ []) :
    ∃ g cap, v = .slice (some ⟨g, 0, none⟩) l.length cap ∧ l.length ≤ cap ∧ cap ≤ maxLen ∧ B ≤ g ∧ g < w.heap.size ∧ IAt w g l ∧ IBlk w g l.length := by
  have hn : 0 < l.length := List.length_pos_iff.2 hl
  obtain ⟨g, cap, hv, h1, h2, h3, h4, h5⟩ := own_open h hn
  refine ⟨g, cap, hv, h1, h2, h3, h4, fun i hi => h5 i _ (by simp [ints, hi]), fun j hj => ⟨_, h5 j _ (by simp [ints, hj]; rfl)⟩, fun j => ?_⟩
  rcases h.2 with ⟨_, h0⟩ | ⟨g', cap', cur, hv', hb, hh, _⟩
  · omega
  · rw [hv] at hv'; cases hv'
    unfold World.frozen?
    simp [hh]

set_option maxHeartbeats 1000000 in
theorem eqIntS_at (ga gb ca cb : Nat) (l : List Int) (w : World) (hm : l.length ≤ 10000000) (_h1 : l.length ≤ ca ∧ ca ≤ maxLen) (_h2 : l.length ≤ cb ∧ cb ≤ maxLen) (ha : IAt w ga l) (hb : IAt w gb l) (hga : ga < w.heap.size) (hgb : gb < w.heap.size) :
    Calls Try.prog 51 #[.slice (some ⟨ga, 0, none⟩) l.length ca, .slice (some ⟨gb, 0, none⟩) l.length cb] w fun e w' => e = .returned (.bool true) ∧ Below w.heap.size w w' := by
  go_enter Try.func51, Try.ntmps51
  go_wp2
  go_loopw [5] (fun i wr => ∃ k : Nat, k ≤ l.length ∧ i = .int .i64 k ∧ Below w.heap.size w wr) (fun i _ => l.length - (intOf i).toNat)
  case atStart => exact ⟨0, by omega, rfl, Below.refl _ _⟩
  case round =>
    obtain ⟨k, hk, rfl, hbel⟩ := hrel
    by_cases hlt : k < l.length
    · have a0 := ha.later hbel hga k hlt
      have b0 := hb.later hbel hgb k hlt
      go_wp2
      go_quiet (fail)
      go_wp2
      go_roundw
      case rel => exact ⟨k + 1, by omega, by go_num, hbel.trans ⟨rfl, rfl, rfl, Nat.le_refl _, fun _ _ => rfl⟩⟩
      case measure => simp [intOf]; omega
    · go_wp2
      go_ret
      exact ⟨rfl, hbel⟩

/-- The marks of so many ints. -/
def mki (n : Nat) : List Int := (List.range n).map fun i => ((1 + i : Nat) : Int)
theorem mki_len (n : Nat) : (mki n).length = n := by simp [mki]
theorem mki_at (n i : Nat) (h : i < (mki n).length) : (mki n)[i] = ((1 + i : Nat) : Int) := by simp [mki]
structure IMAt (w : World) (g n k : Nat) (wr : World) : Prop where
  blk : IBlk wr g n
  grown : w.grownBy wr (some g)
  c : ∀ i, i < k → wr.cell? ⟨g, i, none⟩ = some (.int .i64 ((1 + i : Nat) : Int))
theorem IMAt.step {w wr : World} {g n k : Nat} (h : IMAt w g n k wr) (hk : k < n) : IMAt w g n (k + 1) (wr.setCell ⟨g, k, none⟩ (.int .i64 ((1 + k : Nat) : Int))) where
  blk := ⟨fun i hi => by
    obtain ⟨x, hx⟩ := h.blk.ex i hi
    by_cases e : i = k
    · subst e; exact ⟨_, World.cell?_setCell_same _ _ _ hx⟩
    · exact ⟨x, by rw [World.cell?_setCell_other _ _ _ _ (off_neP (Ne.symm e))]; exact hx⟩, fun i => by rw [World.frozen?_setCell]; exact h.blk.fz i⟩
  grown := h.grown.trans ⟨rfl, rfl, rfl, by simp [World.setCell], fun k _ hne => Below.heap_setCell _ _ _ _ (by intro e; subst e; exact hne rfl)⟩
  c := fun i hi => by
    by_cases e : i = k
    · subst e; obtain ⟨x, hx⟩ := h.blk.ex i hk; exact World.cell?_setCell_same _ _ _ hx
    · rw [World.cell?_setCell_other _ _ _ _ (off_neP (Ne.symm e))]; exact h.c i (by omega)

set_option maxHeartbeats 1000000 in
theorem markIntS_at (g c n : Nat) (w : World) (hm : n ≤ 10000000) (_h1 : n ≤ c ∧ c ≤ maxLen) (hb : IBlk w g n) :
    Calls Try.prog 28 #[.slice (some ⟨g, 0, none⟩) n c, .int .i64 1] w fun e w' => e = .returned (.int .i64 (1 + n : Nat)) ∧ w.grownBy w' (some g) ∧ IAt w' g (mki n) := by
  go_enter Try.func28, Try.ntmps28
  go_wp2
  go_loopw [1, 5] (fun k1 i wr => ∃ k : Nat, k ≤ n ∧ i = .int .i64 k ∧ k1 = .int .i64 (1 + k : Nat) ∧ IMAt w g n k wr) (fun _ i _ => n - (intOf i).toNat)
  case atStart => exact ⟨0, by omega, rfl, rfl, ⟨hb, ⟨rfl, rfl, rfl, Nat.le_refl _, fun _ _ _ => rfl⟩, fun i hi => by omega⟩⟩
  case round =>
    obtain ⟨k, hk, rfl, rfl, ra⟩ := hrel
    by_cases hlt : k < n
    · obtain ⟨x, hx⟩ := ra.blk.ex k hlt
      have hf := ra.blk.fz k
      have A := ra.step hlt
      rw [show ((1 + k : Nat) : Int) = 1 + (k : Int) by omega] at A
      have HA := hide A
      clear A ra
      go_wp2
      refine ⟨⟨k + 1, by omega, by go_num, by rw [show (1 : Int) + ↑k + 1 = ((1 + (k + 1) : Nat) : Int) by omega], HA.out⟩, by simp [intOf]; omega⟩
    · obtain rfl : k = n := by omega
      go_wp2
      go_ret
      exact ⟨rfl, ra.grown, fun i hi => by rw [mki_at]; exact ra.c i (by rw [mki_len] at hi; exact hi)⟩

set_option maxHeartbeats 1000000 in
theorem heldIntS_at (g c n : Nat) (w : World) (hm : n ≤ 10000000) (_h1 : n ≤ c ∧ c ≤ maxLen) (hb : IAt w g (mki n)) :
    Calls Try.prog 29 #[.slice (some ⟨g, 0, none⟩) n c, .int .i64 1] w fun e w' => e = .returned (.int .i64 (1 + n : Nat)) ∧ Below w.heap.size w w' := by
  go_enter Try.func29, Try.ntmps29
  go_wp2
  go_loopw [1, 5] (fun k1 i wr => ∃ k : Nat, k ≤ n ∧ i = .int .i64 k ∧ k1 = .int .i64 (1 + k : Nat) ∧ IAt wr g (mki n) ∧ Below w.heap.size w wr) (fun _ i _ => n - (intOf i).toNat)
  case atStart => exact ⟨0, by omega, rfl, rfl, hb, Below.refl _ _⟩
  case round =>
    obtain ⟨k, hk, rfl, rfl, ra, hbel⟩ := hrel
    by_cases hlt : k < n
    · have c0 := ra k (by rw [mki_len]; exact hlt)
      rw [mki_at] at c0
      go_wp2
      refine ⟨⟨k + 1, by omega, by go_num, by rw [show (1 : Int) + ↑k + 1 = ((1 + (k + 1) : Nat) : Int) by omega], ra, hbel⟩, by simp [intOf]; omega⟩
    · obtain rfl : k = n := by omega
      go_wp2
      go_ret
      exact ⟨rfl, hbel⟩

set_option maxHeartbeats 400000 in
theorem eqIntS_nil (w : World) :
    Calls Try.prog 51 #[.slice none 0 0, .slice none 0 0] w fun e w' => e = .returned (.bool true) ∧ w' = w := by
  go_enter Try.func51, Try.ntmps51
  go_wp2
  go_loop [5] (fun i => i = .int .i64 0) (fun _ => 0)
  case atStart => rfl
  case round =>
    subst hrel
    go_wp2
    go_ret
    exact ⟨rfl, rfl⟩
set_option maxHeartbeats 400000 in
theorem markIntS_nil (w : World) :
    Calls Try.prog 28 #[.slice none 0 0, .int .i64 1] w fun e w' => e = .returned (.int .i64 1) ∧ w' = w := by
  go_enter Try.func28, Try.ntmps28
  go_wp2
  go_loop [1, 5] (fun k i => k = .int .i64 1 ∧ i = .int .i64 0) (fun _ _ => 0)
  case atStart => exact ⟨rfl, rfl⟩
  case round =>
    obtain ⟨rfl, rfl⟩ := hrel
    go_wp2
    go_ret
    exact ⟨rfl, rfl⟩
set_option maxHeartbeats 400000 in
theorem heldIntS_nil (w : World) :
    Calls Try.prog 29 #[.slice none 0 0, .int .i64 1] w fun e w' => e = .returned (.int .i64 1) ∧ w' = w := by
  go_enter Try.func29, Try.ntmps29
  go_wp2
  go_loop [1, 5] (fun k i => k = .int .i64 1 ∧ i = .int .i64 0) (fun _ _ => 0)
  case atStart => exact ⟨rfl, rfl⟩
  case round =>
    obtain ⟨rfl, rfl⟩ := hrel
    go_wp2
    go_ret
    exact ⟨rfl, rfl⟩
end Go.Proofs.Ytafhpnkedjbcday
