/- The laws' sameInts over rows that are owned. -/
import Derived.Test.YtfiefklhhchebaaDoorOwnI
import Derived.Test.YtfiefklhhchebaaDoorCells
namespace Go.Proofs.YtfiefklhhchebaaDoor
open Go.RowKit
open Doc1

set_option maxRecDepth 100000 in
set_option maxHeartbeats 1000000 in
theorem sameInts_at (ga gb ca cb : Nat) (l : List Int) (w : World) (hm : l.length ≤ 10000000) (_h1 : l.length ≤ ca ∧ ca ≤ maxLen) (_h2 : l.length ≤ cb ∧ cb ≤ maxLen) (ha : IAt w ga l) (hb : IAt w gb l) (hga : ga < w.heap.size) (hgb : gb < w.heap.size) :
    Calls Tryd.prog 14 #[.slice (some ⟨ga, 0, none⟩) l.length ca, .slice (some ⟨gb, 0, none⟩) l.length cb] w fun e w' => e = .returned (.bool true) ∧ Below w.heap.size w w' := by
  go_enter Tryd.func14, Tryd.ntmps14
  go_wp2
  go_loopw [13] (fun i wr => ∃ k : Nat, k ≤ l.length ∧ i = .int .i64 k ∧ Below w.heap.size w wr) (fun i _ => l.length - (intOf i).toNat)
  case atStart => exact ⟨0, by omega, rfl, Below.refl _ _⟩
  case round =>
    obtain ⟨k, hk, rfl, hbel⟩ := hrel
    by_cases hlt : k < l.length
    · have a0 := ha.later hbel hga k hlt
      have b0 := hb.later hbel hgb k hlt
      go_wp2
      go_quiet (fail)
      go_wp2
      go_roundw
      case rel => exact ⟨k + 1, by omega, by go_num, hbel.trans ⟨rfl, rfl, rfl, Nat.le_refl _, fun _ _ => rfl⟩⟩
      case measure => simp [intOf]; omega
    · go_wp2
      go_ret
      exact ⟨rfl, hbel⟩

set_option maxHeartbeats 400000 in
theorem sameInts_zero (a b : Option Addr) (ca cb : Nat) (w : World) :
    Calls Tryd.prog 14 #[.slice a 0 ca, .slice b 0 cb] w fun e w' => e = .returned (.bool true) ∧ w' = w := by
  go_enter Tryd.func14, Tryd.ntmps14
  go_wp2
  go_loop [13] (fun i => i = .int .i64 0) (fun _ => 0)
  case atStart => rfl
  case round =>
    subst hrel
    go_wp2
    go_ret
    exact ⟨rfl, rfl⟩

theorem iat_of_cls {w : World} {g : Nat} {l : List Int} (h : CLs w g (ints l)) : IAt w g l := fun i hi => h i _ (by simp [ints, hi])
theorem sameInts_own {w : World} {Ba Bb : Nat} {va vb : Value} {l : List Int} (ha : w.ownsRow Ba 3 1 va l.length (ints l)) (hb : w.ownsRow Bb 3 1 vb l.length (ints l)) (hm : l.length ≤ 10000000) :
    Calls Tryd.prog 14 #[va, vb] w fun e w' => e = .returned (.bool true) ∧ Below w.heap.size w w' := by
  by_cases h0 : l = []
  · subst h0
    obtain ⟨a, ca, rfl, -, -⟩ := own_shp ha
    obtain ⟨b, cb, rfl, -, -⟩ := own_shp hb
    refine (sameInts_zero a b ca cb w).mono ?_
    rintro e w' ⟨rfl, rfl⟩
    exact ⟨rfl, Below.refl _ _⟩
  · have hp := List.length_pos_iff.2 h0
    obtain ⟨ga, ca, rfl, a1, a2, -, a3, a4, -⟩ := own_cat ha hp
    obtain ⟨gb, cb, rfl, b1, b2, -, b3, b4, -⟩ := own_cat hb hp
    exact sameInts_at ga gb ca cb l w hm ⟨a1, a2⟩ ⟨b1, b2⟩ (iat_of_cls a4) (iat_of_cls b4) a3 b3
end Go.Proofs.YtfiefklhhchebaaDoor
