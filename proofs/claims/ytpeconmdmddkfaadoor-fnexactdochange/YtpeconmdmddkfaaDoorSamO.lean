/- The laws' sameOps over rows that are owned. -/
import Derived.Test.YtpeconmdmddkfaaDoorRowsPart
import Derived.Test.YtpeconmdmddkfaaDoorCells
import Derived.Deep.QuietTactic
import Derived.BigQuiet
namespace Go.Proofs.YtpeconmdmddkfaaDoor
open Go.RowKit
open Doc1

set_option maxHeartbeats 400000 in
theorem sameOps_zero (a b : Option Addr) (ca cb : Nat) (w : World) :
    Calls Tryd.prog 74 #[.slice a 0 ca, .slice b 0 cb] w fun e w' => e = .returned (.bool true) ∧ w' = w := by
  go_enter Tryd.func74, Tryd.ntmps74
  go_wp2
  go_loop [13] (fun i => i = .int .i64 0) (fun _ => 0)
  case atStart => rfl
  case round =>
    subst hrel
    go_wp2
    go_ret
    exact ⟨rfl, rfl⟩

set_option maxRecDepth 100000 in
set_option maxHeartbeats 1000000 in
theorem sameOps_at (ga gb ca cb : Nat) (l : List Pt) (w : World) (hm : l.length ≤ 10000000) (_h1 : l.length ≤ ca ∧ ca ≤ maxLen) (_h2 : l.length ≤ cb ∧ cb ≤ maxLen) (ha : CLs w ga (encP l)) (hb : CLs w gb (encP l)) (hga : ga < w.heap.size) (hgb : gb < w.heap.size) :
    Calls Tryd.prog 74 #[.slice (some ⟨ga, 0, none⟩) l.length ca, .slice (some ⟨gb, 0, none⟩) l.length cb] w fun e w' => e = .returned (.bool true) ∧ Below w.heap.size w w' := by
  go_enter Tryd.func74, Tryd.ntmps74
  go_wp2
  go_loopw [13] (fun i wr => ∃ k : Nat, k ≤ l.length ∧ i = .int .i64 k ∧ Below w.heap.size w wr) (fun i _ => l.length - (intOf i).toNat)
  case atStart => exact ⟨0, by omega, rfl, Below.refl _ _⟩
  case round =>
    obtain ⟨k, hk, rfl, hbel⟩ := hrel
    by_cases hlt : k < l.length
    · obtain ⟨a0, a1, a2⟩ := (ha.later hbel hga).ptat k hlt
      obtain ⟨b0, b1, b2⟩ := (hb.later hbel hgb).ptat k hlt
      go_wp2
      go_quiet (fail)
      go_wp2
      go_roundw
      case rel => exact ⟨k + 1, by omega, by go_num, hbel.trans ⟨rfl, rfl, rfl, Nat.le_refl _, fun _ _ => rfl⟩⟩
      case measure => simp [intOf]; omega
    · go_wp2
      go_ret
      exact ⟨rfl, hbel⟩
/-- Two rows of one's own that hold the same parts. -/
theorem sameOps_own {w : World} {A B : Nat} {u v : Value} {l : List Pt} (ha : POwn w A u l) (hb : POwn w B v l) (hm : l.length ≤ 10000000) :
    Calls Tryd.prog 74 #[u, v] w fun e w' => e = .returned (.bool true) ∧ Below w.heap.size w w' := by
  rcases Nat.eq_zero_or_pos l.length with h0 | h0
  · obtain ⟨a, ca, rfl, -, -⟩ := own_shp ha
    obtain ⟨b, cb, rfl, -, -⟩ := own_shp hb
    rw [h0]
    exact (sameOps_zero a b ca cb w).mono fun e w' ⟨h1, h2⟩ => ⟨h1, h2 ▸ Below.refl _ _⟩
  · obtain ⟨ga, ca, rfl, a1, a2, -, a3, a4, -⟩ := own_cat ha h0
    obtain ⟨gb, cb, rfl, b1, b2, -, b3, b4, -⟩ := own_cat hb h0
    exact sameOps_at ga gb ca cb l w hm ⟨a1, a2⟩ ⟨b1, b2⟩ a4 b4 a3 b3
end Go.Proofs.YtpeconmdmddkfaaDoor
