/- The laws' helpers over rows of ints that an answer owns, empty or not. -/
import Derived.Test.YtnhooalibadeeabDoorOwnG
import Derived.Test.YtnhooalibadeeabDoorIntsQ
namespace Go.Proofs.YtnhooalibadeeabDoor
open Go.RowKit
open Doc1

set_option maxHeartbeats 400000 in
theorem eqIntS_zero (a b : Option Addr) (ca cb : Nat) (w : World) :
    Calls Tryd.prog 15 #[.slice a 0 ca, .slice b 0 cb] w fun e w' => e = .returned (.bool true) ∧ w' = w := by
  go_enter Tryd.func15, Tryd.ntmps15
  go_wp2
  go_loop [5] (fun i => i = .int .i64 0) (fun _ => 0)
  case atStart => rfl
  case round =>
    subst hrel
    go_wp2
    go_ret
    exact ⟨rfl, rfl⟩

set_option maxHeartbeats 400000 in
theorem markIntS_zero (a : Option Addr) (ca : Nat) (w : World) :
    Calls Tryd.prog 16 #[.slice a 0 ca, .int .i64 1] w fun e w' => e = .returned (.int .i64 1) ∧ w' = w := by
  go_enter Tryd.func16, Tryd.ntmps16
  go_wp2
  go_loop [1, 5] (fun k i => k = .int .i64 1 ∧ i = .int .i64 0) (fun _ _ => 0)
  case atStart => exact ⟨rfl, rfl⟩
  case round =>
    obtain ⟨rfl, rfl⟩ := hrel
    go_wp2
    go_ret
    exact ⟨rfl, rfl⟩

set_option maxHeartbeats 400000 in
theorem heldIntS_zero (a : Option Addr) (ca : Nat) (w : World) :
    Calls Tryd.prog 17 #[.slice a 0 ca, .int .i64 1] w fun e w' => e = .returned (.int .i64 1) ∧ w' = w := by
  go_enter Tryd.func17, Tryd.ntmps17
  go_wp2
  go_loop [1, 5] (fun k i => k = .int .i64 1 ∧ i = .int .i64 0) (fun _ _ => 0)
  case atStart => exact ⟨rfl, rfl⟩
  case round =>
    obtain ⟨rfl, rfl⟩ := hrel
    go_wp2
    go_ret
    exact ⟨rfl, rfl⟩

/-- A row of ints that an answer owns. -/
def IOwn (w : World) (B : Nat) (v : Value) (l : List Int) : Prop := w.ownsRow B 3 1 v l.length (ints l)
/-- Its marks. -/
def IMk (w : World) (v : Value) (n : Nat) : Prop := (n = 0 ∧ ∃ a cap, v = .slice a 0 cap) ∨ ∃ g cap, v = .slice (some ⟨g, 0, none⟩) n cap ∧ n ≤ cap ∧ cap ≤ maxLen ∧ g < w.heap.size ∧ IAt w g (mki n)
theorem IMk.later {w w1 : World} {v : Value} {n : Nat} (h : IMk w v n) (hb : Below w.heap.size w w1) : IMk w1 v n :=
  h.imp id (fun ⟨g, cap, e, h1, h2, h3, h4⟩ => ⟨g, cap, e, h1, h2, Nat.lt_of_lt_of_le h3 hb.size, h4.later hb h3⟩)

theorem eqI_own {w : World} {Ba Bb : Nat} {va vb : Value} {l : List Int} (ha : IOwn w Ba va l) (hb : IOwn w Bb vb l) (hm : l.length ≤ 10000000) :
    Calls Tryd.prog 15 #[va, vb] w fun e w' => e = .returned (.bool true) ∧ Below w.heap.size w w' := by
  unfold IOwn at ha hb
  by_cases h0 : l = []
  · subst h0
    obtain ⟨a, ca, rfl, -, -⟩ := own_shp ha
    obtain ⟨b, cb, rfl, -, -⟩ := own_shp hb
    refine (eqIntS_zero a b ca cb w).mono ?_
    rintro e w' ⟨rfl, rfl⟩
    exact ⟨rfl, Below.refl _ _⟩
  · obtain ⟨ga, ca, rfl, a1, a2, -, a3, a4, -⟩ := ints_shape ha h0
    obtain ⟨gb, cb, rfl, b1, b2, -, b3, b4, -⟩ := ints_shape hb h0
    exact eqIntS_at ga gb ca cb l w hm ⟨a1, a2⟩ ⟨b1, b2⟩ a4 b4 a3 b3

theorem markI_own {w : World} {B : Nat} {v : Value} {l : List Int} (h : IOwn w B v l) (hm : l.length ≤ 10000000) :
    Calls Tryd.prog 16 #[v, .int .i64 1] w fun e w' => e = .returned (.int .i64 (1 + l.length : Nat)) ∧ w.grownBy w' v.ownBlock ∧ IMk w' v l.length := by
  unfold IOwn at h
  by_cases h0 : l = []
  · subst h0
    obtain ⟨a, ca, rfl, -, -⟩ := own_shp h
    refine (markIntS_zero a ca w).mono ?_
    rintro e w' ⟨rfl, rfl⟩
    exact ⟨rfl, grown_self _ _, .inl ⟨rfl, a, ca, rfl⟩⟩
  · obtain ⟨ga, ca, rfl, a1, a2, -, a3, a4, a5⟩ := ints_shape h h0
    refine (markIntS_at ga ca l.length w hm ⟨a1, a2⟩ a5).mono ?_
    rintro e w' ⟨rfl, hg, hi⟩
    exact ⟨rfl, hg, .inr ⟨ga, ca, rfl, a1, a2, Nat.lt_of_lt_of_le a3 hg.size, hi⟩⟩

theorem heldI_own {w : World} {v : Value} {n : Nat} (h : IMk w v n) (hm : n ≤ 10000000) :
    Calls Tryd.prog 17 #[v, .int .i64 1] w fun e w' => e = .returned (.int .i64 (1 + n : Nat)) ∧ Below w.heap.size w w' := by
  rcases h with ⟨rfl, a, ca, rfl⟩ | ⟨g, cap, rfl, h1, h2, h3, h4⟩
  · refine (heldIntS_zero a ca w).mono ?_
    rintro e w' ⟨rfl, rfl⟩
    exact ⟨rfl, Below.refl _ _⟩
  · exact heldIntS_at g cap n w hm ⟨h1, h2⟩ h4
end Go.Proofs.YtnhooalibadeeabDoor
