/- The contracts of the laws' own helpers over rows of strings: held against one another, marked. -/
import Derived.Test.YtgacajnljplmiaaDoorCells
import Derived.Test.YtgacajnljplmiaaDoorOwnG
import Derived.Test.YtgacajnljplmiaaDoorNodes2
import Derived.Deep.QuietTactic
import Derived.BigQuiet
import Derived.Deep.RegionWith
namespace Go.Proofs.YtgacajnljplmiaaDoor
open Go.RowKit
open Doc1

def encSt (l : List ByteArray) : List Value := l.map Value.string
theorem encSt_len (l : List ByteArray) : (encSt l).length = l.length := by simp [encSt]
theorem encSt_app (a b : List ByteArray) : encSt (a ++ b) = encSt a ++ encSt b := by simp [encSt]
theorem CLs.stat {w : World} {g : Nat} {l : List ByteArray} (h : CLs w g (encSt l)) (i : Nat) (hi : i < l.length) : w.cell? ⟨g, i, none⟩ = some (.string l[i]) :=
  h i _ (by simp [encSt, hi])
def ksSt (_ : Nat) : Bool := true

set_option maxRecDepth 100000 in
set_option maxHeartbeats 1000000 in
theorem eqStringS_at (ga gb ca cb : Nat) (l : List ByteArray) (w : World) (hm : l.length ≤ 10000000) (_h1 : l.length ≤ ca ∧ ca ≤ maxLen) (_h2 : l.length ≤ cb ∧ cb ≤ maxLen) (ha : CLs w ga (encSt l)) (hb : CLs w gb (encSt l)) (hga : ga < w.heap.size) (hgb : gb < w.heap.size) :
    Calls Tryd.prog 11 #[.slice (some ⟨ga, 0, none⟩) l.length ca, .slice (some ⟨gb, 0, none⟩) l.length cb] w fun e w' => e = .returned (.bool true) ∧ Below w.heap.size w w' := by
  go_enter Tryd.func11, Tryd.ntmps11
  go_wp2
  go_loopw [5] (fun i wr => ∃ k : Nat, k ≤ l.length ∧ i = .int .i64 k ∧ Below w.heap.size w wr) (fun i _ => l.length - (intOf i).toNat)
  case atStart => exact ⟨0, by omega, rfl, Below.refl _ _⟩
  case round =>
    obtain ⟨k, hk, rfl, hbel⟩ := hrel
    by_cases hlt : k < l.length
    · have a0 := (ha.later hbel hga).stat k hlt
      have b0 := (hb.later hbel hgb).stat k hlt
      go_wp2
      go_quiet (fail)
      go_wp2
      go_roundw
      case rel => exact ⟨k + 1, by omega, by go_num, hbel.trans ⟨rfl, rfl, rfl, Nat.le_refl _, fun _ _ => rfl⟩⟩
      case measure => simp [intOf]; omega
    · go_wp2
      go_ret
      exact ⟨rfl, hbel⟩

set_option maxRecDepth 100000 in
set_option maxHeartbeats 2000000 in
theorem markStringS_at (g c n : Nat) (w : World) (hm : n ≤ 10000000) (_h1 : n ≤ c ∧ c ≤ maxLen) (hg : g < w.heap.size) (hb : Blk w g n) :
    Calls Tryd.prog 12 #[.slice (some ⟨g, 0, none⟩) n c, .int .i64 1] w fun e w' => e = .returned (.int .i64 (1 + n : Nat)) ∧ w.grownBy w' (some g) ∧ CLs w' g (mkAll ksSt n) := by
  have T : Hid (∀ (K : Nat) w, 0 < K → K ≤ 1000000000 → Calls Tryd.prog 36 #[.int .i64 (K : Int)] w fun e w' => e = .returned (.string (mkT K)) ∧ Below w.heap.size w w') := hide (fun K w h1 h2 => markText_any K w h1 h2)
  go_enter Tryd.func12, Tryd.ntmps12
  go_wp2
  go_loopw [1, 5] (fun k1 i wr => ∃ k : Nat, k ≤ n ∧ i = .int .i64 k ∧ k1 = .int .i64 (1 + k : Nat) ∧ Hid (MC ksSt w g n k wr)) (fun _ i _ => n - (intOf i).toNat)
  case atStart => exact ⟨0, by omega, rfl, rfl, hide (mc_start hb hg)⟩
  case round =>
    obtain ⟨k, hk, rfl, rfl, R0⟩ := hrel
    by_cases hlt : k < n
    · clear hb
      go_wp2_with fail
      refine (T.out (1 + k) wr (by omega) (by omega)).mono ?_
      rintro e u1 ⟨rfl, hb1⟩
      have r1 := R0.out.below hb1
      obtain ⟨x1, hx1⟩ := r1.blk.ex k (by omega)
      have f1 := r1.blk.fz k
      have R2 := hide (r1.put (by omega) (.string (mkT (1 + k))) (mkS (by simp [ksSt])))
      clear r1 hb1
      obtain ⟨W1, hW1⟩ : ∃ W, W = u1.setCell ⟨g, k, none⟩ (.string (mkT (1 + k))) := ⟨_, rfl⟩
      rw [← hW1] at R2
      go_wp2
      rw [← hW1]
      refine ⟨⟨k + 1, by omega, by go_num, by rw [show (1 : Int) + ↑k + 1 = ((1 + (k + 1) : Nat) : Int) by omega], R2⟩, by simp [intOf]; omega⟩
    · obtain rfl : k = n := by omega
      go_wp2
      go_ret
      exact ⟨rfl, R0.out.grown, R0.out.all⟩

set_option maxRecDepth 100000 in
set_option maxHeartbeats 4000000 in
theorem heldStringS_at (g c n : Nat) (w : World) (hm : n ≤ 10000000) (_h1 : n ≤ c ∧ c ≤ maxLen) (hg : g < w.heap.size) (hb : CLs w g (mkAll ksSt n)) :
    Calls Tryd.prog 13 #[.slice (some ⟨g, 0, none⟩) n c, .int .i64 1] w fun e w' => e = .returned (.int .i64 (1 + n : Nat)) ∧ Below w.heap.size w w' := by
  have T : Hid (∀ (K : Nat) w, 0 < K → K ≤ 1000000000 → Calls Tryd.prog 36 #[.int .i64 (K : Int)] w fun e w' => e = .returned (.string (mkT K)) ∧ Below w.heap.size w w') := hide (fun K w h1 h2 => markText_any K w h1 h2)
  go_enter Tryd.func13, Tryd.ntmps13
  go_wp2
  go_loopw [1, 5] (fun k1 i wr => ∃ k : Nat, k ≤ n ∧ i = .int .i64 k ∧ k1 = .int .i64 (1 + k : Nat) ∧ Below w.heap.size w wr) (fun _ i _ => n - (intOf i).toNat)
  case atStart => exact ⟨0, by omega, rfl, rfl, Below.refl _ _⟩
  case round =>
    obtain ⟨k, hk, rfl, rfl, hbel⟩ := hrel
    by_cases hlt : k < n
    · have C : Hid (∀ wx, Below w.heap.size w wx → wx.cell? ⟨g, k, none⟩ = some (.string (mkT (1 + k)))) := hide (fun wx hx => (hb.later hx hg) _ _ ((mkAll_at ksSt (by omega)).trans (by rw [← mkS (by simp [ksSt])])))
      clear hb
      have c0 := C.out wr hbel
      have T1 := hide (fun w => T.out (1 + k) w (by omega) (by omega))
      go_wp2_with fail
      go_region_with (go_at_call 36; refine (T1.out _).mono ?_; rintro e w1 ⟨rfl, hb1⟩; have hB1 := hbel.trans ((Below.refl _ _).drew.trans (hb1.mono (show w.heap.size ≤ wr.drew.heap.size from hbel.size))); have d1 := C.out w1 hB1)
      all_goals
        (try clear c0)
        clear hb1 hbel T1
        go_wp2
        refine ⟨⟨k + 1, by omega, by go_num, by rw [show (1 : Int) + ↑k + 1 = ((1 + (k + 1) : Nat) : Int) by omega], hB1⟩, by simp [intOf]; omega⟩
    · obtain rfl : k = n := by omega
      go_wp2
      go_ret
      exact ⟨rfl, hbel⟩

def SOwn (w : World) (B : Nat) (v : Value) (l : List ByteArray) : Prop := w.ownsRow B 9 1 v l.length (encSt l)
theorem SOwn.mono {w : World} {B B' : Nat} {v : Value} {l : List ByteArray} (h : SOwn w B v l) (hB : B' ≤ B) : SOwn w B' v l := own_mono h hB
def SMk (w : World) (v : Value) (n : Nat) : Prop := (n = 0 ∧ ∃ a cap, v = .slice a 0 cap) ∨ ∃ g cap, v = .slice (some ⟨g, 0, none⟩) n cap ∧ n ≤ cap ∧ cap ≤ maxLen ∧ g < w.heap.size ∧ CLs w g (mkAll ksSt n)
theorem SMk.later {w w1 : World} {v : Value} {n : Nat} (h : SMk w v n) (hb : Below w.heap.size w w1) : SMk w1 v n :=
  h.imp id (fun ⟨g, cap, e, h1, h2, h3, h4⟩ => ⟨g, cap, e, h1, h2, Nat.lt_of_lt_of_le h3 hb.size, h4.later hb h3⟩)

set_option maxHeartbeats 400000 in
theorem eqStringS_zero (a b : Option Addr) (ca cb : Nat) (w : World) :
    Calls Tryd.prog 11 #[.slice a 0 ca, .slice b 0 cb] w fun e w' => e = .returned (.bool true) ∧ w' = w := by
  go_enter Tryd.func11, Tryd.ntmps11
  go_wp2
  go_loop [5] (fun i => i = .int .i64 0) (fun _ => 0)
  case atStart => rfl
  case round =>
    subst hrel
    go_wp2
    go_ret
    exact ⟨rfl, rfl⟩

set_option maxHeartbeats 400000 in
theorem markStringS_zero (a : Option Addr) (ca : Nat) (w : World) :
    Calls Tryd.prog 12 #[.slice a 0 ca, .int .i64 1] w fun e w' => e = .returned (.int .i64 1) ∧ w' = w := by
  go_enter Tryd.func12, Tryd.ntmps12
  go_wp2
  go_loop [1, 5] (fun k i => k = .int .i64 1 ∧ i = .int .i64 0) (fun _ _ => 0)
  case atStart => exact ⟨rfl, rfl⟩
  case round =>
    obtain ⟨rfl, rfl⟩ := hrel
    go_wp2
    go_ret
    exact ⟨rfl, rfl⟩

set_option maxHeartbeats 400000 in
theorem heldStringS_zero (a : Option Addr) (ca : Nat) (w : World) :
    Calls Tryd.prog 13 #[.slice a 0 ca, .int .i64 1] w fun e w' => e = .returned (.int .i64 1) ∧ w' = w := by
  go_enter Tryd.func13, Tryd.ntmps13
  go_wp2
  go_loop [1, 5] (fun k i => k = .int .i64 1 ∧ i = .int .i64 0) (fun _ _ => 0)
  case atStart => exact ⟨rfl, rfl⟩
  case round =>
    obtain ⟨rfl, rfl⟩ := hrel
    go_wp2
    go_ret
    exact ⟨rfl, rfl⟩

theorem eqS_own {w : World} {Ba Bb : Nat} {va vb : Value} {l : List ByteArray} (ha : SOwn w Ba va l) (hb : SOwn w Bb vb l) (hm : l.length ≤ 10000000) :
    Calls Tryd.prog 11 #[va, vb] w fun e w' => e = .returned (.bool true) ∧ Below w.heap.size w w' := by
  unfold SOwn at ha hb
  by_cases h0 : l = []
  · subst h0
    obtain ⟨a, ca, rfl, -, -⟩ := own_shp ha
    obtain ⟨b, cb, rfl, -, -⟩ := own_shp hb
    refine (eqStringS_zero a b ca cb w).mono ?_
    rintro e w' ⟨rfl, rfl⟩
    exact ⟨rfl, Below.refl _ _⟩
  · have hp := List.length_pos_iff.2 h0
    obtain ⟨ga, ca, rfl, a1, a2, -, a3, a4, -⟩ := own_cat ha hp
    obtain ⟨gb, cb, rfl, b1, b2, -, b3, b4, -⟩ := own_cat hb hp
    exact eqStringS_at ga gb ca cb l w hm ⟨a1, a2⟩ ⟨b1, b2⟩ a4 b4 a3 b3

theorem markS_own {w : World} {B : Nat} {v : Value} {l : List ByteArray} (h : SOwn w B v l) (hm : l.length ≤ 10000000) :
    Calls Tryd.prog 12 #[v, .int .i64 1] w fun e w' => e = .returned (.int .i64 (1 + l.length : Nat)) ∧ w.grownBy w' v.ownBlock ∧ SMk w' v l.length := by
  unfold SOwn at h
  by_cases h0 : l = []
  · subst h0
    obtain ⟨a, ca, rfl, -, -⟩ := own_shp h
    refine (markStringS_zero a ca w).mono ?_
    rintro e w' ⟨rfl, rfl⟩
    exact ⟨rfl, grown_self _ _, .inl ⟨rfl, a, ca, rfl⟩⟩
  · obtain ⟨ga, ca, rfl, a1, a2, -, a3, a4, a5⟩ := own_cat h (List.length_pos_iff.2 h0)
    refine (markStringS_at ga ca l.length w hm ⟨a1, a2⟩ a3 (by rw [← encSt_len]; exact a5)).mono ?_
    rintro e w' ⟨rfl, hg, hi⟩
    exact ⟨rfl, hg, .inr ⟨ga, ca, rfl, a1, a2, Nat.lt_of_lt_of_le a3 hg.size, hi⟩⟩

theorem heldS_own {w : World} {v : Value} {n : Nat} (h : SMk w v n) (hm : n ≤ 10000000) :
    Calls Tryd.prog 13 #[v, .int .i64 1] w fun e w' => e = .returned (.int .i64 (1 + n : Nat)) ∧ Below w.heap.size w w' := by
  rcases h with ⟨rfl, a, ca, rfl⟩ | ⟨g, cap, rfl, h1, h2, h3, h4⟩
  · refine (heldStringS_zero a ca w).mono ?_
    rintro e w' ⟨rfl, rfl⟩
    exact ⟨rfl, Below.refl _ _⟩
  · exact heldStringS_at g cap n w hm ⟨h1, h2⟩ h3 h4
end Go.Proofs.YtgacajnljplmiaaDoor
