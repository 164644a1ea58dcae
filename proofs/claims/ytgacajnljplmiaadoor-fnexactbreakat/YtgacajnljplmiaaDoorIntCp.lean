/- Copies of rows of numbers; rows marked one behind the other. -/
import Derived.Test.YtgacajnljplmiaaDoorRwArg
import Derived.Test.YtgacajnljplmiaaDoorIntsQ
set_option linter.unusedVariables false
namespace Go.Proofs.YtgacajnljplmiaaDoor
open Go.RowKit
open Doc1

theorem argI_shp {w : World} {v : Value} {l : List Int} (h : ArgI w v l) : ∃ a c, v = .slice a l.length c := by
  cases h with
  | nil a cap => exact ⟨a, cap, rfl⟩
  | row b off cap p h1 h2 h3 h4 h5 => exact ⟨_, cap, rfl⟩
theorem argI_len {w : World} {v : Value} {l : List Int} (h : ArgI w v l) : l.length ≤ 9223372036854775807 := by
  cases h with
  | nil a cap => simp
  | row b off cap p h1 h2 h3 h4 h5 => unfold maxLen at h4; omega
/-- A copy of what came in. -/
structure ICp (w : World) (g : Nat) (l : List Int) : Prop where
  at' : IAt w g l
  blk : IBlk w g l.length
  lt : g < w.heap.size
theorem ICp.later {w w1 : World} {g : Nat} {l : List Int} (h : ICp w g l) (hb : Below w.heap.size w w1) : ICp w1 g l := ⟨h.at'.later hb h.lt, h.blk.later hb h.lt, Nat.lt_of_lt_of_le h.lt hb.size⟩
theorem ICp.grown {w w1 : World} {g b : Nat} {l : List Int} (h : ICp w g l) (hg : w.grownBy w1 (some b)) (hne : g = b → False) : ICp w1 g l :=
  ⟨h.at'.grown hg h.lt hne, ⟨fun i hi => by
    obtain ⟨x, hx⟩ := h.blk.ex i hi
    exact ⟨x, (World.cell?_of_block (hg.block g h.lt (by simpa using hne))).trans hx⟩, fun i => by
    have := h.blk.fz i
    unfold World.frozen? at this ⊢
    rw [hg.block g h.lt (by simpa using hne)]
    exact this⟩, Nat.lt_of_lt_of_le h.lt hg.size⟩
theorem StCp.grown {w w1 : World} {g b : Nat} {l : List ByteArray} (h : StCp w g l) (hg : w.grownBy w1 (some b)) (hne : g = b → False) : StCp w1 g l :=
  ⟨fun i u hu => (World.cell?_of_block (hg.block g h.lt (by simpa using hne))).trans (h.at' i u hu), ⟨fun i hi => by
    obtain ⟨x, hx⟩ := h.blk.ex i hi
    exact ⟨x, (World.cell?_of_block (hg.block g h.lt (by simpa using hne))).trans hx⟩, fun i => by
    have := h.blk.fz i
    unfold World.frozen? at this ⊢
    rw [hg.block g h.lt (by simpa using hne)]
    exact this⟩, Nat.lt_of_lt_of_le h.lt hg.size⟩
theorem toI_cp {w : World} {v : Value} {l : List Int} (h : ArgI w v l) (hm : l.length ≤ 2000000) :
    Calls Tryd.prog 21 #[v] w fun e w' => e = .returned (.slice (some ⟨w.heap.size, 0, none⟩) l.length l.length) ∧ ICp w' w.heap.size l ∧ Below w.heap.size w w' := by
  refine (toIntS_any v l w h hm).mono ?_
  rintro e w' ⟨rfl, h1, h2, h3, h4⟩
  exact ⟨rfl, ⟨h2, h3, h1⟩, h4⟩
theorem eqI_cp {w : World} {ga gb : Nat} {l : List Int} (ha : ICp w ga l) (hb : ICp w gb l) (hm : l.length ≤ 2000000) :
    Calls Tryd.prog 23 #[.slice (some ⟨ga, 0, none⟩) l.length l.length, .slice (some ⟨gb, 0, none⟩) l.length l.length] w fun e w' => e = .returned (.bool true) ∧ Below w.heap.size w w' :=
  eqIntS_at ga gb l.length l.length l w (by omega) ⟨Nat.le_refl _, by unfold maxLen; omega⟩ ⟨Nat.le_refl _, by unfold maxLen; omega⟩ ha.at' hb.at' ha.lt hb.lt

/-- What is known in the rounds of the marking. -/
structure IGr (w : World) (g n : Nat) (wr : World) : Prop where
  blk : IBlk wr g n
  gr : w.grownBy wr (some g)
  lt : g < wr.heap.size

set_option maxHeartbeats 1000000 in
theorem markI_from {w : World} {g : Nat} {l : List Int} (h : ICp w g l) (hm : l.length ≤ 2000000) (K : Nat) (h1 : 0 < K) (h2 : K ≤ 1000000000) :
    Calls Tryd.prog 24 #[.slice (some ⟨g, 0, none⟩) l.length l.length, .int .i64 (K : Int)] w fun e w' => e = .returned (.int .i64 (K + l.length : Nat)) ∧ w.grownBy w' (some g) := by
  have S0 : Hid (IGr w g l.length w) := hide ⟨h.blk, grown_self _ _, h.lt⟩
  obtain ⟨n, hn⟩ : ∃ n, n = l.length := ⟨_, rfl⟩
  rw [← hn] at S0 hm ⊢
  clear h hn
  go_enter Tryd.func24, Tryd.ntmps24
  go_wp2
  go_loopw [1, 5] (fun k1 i wr => ∃ k : Nat, k ≤ n ∧ i = .int .i64 k ∧ k1 = .int .i64 (K + k : Nat) ∧ Hid (IGr w g n wr)) (fun _ i _ => n - (intOf i).toNat)
  case atStart => exact ⟨0, by omega, rfl, rfl, S0⟩
  case round =>
    obtain ⟨k, hk, rfl, rfl, R0⟩ := hrel
    by_cases hlt : k < n
    · obtain ⟨x, hx⟩ := R0.out.blk.ex k hlt
      have hf := R0.out.blk.fz k
      have R1 : Hid (IGr w g n (wr.setCell ⟨g, k, none⟩ (.int .i64 ((K : Int) + (k : Int))))) := hide ⟨⟨fun i hi => by
        obtain ⟨y, hy⟩ := R0.out.blk.ex i hi
        by_cases e : i = k
        · subst e; exact ⟨_, World.cell?_setCell_same _ _ _ hy⟩
        · exact ⟨y, by rw [World.cell?_setCell_other _ _ _ _ (off_neP (Ne.symm e))]; exact hy⟩, fun i => by rw [World.frozen?_setCell]; exact R0.out.blk.fz i⟩, R0.out.gr.trans ⟨rfl, rfl, rfl, by simp, fun k' _ hne => Below.heap_setCell _ _ _ _ (by intro e; subst e; exact hne rfl)⟩, by simpa [World.setCell] using R0.out.lt⟩
      go_wp2
      refine ⟨⟨k + 1, by omega, by go_num, by rw [show (K : Int) + ↑k + 1 = ((K + (k + 1) : Nat) : Int) by omega], R1⟩, by simp [intOf]; omega⟩
    · obtain rfl : k = n := by omega
      go_wp2
      go_ret
      exact ⟨rfl, R0.out.gr⟩
theorem markI_on {w : World} {g : Nat} {l : List Int} (h : ICp w g l) (hm : l.length ≤ 2000000) (K : Nat) (hK : 0 < K ∧ K ≤ 500000000) {a : Int} (ha : a = (K : Int)) :
    Calls Tryd.prog 24 #[.slice (some ⟨g, 0, none⟩) l.length l.length, .int .i64 a] w fun e w' => e = .returned (.int .i64 (K + l.length : Nat)) ∧ w.grownBy w' (some g) := by
  subst ha; exact markI_from h hm K hK.1 (by omega)
end Go.Proofs.YtgacajnljplmiaaDoor
