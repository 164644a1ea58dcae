/- The contract of the laws' own copying of a row of ints. -/
import Derived.Test.YtafhpnkedjbcdayInts1
import Derived.Laws.MakeOwn
namespace Go.Proofs.Ytafhpnkedjbcday
open Go.RowKit
open Doc1

/-- A slice of ints as it came in. -/
inductive ArgI (W : World) : Value → List Int → Prop
  | nil (a : Option Addr) (cap : Nat) : ArgI W (.slice a 0 cap) []
  | row (b off cap : Nat) (p : List Int) (hb : b < W.heap.size) (hn : 0 < p.length) (hle : p.length ≤ cap) (hm : cap ≤ maxLen) (hc : ∀ j (h : j < p.length), W.cell? ⟨b, off + j, none⟩ = some (.int .i64 p[j])) : ArgI W (.slice (some ⟨b, off, none⟩) p.length cap) p
theorem ArgI.later {W W1 : World} {v : Value} {p : List Int} (h : ArgI W v p) (hb : Below W.heap.size W W1) : ArgI W1 v p := by
  cases h with
  | nil a cap => exact .nil a cap
  | row b off cap p h1 h2 h3 h4 h5 => exact .row b off cap p (Nat.lt_of_lt_of_le h1 hb.size) h2 h3 h4 (fun j hj => (World.cell?_of_block (hb.block b h1)).trans (h5 j hj))

theorem make_ints (n : Nat) (hn : n ≤ 2000000) : ∃ C : Array Value, C.size = n ∧ ∀ w : World, (Instr.makeSlice 44 (.int .i64 (n : Int)) (.int .i64 (n : Int))).run Try.prog w = .ok (.slice (some ⟨w.heap.size, 0, none⟩) n n) (w.alloc (.cells C 3)) := by
  obtain ⟨i0, hi0, hz0, hz1, hz2⟩ := info_parts Try.info3
  refine ⟨madeCells (Value.int .i64 0).cells (n * i0.size), by rw [size_madeCells, hz1]; omega, fun w => ?_⟩
  have := run_make (P := Try.prog) w 44 3 i0 (.int .i64 0) Try.underlying44 hi0 hz0 .i64 .i64 n n (by omega) (Int.le_refl _) (by rw [hz2]; omega) (by omega)
  simpa only [Int.toNat_natCast] using this
/-- What is known in the rounds of the copying. -/
structure CAt (p : List Int) (w : World) (k : Nat) (wr : World) : Prop where
  blk : IBlk wr w.heap.size p.length
  below : Below w.heap.size w wr
  lt : w.heap.size < wr.heap.size
  c : ∀ i (h : i < p.length), i < k → wr.cell? ⟨w.heap.size, i, none⟩ = some (.int .i64 p[i])
theorem cat_start {p : List Int} {w : World} {C : Array Value} (hC : C.size = p.length) : CAt p w 0 (w.alloc (.cells C 3)) where
  blk := ⟨fun j hj => ⟨C[j]'(by omega), by rw [cell_of_row _ w.heap.size j C 3 (0, 0) (heap_alloc_new w _)]; simp [hC, hj]⟩, fun j => World.frozen?_alloc_new _ _ _ _⟩
  below := (Below.refl _ _).alloc (Nat.le_refl _) _
  lt := by simp
  c := fun i _ hi => by omega
theorem CAt.step {p : List Int} {w wr : World} {k : Nat} (h : CAt p w k wr) (hk : k < p.length) : CAt p w (k + 1) (wr.setCell ⟨w.heap.size, k, none⟩ (.int .i64 p[k])) where
  blk := ⟨fun i hi => by
    obtain ⟨x, hx⟩ := h.blk.ex i hi
    by_cases e : i = k
    · subst e; exact ⟨_, World.cell?_setCell_same _ _ _ hx⟩
    · exact ⟨x, by rw [World.cell?_setCell_other _ _ _ _ (off_neP (Ne.symm e))]; exact hx⟩, fun i => by rw [World.frozen?_setCell]; exact h.blk.fz i⟩
  below := h.below.setCell (Nat.le_refl _) _
  lt := by simpa [World.setCell] using h.lt
  c := fun i hp hi => by
    by_cases e : i = k
    · subst e; obtain ⟨x, hx⟩ := h.blk.ex i hk; exact World.cell?_setCell_same _ _ _ hx
    · rw [World.cell?_setCell_other _ _ _ _ (off_neP (Ne.symm e))]; exact h.c i hp (by omega)

set_option maxHeartbeats 1000000 in
theorem toIntS_any (v : Value) (p : List Int) (w : World) (h : ArgI w v p) (hm : p.length ≤ 2000000) :
    Calls Try.prog 54 #[v] w fun e w' => e = .returned (.slice (some ⟨w.heap.size, 0, none⟩) p.length p.length) ∧ w.heap.size < w'.heap.size ∧ IAt w' w.heap.size p ∧ IBlk w' w.heap.size p.length ∧ Below w.heap.size w w' := by
  cases h with
  | nil a cap =>
    obtain ⟨C, hC, hmk⟩ := make_ints 0 (by omega)
    have S0 := hide (cat_start (p := []) (w := w) (C := C) (by simpa using hC))
    have hmk0 : ∀ w : World, (Instr.makeSlice 44 (.int .i64 0) (.int .i64 0)).run Try.prog w = .ok (.slice (some ⟨w.heap.size, 0, none⟩) 0 0) (w.alloc (.cells C 3)) := hmk
    clear hmk hC
    go_enter Try.func54, Try.ntmps54
    go_wp2
    go_loop [4] (fun i => i = .int .i64 0) (fun _ => 0)
    case atStart => rfl
    case round =>
      subst hrel
      go_wp2
      go_ret
      exact ⟨rfl, S0.out.lt, fun i hi => by simp at hi, S0.out.blk, S0.out.below⟩
  | row b off cap p hb hn hle hmx hc =>
    obtain ⟨C, hC, hmk⟩ := make_ints p.length hm
    have S0 := hide (cat_start (p := p) (w := w) (C := C) hC)
    have Hc := hide hc
    clear hC hc
    go_enter Try.func54, Try.ntmps54
    go_wp2
    clear hmk
    go_loopw [4] (fun i wr => ∃ k : Nat, k ≤ p.length ∧ i = .int .i64 k ∧ CAt p w k wr) (fun i _ => p.length - (intOf i).toNat)
    case atStart => exact ⟨0, by omega, rfl, S0.out⟩
    case round =>
      obtain ⟨k, hk, rfl, hat⟩ := hrel
      by_cases hlt : k < p.length
      · have a0 := (World.cell?_of_block (a := ⟨b, off + k, none⟩) (hat.below.block b hb)).trans (Hc.out k hlt)
        obtain ⟨x, hx⟩ := hat.blk.ex k hlt
        have hf := hat.blk.fz k
        have A := hide (hat.step hlt)
        clear hat
        go_wp2
        refine ⟨⟨k + 1, by omega, by go_num, A.out⟩, by simp [intOf]; omega⟩
      · obtain rfl : k = p.length := by omega
        go_wp2
        go_ret
        exact ⟨rfl, hat.lt, fun i hi => hat.c i hi hi, hat.blk, hat.below⟩
end Go.Proofs.Ytafhpnkedjbcday
