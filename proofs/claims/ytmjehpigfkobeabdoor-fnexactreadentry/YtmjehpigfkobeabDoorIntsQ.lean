/- The contracts of the laws' own helpers over rows of ints: held against one another, marked, and whether marks are held. The contract of the laws' own copying of a row of ints. -/
import Derived.Test.YtmjehpigfkobeabDoorWalksQ
import Derived.Test.YtmjehpigfkobeabDoorRowsG
import Derived.Deep.QuietTactic
import Derived.BigQuiet
import Derived.Laws.MakeOwn
namespace Go.Proofs.YtmjehpigfkobeabDoor
open Go.RowKit
open Doc1

/-- A row of ints lies in a block. -/
def IAt (w : World) (g : Nat) (l : List Int) : Prop := ∀ i (h : i < l.length), w.cell? ⟨g, i, none⟩ = some (.int .i64 l[i])
theorem IAt.later {w w1 : World} {B g : Nat} {l : List Int} (h : IAt w g l) (hb : Below B w w1) (hg : g < B) : IAt w1 g l := fun i hi => (World.cell?_of_block (hb.block g hg)).trans (h i hi)
theorem IAt.grown {w w1 : World} {g b : Nat} {l : List Int} (h : IAt w g l) (hg : w.grownBy w1 (some b)) (hl : g < w.heap.size) (hne : g ≠ b) : IAt w1 g l := fun i hi => (World.cell?_of_block (hg.block g hl (by simpa using hne))).trans (h i hi)
structure IBlk (w : World) (g n : Nat) : Prop where
  ex : ∀ j, j < n → ∃ v, w.cell? ⟨g, j, none⟩ = some v
  fz : ∀ j, w.frozen? ⟨g, j, none⟩ = false
theorem IBlk.later {w w1 : World} {B g n : Nat} (h : IBlk w g n) (hb : Below B w w1) (hg : g < B) : IBlk w1 g n where
  ex := fun j hj => by rw [World.cell?_of_block (hb.block g hg)]; exact h.ex j hj
  fz := fun j => by rw [World.frozen?_of_block (hb.block g hg)]; exact h.fz j
theorem ints_shape {w : World} {B : Nat} {v : Value} {l : List Int} (h : w.ownsRow B 3 1 v l.length (ints l)) (hl : l ≠ []) :
    ∃ g cap, v = .slice (some ⟨g, 0, none⟩) l.length cap ∧ l.length ≤ cap ∧ cap ≤ maxLen ∧ B ≤ g ∧ g < w.heap.size ∧ IAt w g l ∧ IBlk w g l.length := by
  have hn : 0 < l.length := List.length_pos_iff.2 hl
  obtain ⟨g, cap, hv, h1, h2, h3, h4, h5⟩ := own_open h hn
  refine ⟨g, cap, hv, h1, h2, h3, h4, fun i hi => h5 i _ (by simp [ints, hi]), fun j hj => ⟨_, h5 j _ (by simp [ints, hj]; rfl)⟩, fun j => ?_⟩
  rcases h.2 with ⟨_, h0⟩ | ⟨g', cap', cur, hv', hb, hh, _⟩
  · omega
  · rw [hv] at hv'; cases hv'
    unfold World.frozen?
    simp [hh]

/-- The marks of so many ints. -/
def mki (n : Nat) : List Int := (List.range n).map fun i => ((1 + i : Nat) : Int)
theorem mki_len (n : Nat) : (mki n).length = n := by simp [mki]
theorem mki_at (n i : Nat) (h : i < (mki n).length) : (mki n)[i] = ((1 + i : Nat) : Int) := by simp [mki]
structure IMAt (w : World) (g n k : Nat) (wr : World) : Prop where
  blk : IBlk wr g n
  grown : w.grownBy wr (some g)
  c : ∀ i, i < k → wr.cell? ⟨g, i, none⟩ = some (.int .i64 ((1 + i : Nat) : Int))
theorem IMAt.step {w wr : World} {g n k : Nat} (h : IMAt w g n k wr) (hk : k < n) : IMAt w g n (k + 1) (wr.setCell ⟨g, k, none⟩ (.int .i64 ((1 + k : Nat) : Int))) where
  blk := ⟨fun i hi => by
    obtain ⟨x, hx⟩ := h.blk.ex i hi
    by_cases e : i = k
    · subst e; exact ⟨_, World.cell?_setCell_same _ _ _ hx⟩
    · exact ⟨x, by rw [World.cell?_setCell_other _ _ _ _ (off_neP (Ne.symm e))]; exact hx⟩, fun i => by rw [World.frozen?_setCell]; exact h.blk.fz i⟩
  grown := h.grown.trans ⟨rfl, rfl, rfl, by simp [World.setCell], fun k _ hne => Below.heap_setCell _ _ _ _ (by intro e; subst e; exact hne rfl)⟩
  c := fun i hi => by
    by_cases e : i = k
    · subst e; obtain ⟨x, hx⟩ := h.blk.ex i hk; exact World.cell?_setCell_same _ _ _ hx
    · rw [World.cell?_setCell_other _ _ _ _ (off_neP (Ne.symm e))]; exact h.c i (by omega)

end Go.Proofs.YtmjehpigfkobeabDoor

namespace Go.Proofs.YtmjehpigfkobeabDoor
open Go.RowKit
open Doc1

/-- A slice of ints as it came in. -/
inductive ArgI (W : World) : Value → List Int → Prop
  | nil (a : Option Addr) (cap : Nat) : ArgI W (.slice a 0 cap) []
  | row (b off cap : Nat) (p : List Int) (hb : b < W.heap.size) (hn : 0 < p.length) (hle : p.length ≤ cap) (hm : cap ≤ maxLen) (hc : ∀ j (h : j < p.length), W.cell? ⟨b, off + j, none⟩ = some (.int .i64 p[j])) : ArgI W (.slice (some ⟨b, off, none⟩) p.length cap) p
theorem ArgI.later {W W1 : World} {v : Value} {p : List Int} (h : ArgI W v p) (hb : Below W.heap.size W W1) : ArgI W1 v p := by
  cases h with
  | nil a cap => exact .nil a cap
  | row b off cap p h1 h2 h3 h4 h5 => exact .row b off cap p (Nat.lt_of_lt_of_le h1 hb.size) h2 h3 h4 (fun j hj => (World.cell?_of_block (hb.block b h1)).trans (h5 j hj))

end Go.Proofs.YtmjehpigfkobeabDoor
