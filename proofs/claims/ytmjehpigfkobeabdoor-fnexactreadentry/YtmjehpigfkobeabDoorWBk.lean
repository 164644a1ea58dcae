/- A block that is written. -/
import Derived.Test.YtmjehpigfkobeabDoorNodes1
import Derived.Test.YtmjehpigfkobeabDoorCells
namespace Go.Proofs.YtmjehpigfkobeabDoor
open Go.RowKit
open Doc1

/-- A block that is written, all else as it was. -/
structure WB (w : World) (g n : Nat) (wr : World) : Prop where
  blk : Blk wr g n
  grown : w.grownBy wr (some g)
  lt : g < w.heap.size
theorem WB.below {w wr w1 : World} {g n : Nat} (h : WB w g n wr) (hb : Below wr.heap.size wr w1) : WB w g n w1 := by
  have hg : g < wr.heap.size := Nat.lt_of_lt_of_le h.lt h.grown.size
  exact ⟨h.blk.later hb hg, grown_below h.grown hb, h.lt⟩
theorem WB.put {w wr : World} {g n : Nat} (h : WB w g n wr) (c : Nat) (v : Value) : WB w g n (wr.setCell ⟨g, c, none⟩ v) := ⟨h.blk.set c _, grown_set h.grown c _, h.lt⟩
theorem wb_start {w : World} {g n : Nat} (hb : Blk w g n) (hg : g < w.heap.size) : WB w g n w := ⟨hb, ⟨rfl, rfl, rfl, Nat.le_refl _, fun _ _ _ => rfl⟩, hg⟩
end Go.Proofs.YtmjehpigfkobeabDoor
