/- The contract of the layout's write. -/
import Derived.Test.YtafhpnkedjbcdaaDoorLyW3
import Derived.Great.Walk
namespace Go.Proofs.YtafhpnkedjbcdaaDoor
open Go.RowKit
open Doc1

/-- A number is put behind a row of numbers. -/
theorem ly_app {B g j : Nat} {V : Nat → Value} {z z' : LS} {w w2 : World} {l : List Nat} {x : Nat} {gg cap : Nat} {o : Obj} (h : Ly B g V z w) (hj : j < 4) (hj0 : j ≠ 0) (_hl : Xz z j = ints (natI l)) (hl' : Xz z' j = ints (natI (l ++ [x]))) (hz : ∀ i, i < 4 → i ≠ j → Xz z' i = Xz z i)
    (hown1 : w2.ownsRow B 3 1 (.slice (some ⟨gg, 0, none⟩) (l.length + 1) cap) (l.length + 1) (ints (natI l) ++ [.int .i64 (x : Int)])) (hgrow : (w.alloc o).drew.grownBy w2 (V j).ownBlock) (hat : (V j).ownBlock = some gg ∨ gg = w.heap.size + 1) (hle : B ≤ w.heap.size) :
    Ly B g (upd V j (.slice (some ⟨gg, 0, none⟩) (l.length + 1) cap)) z' (w2.setCell ⟨g, j, none⟩ (.slice (some ⟨gg, 0, none⟩) (l.length + 1) cap)) ∧ Below B w (w2.setCell ⟨g, j, none⟩ (.slice (some ⟨gg, 0, none⟩) (l.length + 1) cap)) := by
  have hE : Et j = 3 := by unfold Et; rw [if_neg hj0]
  have hblk : ∀ k, k < w.heap.size → some k ≠ (V j).ownBlock → w2.heap[k]? = w.heap[k]? := fun k hk hne => (hgrow.block k (by show k < (w.alloc o).heap.size; simp; omega) hne).trans (Below.heap_alloc w o k hk)
  have e : ints (natI (l ++ [x])) = ints (natI l) ++ [.int .i64 (x : Int)] := by simp [ints, natI]
  have hB2 : Below B w w2 := (((Below.refl _ _).alloc hle o).drew).grown hgrow (by show B ≤ (w.alloc o).heap.size; simp; omega) (fun k hk => ((h.own j hj).lt k hk).1)
  refine ⟨h.put j hj _ hblk ?_ hz ?_, hB2.setCell h.le _⟩
  · rw [hl', hE, ints_len, List.length_append, e]; exact hown1
  · rcases hat with e | e
    · exact Or.inl (by rw [e]; rfl)
    · exact Or.inr (fun y hy => by simp only [Value.ownBlock, Option.some.injEq] at hy; omega)
end Go.Proofs.YtafhpnkedjbcdaaDoor
