/- The program's rows of pieces: joined in a row, joined evenly. -/
import Derived.Test.YtpdngncioblibacDoorRop4
import Derived.Deep.RegionHeld3
set_option linter.unusedVariables false
namespace Go.Proofs.YtpdngncioblibacDoor
open Go.RowKit
open Doc1

/-- Texts in a row of cells, from a place on. -/
def StAt (w : World) (g off : Nat) (l : List ByteArray) : Prop := ∀ i (h : i < l.length), w.cell? ⟨g, off + i, none⟩ = some (.string l[i])
theorem StAt.later {w w1 : World} {B g off : Nat} {l : List ByteArray} (h : StAt w g off l) (hb : Below B w w1) (hg : g < B) : StAt w1 g off l := fun i hi => (World.cell?_of_block (hb.block g hg)).trans (h i hi)
theorem StAt.take {w : World} {g off : Nat} {l : List ByteArray} (h : StAt w g off l) (n : Nat) : StAt w g off (l.take n) := fun i hi => by
  rw [List.length_take] at hi
  rw [h i (by omega), List.getElem_take]
theorem StAt.drop {w : World} {g off : Nat} {l : List ByteArray} (h : StAt w g off l) (n : Nat) : StAt w g (off + n) (l.drop n) := fun i hi => by
  rw [List.length_drop] at hi
  rw [Nat.add_assoc, h (n + i) (by omega), List.getElem_drop]
def tot (l : List ByteArray) : Nat := (l.map ByteArray.size).sum
theorem tot_app (a b : List ByteArray) : tot (a ++ b) = tot a + tot b := by simp [tot]
theorem tot_take_drop (l : List ByteArray) (n : Nat) : tot (l.take n) + tot (l.drop n) = tot l := by rw [← tot_app, List.take_append_drop]
theorem tot_at {l : List ByteArray} {k : Nat} (h : k < l.length) : l[k].size ≤ tot l := by
  have := tot_take_drop l k
  rw [List.drop_eq_getElem_cons h] at this
  have e : tot (l[k] :: l.drop (k + 1)) = l[k].size + tot (l.drop (k + 1)) := by unfold tot; rw [List.map_cons, List.sum_cons]
  omega
theorem szO_evn (l : List ByteArray) : szO (evn l) = tot l := by rw [szO_pc, evn_pc _ l rfl]; rfl
theorem szO_row (l : List ByteArray) : szO (inRow l) = tot l := by rw [szO_pc, inRow_pc]; rfl
theorem nbO_evn (l : List ByteArray) : nbO (evn l) = 2 * l.length - 1 := by rw [nbO_pc, evn_pc _ l rfl]
theorem nbO_row (l : List ByteArray) : nbO (inRow l) = 2 * l.length - 1 := by rw [nbO_pc, inRow_pc]

theorem cut_low (g off n cap k : Nat) (h : k ≤ cap) (w : World) : (Instr.slice 46 (.slice (some ⟨g, off, none⟩) n cap) none (some (.int .i64 (k : Int))) none).run Tryd.prog w = .ok (.slice (some ⟨g, off, none⟩) k cap) w := by
  simp [go_sem, Tryd.underlying46, h]
theorem cut_high (g off n cap k : Nat) (h : k ≤ n) (h2 : k < cap) (w : World) : (Instr.slice 46 (.slice (some ⟨g, off, none⟩) n cap) (some (.int .i64 (k : Int))) none none).run Tryd.prog w = .ok (.slice (some ⟨g, off + k, none⟩) (n - k) (cap - k)) w := by
  have : ¬ cap = k := by omega
  simp [go_sem, Tryd.underlying46, h, this]

end Go.Proofs.YtpdngncioblibacDoor
