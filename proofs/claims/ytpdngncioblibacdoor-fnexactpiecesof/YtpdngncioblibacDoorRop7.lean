/- The program's pieces cut out of a text, read as a text; limbs that are split. -/
import Derived.Test.YtpdngncioblibacDoorRop6
set_option linter.unusedVariables false
namespace Go.Proofs.YtpdngncioblibacDoor
open Go.RowKit
open Doc1

/-- A text cut into pieces. -/
def cutP (s : ByteArray) (i : Nat) : ByteArray := s.extract (8 * i) (min (8 * i + 8) s.size)
def cutN (s : ByteArray) : Nat := (s.size + 7) / 8
def cutL (s : ByteArray) : List ByteArray := (List.range (cutN s)).map (cutP s)
theorem cutL_len (s : ByteArray) : (cutL s).length = cutN s := by simp [cutL]

/-- Texts put together. -/
def catB (l : List ByteArray) : ByteArray := l.foldl (· ++ ·) eT
theorem catB_snoc (l : List ByteArray) (s : ByteArray) : catB (l ++ [s]) = catB l ++ s := by simp [catB]
theorem catB_fold : ∀ (l : List ByteArray) (a : ByteArray), (l.foldl (· ++ ·) a).data.toList = a.data.toList ++ (l.map fun s => s.data.toList).flatten
  | [], a => by simp
  | s :: l, a => by rw [List.foldl_cons, catB_fold l (a ++ s), apdB]; simp
theorem catB_list (l : List ByteArray) : (catB l).data.toList = (l.map fun s => s.data.toList).flatten := by
  unfold catB; rw [catB_fold]; rfl
theorem catB_size (l : List ByteArray) : (catB l).size = tot l := by
  rw [szB, catB_list, List.length_flatten, List.map_map]
  unfold tot
  congr 1
theorem catB_app (l m : List ByteArray) : catB (l ++ m) = catB l ++ catB m := Doc1.ba_eq (by rw [apdB, catB_list, catB_list, catB_list, List.map_append, List.flatten_append])

end Go.Proofs.YtpdngncioblibacDoor
