/- The program's ByteAt. -/
import Derived.Test.YtpdngncioblibacDoorRopf
set_option linter.unusedVariables false
namespace Go.Proofs.YtpdngncioblibacDoor
open Go.RowKit
open Doc1

theorem own_new (w : World) (e : TypeId) (cs : Array Value) (n size : Nat) (hn : cs.size = n * size) (hl : n ≤ 1000000) : (w.alloc (.cells cs e)).ownsRow w.heap.size e size (.slice (some ⟨w.heap.size, 0, none⟩) n n) n cs.toList :=
  ⟨by rw [Array.length_toList]; exact hn, .inr ⟨w.heap.size, n, cs, rfl, Nat.le_refl _, heap_alloc_new w _, Nat.le_refl _, by unfold maxLen; omega, hn, List.take_of_length_le (by rw [Array.length_toList]; omega)⟩⟩

noncomputable def byOk (l : List Bg) (n : Int) : Bool := rtB l && (decide (0 ≤ n) && decide (n < (szO (rtO l) : Int)))

def batO : Option Lm → Nat → UInt8 × Nat
  | none, _ => (0, 0)
  | some t, n => bat t n

noncomputable def byS (l : List Bg) (n : Int) : ByteArray := if byOk l n then ⟨#[(batO (rtO l) n.toNat).1]⟩ else ⟨#[]⟩

noncomputable def byN (l : List Bg) (n : Int) : Nat := if byOk l n then (batO (rtO l) n.toNat).2 else 0

end Go.Proofs.YtpdngncioblibacDoor
