/- The laws' helpers over rows of ints that an answer owns, empty or not. -/
import Derived.Test.YtnhooalibadeeaaDoorOwnG
import Derived.Test.YtnhooalibadeeaaDoorIntsQ
namespace Go.Proofs.YtnhooalibadeeaaDoor
open Go.RowKit
open Doc1

/-- A row of ints that an answer owns. -/
def IOwn (w : World) (B : Nat) (v : Value) (l : List Int) : Prop := w.ownsRow B 3 1 v l.length (ints l)
/-- Its marks. -/
def IMk (w : World) (v : Value) (n : Nat) : Prop := (n = 0 ∧ ∃ a cap, v = .slice a 0 cap) ∨ ∃ g cap, v = .slice (some ⟨g, 0, none⟩) n cap ∧ n ≤ cap ∧ cap ≤ maxLen ∧ g < w.heap.size ∧ IAt w g (mki n)
theorem IMk.later {w w1 : World} {v : Value} {n : Nat} (h : IMk w v n) (hb : Below w.heap.size w w1) : IMk w1 v n :=
  h.imp id (fun ⟨g, cap, e, h1, h2, h3, h4⟩ => ⟨g, cap, e, h1, h2, Nat.lt_of_lt_of_le h3 hb.size, h4.later hb h3⟩)

end Go.Proofs.YtnhooalibadeeaaDoor
