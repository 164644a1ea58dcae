/- The contracts of the laws' own helpers over rows of strings: held against one another, marked. -/
import Derived.Test.YtkjioadmebkaoaaDoorCells
import Derived.Test.YtkjioadmebkaoaaDoorOwnG
import Derived.Test.YtkjioadmebkaoaaDoorNodes2
import Derived.Deep.QuietTactic
import Derived.BigQuiet
import Derived.Deep.RegionWith
namespace Go.Proofs.YtkjioadmebkaoaaDoor
open Go.RowKit
open Doc1

def encSt (l : List ByteArray) : List Value := l.map Value.string
theorem encSt_len (l : List ByteArray) : (encSt l).length = l.length := by simp [encSt]
theorem encSt_app (a b : List ByteArray) : encSt (a ++ b) = encSt a ++ encSt b := by simp [encSt]
theorem CLs.stat {w : World} {g : Nat} {l : List ByteArray} (h : CLs w g (encSt l)) (i : Nat) (hi : i < l.length) : w.cell? ⟨g, i, none⟩ = some (.string l[i]) :=
  h i _ (by simp [encSt, hi])
def ksSt (_ : Nat) : Bool := true

def SOwn (w : World) (B : Nat) (v : Value) (l : List ByteArray) : Prop := w.ownsRow B 9 1 v l.length (encSt l)
theorem SOwn.mono {w : World} {B B' : Nat} {v : Value} {l : List ByteArray} (h : SOwn w B v l) (hB : B' ≤ B) : SOwn w B' v l := own_mono h hB
def SMk (w : World) (v : Value) (n : Nat) : Prop := (n = 0 ∧ ∃ a cap, v = .slice a 0 cap) ∨ ∃ g cap, v = .slice (some ⟨g, 0, none⟩) n cap ∧ n ≤ cap ∧ cap ≤ maxLen ∧ g < w.heap.size ∧ CLs w g (mkAll ksSt n)
theorem SMk.later {w w1 : World} {v : Value} {n : Nat} (h : SMk w v n) (hb : Below w.heap.size w w1) : SMk w1 v n :=
  h.imp id (fun ⟨g, cap, e, h1, h2, h3, h4⟩ => ⟨g, cap, e, h1, h2, Nat.lt_of_lt_of_le h3 hb.size, h4.later hb h3⟩)

end Go.Proofs.YtkjioadmebkaoaaDoor
