/- How much of letters came in, from a number on; the copies' facts. -/
import Derived.Test.YtbmnciejaknonatDoorOwn1
import Derived.Test.YtbmnciejaknonatDoorLyW13
namespace Go.Proofs.YtbmnciejaknonatDoor
open Go.RowKit
open Doc1

def szNn (l : List Nd) : Nat := l.length + szU l l.length
theorem argN_len {w : World} {v : Value} {l : List Nd} (h : ArgN w v l) : l.length ≤ 9223372036854775807 := by
  cases h with
  | nil a cap => simp
  | row b off cap p h1 h2 h3 h4 h5 => unfold maxLen at h4; omega
theorem szN_from {w : World} {v : Value} {l : List Nd} (h : ArgN w v l) (hs : ∀ i (hi : i < l.length), l[i].name.size ≤ 9223372036854775807 ∧ l[i].text.size ≤ 9223372036854775807) (hm : l.length ≤ 9223372036854775807) (left : Nat) (hl : left = 1048576) :
    Calls Tryd.prog 9 #[v, .int .i64 (left : Int)] w fun e w' => e = .returned (.int .i64 (if szNn l ≤ left then ((left - szNn l : Nat) : Int) else -1)) ∧ Below w.heap.size w w' := by
  subst hl
  exact szNodeS_any v l w h hs hm
theorem NCp.nin {w : World} {g : Nat} {l : List Nd} (h : NCp w g l) (hf : szNn l ≤ 1048576) : Nin w g l.length l := ⟨⟨Nat.le_refl _, by unfold szNn at hf; unfold maxLen; omega⟩, hf, h.at', h.lt⟩
end Go.Proofs.YtbmnciejaknonatDoor
