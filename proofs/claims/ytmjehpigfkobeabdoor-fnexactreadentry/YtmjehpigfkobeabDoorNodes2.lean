/- The contracts of the laws' own measuring and copying of a row of nodes that came in. -/
import Derived.Test.YtmjehpigfkobeabDoorNodes1
import Derived.Test.YtmjehpigfkobeabDoorIntsQ
namespace Go.Proofs.YtmjehpigfkobeabDoor
open Go.RowKit
open Doc1

/-- A slice of nodes as it came in. -/
inductive ArgN (W : World) : Value → List Nd → Prop
  | nil (a : Option Addr) (cap : Nat) : ArgN W (.slice a 0 cap) []
  | row (b off cap : Nat) (l : List Nd) (hb : b < W.heap.size) (hn : 0 < l.length) (hle : l.length ≤ cap) (hm : cap ≤ maxLen) (hc : ∀ i (h : i < l.length), W.cell? ⟨b, off + i * 3, none⟩ = some (.string l[i].name) ∧ W.cell? ⟨b, off + i * 3 + 1, none⟩ = some (.string l[i].text) ∧ W.cell? ⟨b, off + i * 3 + 2, none⟩ = some (.int .i64 l[i].up)) :
      ArgN W (.slice (some ⟨b, off, none⟩) l.length cap) l
theorem ArgN.later {W W1 : World} {v : Value} {l : List Nd} (h : ArgN W v l) (hb : Below W.heap.size W W1) : ArgN W1 v l := by
  cases h with
  | nil a cap => exact .nil a cap
  | row b off cap p h1 h2 h3 h4 h5 => exact .row b off cap _ (Nat.lt_of_lt_of_le h1 hb.size) h2 h3 h4 (fun i hi => by
      have := h5 i hi
      exact ⟨(World.cell?_of_block (hb.block b h1)).trans this.1, (World.cell?_of_block (hb.block b h1)).trans this.2.1, (World.cell?_of_block (hb.block b h1)).trans this.2.2⟩)
/-- What the first nodes have of letters. -/
def szU (l : List Nd) : Nat → Nat
  | 0 => 0
  | i + 1 => szU l i + ((ndAt' l i).name.size + (ndAt' l i).text.size)
where ndAt' (l : List Nd) (i : Nat) : Nd := l.getD i ⟨ba [], ba [], -1⟩
theorem szU_succ (l : List Nd) (i : Nat) (h : i < l.length) : szU l (i + 1) = szU l i + (l[i].name.size + l[i].text.size) := by
  show szU l i + ((szU.ndAt' l i).name.size + (szU.ndAt' l i).text.size) = _
  unfold szU.ndAt'
  rw [List.getD_eq_getElem?_getD, List.getElem?_eq_getElem h]; rfl
theorem szU_mono (l : List Nd) : ∀ i j, i ≤ j → szU l i ≤ szU l j
  | i, 0, h => by obtain rfl : i = 0 := by omega
                  exact Nat.le_refl _
  | i, j + 1, h => by
    by_cases e : i = j + 1
    · subst e; exact Nat.le_refl _
    · have := szU_mono l i j (by omega)
      show _ ≤ szU l j + _
      omega

theorem ret_i2 {x y : Int} (h : x = y) : Ending.returned (.int .i64 x) = .returned (.int .i64 y) := by rw [h]

end Go.Proofs.YtmjehpigfkobeabDoor
