/- The program's limbs that are split. -/
import Derived.Test.YtpdngncioblibacDoorRop7
set_option linter.unusedVariables false
namespace Go.Proofs.YtpdngncioblibacDoor
open Go.RowKit
open Doc1

def SpPost (t : Lm) (n : Nat) (w : World) (e : Ending) (w' : World) : Prop := e = .returned (.tuple #[lvO (spl t n).1, lvO (spl t n).2]) ∧ Below w.heap.size w w'

theorem spl_sz (t : Lm) : ∀ n, n ≤ t.sz → szO (spl t n).1 = n ∧ szO (spl t n).2 = t.sz - n := by
  induction t with
  | pc s =>
    intro n hn
    simp only [Lm.sz] at hn ⊢
    simp only [spl]
    split
    · subst n; exact ⟨rfl, rfl⟩
    · split
      · subst n; exact ⟨rfl, (Nat.sub_self _).symm⟩
      · simp only [szO, Lm.sz, ByteArray.size_extract]; omega
  | jn a b iha ihb =>
    intro n hn
    simp only [Lm.sz] at hn ⊢
    simp only [spl]
    split
    · subst n; exact ⟨rfl, rfl⟩
    · split
      · subst n; exact ⟨rfl, (Nat.sub_self _).symm⟩
      · split
        · rename_i h1 h2 h3
          have := iha n h3
          refine ⟨this.1, ?_⟩
          show szO (jo (spl a n).2 (some b)) = _
          rw [jo_sz, this.2]
          simp only [szO]; omega
        · rename_i h1 h2 h3
          have := ihb (n - a.sz) (by omega)
          refine ⟨?_, ?_⟩
          · show szO (jo (some a) (spl b (n - a.sz)).1) = _
            rw [jo_sz, this.1]
            simp only [szO]; omega
          · show szO (spl b (n - a.sz)).2 = _
            rw [this.2]; omega

end Go.Proofs.YtpdngncioblibacDoor
