/- General facts on rows that an answer owns. -/
import Derived.Test.YtmjehpigfkobeabDoorRowsG
namespace Go.Proofs.YtmjehpigfkobeabDoor
open Go.RowKit
open Doc1

theorem own_grown {w w1 : World} {row : Option Nat} {B n sz : Nat} {e : TypeId} {v : Value} {xs : List Value} (h : w.ownsRow B e sz v n xs) (hg : w.grownBy w1 row) (hne : ∀ b, v.ownBlock = some b → row ≠ some b) : w1.ownsRow B e sz v n xs :=
  h.kept hg (by
    cases hv : v.ownBlock with
    | none => exact Or.inl rfl
    | some b => exact Or.inr (fun e => hne b hv e.symm))
theorem own_shp {w : World} {B n sz : Nat} {e : TypeId} {v : Value} {xs : List Value} (h : w.ownsRow B e sz v n xs) : ∃ a cap, v = .slice a n cap ∧ n ≤ cap ∧ cap ≤ maxLen := by
  rcases h.2 with ⟨hv, h0⟩ | ⟨g, cap, cur, hv, hb, hh, hle, hm, hs, ht⟩
  · exact ⟨none, 0, by rw [h0, hv], by omega, by unfold maxLen; omega⟩
  · exact ⟨_, cap, hv, hle, hm⟩
theorem grown_self (w : World) (r : Option Nat) : w.grownBy w r := ⟨rfl, rfl, rfl, Nat.le_refl _, fun _ _ _ => rfl⟩
end Go.Proofs.YtmjehpigfkobeabDoor
