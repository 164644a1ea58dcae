/- The laws of GoodOp and SizesOf: whatever the parts, each answers true and turns nothing old. -/
import Derived.Test.YtmjehpigfkobeabDoorOpW36
namespace Go.Proofs.YtmjehpigfkobeabDoor
open Go.RowKit
open Doc1

theorem PCp.pin {w : World} {g : Nat} {l : List Pt} (h : PCp w g l) (hf : szPn l ≤ 1048576) : Pin w (some ⟨g, 0, none⟩) g l.length l := by
  unfold szPn at hf
  refine ⟨⟨Nat.le_refl _, by unfold maxLen; omega⟩, fun i hi => ?_, by omega, h.at', h.lt, fun _ => rfl⟩
  have h1 := szPU_succ l i hi
  have h2 := szPU_mono l (i + 1) l.length hi
  omega

theorem goodOp_both (l : List Pt) (hf : szPn l ≤ 1048576) (_hr : ∀ i (hi : i < l.length), (l[i].put.size ≤ 9223372036854775807 ∧ l[i].drop.size ≤ 9223372036854775807) ∧ -9223372036854775808 ≤ l[i].keep ∧ l[i].keep ≤ 9223372036854775807) :
    ∃ (b : Bool), (∀ (w : World) (g : Nat), PCp w g l → Calls Tryd.prog 54 #[.slice (some ⟨g, 0, none⟩) l.length l.length] w fun e w' => e = .returned (.bool b) ∧ Below w.heap.size w w') ∧
      (∀ (w : World) (g : Nat), Tab w → PCp w g l → Calls Tryd.prog 59 #[.slice (some ⟨g, 0, none⟩) l.length l.length] w fun e w' => e = .returned (.bool b) ∧ Below w.heap.size w w') :=
  ⟨goodO l, fun _ _ h => goodOpS (h.pin hf), fun _ _ hT h => goodOpI (h.pin hf) hT⟩

end Go.Proofs.YtmjehpigfkobeabDoor
