/- The laws of GoodOp and SizesOf: whatever the parts, each answers true and turns nothing old. -/
import Derived.Test.YtojlnnlcbpjdlaaDoorOpW36
namespace Go.Proofs.YtojlnnlcbpjdlaaDoor
open Go.RowKit
open Doc1

theorem PCp.pin {w : World} {g : Nat} {l : List Pt} (h : PCp w g l) (hf : szPn l ≤ 1048576) : Pin w (some ⟨g, 0, none⟩) g l.length l := by
  unfold szPn at hf
  refine ⟨⟨Nat.le_refl _, by unfold maxLen; omega⟩, fun i hi => ?_, by omega, h.at', h.lt, fun _ => rfl⟩
  have h1 := szPU_succ l i hi
  have h2 := szPU_mono l (i + 1) l.length hi
  omega

theorem goodOp_both (l : List Pt) (hf : szPn l ≤ 1048576) (_hr : ∀ i (hi : i < l.length), (l[i].put.size ≤ 9223372036854775807 ∧ l[i].drop.size ≤ 9223372036854775807) ∧ -9223372036854775808 ≤ l[i].keep ∧ l[i].keep ≤ 9223372036854775807) :
    ∃ (b : Bool), (∀ (w : World) (g : Nat), PCp w g l → Calls Tryd.prog 63 #[.slice (some ⟨g, 0, none⟩) l.length l.length] w fun e w' => e = .returned (.bool b) ∧ Below w.heap.size w w') ∧
      (∀ (w : World) (g : Nat), Tab w → PCp w g l → Calls Tryd.prog 68 #[.slice (some ⟨g, 0, none⟩) l.length l.length] w fun e w' => e = .returned (.bool b) ∧ Below w.heap.size w w') :=
  ⟨goodO l, fun _ _ h => goodOpS (h.pin hf), fun _ _ hT h => goodOpI (h.pin hf) hT⟩

theorem sizesOf_both (l : List Pt) (hf : szPn l ≤ 1048576) (_hr : ∀ i (hi : i < l.length), (l[i].put.size ≤ 9223372036854775807 ∧ l[i].drop.size ≤ 9223372036854775807) ∧ -9223372036854775808 ≤ l[i].keep ∧ l[i].keep ≤ 9223372036854775807) :
    ∃ (x y : Int) (b : Bool), (∀ (w : World) (g : Nat), PCp w g l → Calls Tryd.prog 14 #[.slice (some ⟨g, 0, none⟩) l.length l.length] w fun e w' => e = .returned (.tuple #[.int .i64 x, .int .i64 y, .bool b]) ∧ Below w.heap.size w w') ∧
      (∀ (w : World) (g : Nat), Tab w → PCp w g l → Calls Tryd.prog 19 #[.slice (some ⟨g, 0, none⟩) l.length l.length] w fun e w' => e = .returned (.tuple #[.int .i64 x, .int .i64 y, .bool b]) ∧ Below w.heap.size w w') :=
  ⟨szT l, szM l, goodO l, fun _ _ h => sizesS (h.pin hf), fun _ _ hT h => sizesI_any (h.pin hf) hT⟩

end Go.Proofs.YtojlnnlcbpjdlaaDoor
