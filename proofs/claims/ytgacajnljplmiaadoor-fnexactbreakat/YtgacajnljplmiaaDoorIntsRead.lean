/- From the reading of a slice of ints to what the laws' copying asks of it. -/
import Derived.Test.YtgacajnljplmiaaDoorIntsQ
import Derived.ProofKit
import Derived.OpenShut
import Derived.SizedLaws
namespace Go.Proofs.YtgacajnljplmiaaDoor
open Go.ChangeShapes Go.WideShapes Go.ChangeAt Go.RowKit Go.WideElems

theorem cellsI64 : Tryd.prog.cellsOf 3 = 1 := by kernel_rfl
set_option maxRecDepth 100000 in
theorem ints_of_read {H : Type} {enc : TypeId × Value → H} {W : World} {base : Nat} {v : Value} {d : DataW H} {p : List MemPlace} (hval : Value.okWide Tryd.prog W .any base 33 v)
    (h : DataW.Trod enc Tryd.prog W 0 (fun _ => true) true 33 v d p) : ∃ l : List Int, ArgI W v l ∧ ∀ j (hj : j < l.length), -9223372036854775808 ≤ l[j] ∧ l[j] ≤ 9223372036854775807 := by
  obtain ⟨a0, len0, cap0, rfl⟩ := okWide_slice Tryd.underlying33 hval
  obtain ⟨fuel, hf⟩ := h
  rcases open_ints Tryd.underlying33 Tryd.underlying3 cellsI64 hf with ⟨hcs, hx⟩ | ⟨a, len, cap, zs, hcs, _, hl, hm, hz, hx, hcell, hwz⟩
  · simp [Value.cells] at hcs
    obtain ⟨rfl, rfl, rfl⟩ := hcs
    exact ⟨[], .nil _ _, fun j hj => by simp at hj⟩
  · simp [Value.cells] at hcs
    obtain ⟨rfl, rfl, rfl⟩ := hcs
    simp only [if_true] at hz
    by_cases h0 : len0 = 0
    · subst h0; exact ⟨[], .nil _ _, fun j hj => by simp at hj⟩
    · obtain ⟨b, off, rfl, hc⟩ := ints_at hcell (by omega)
      have hb : b < W.heap.size := World.block_lt_of_cell? W _ (hc 0 (by omega))
      have hlen : (zs.take len0).length = len0 := by simp; omega
      refine ⟨zs.take len0, ?_, fun j hj => ?_⟩
      · have := ArgI.row (W := W) b off cap0 (zs.take len0) hb (by omega) (by omega) hm (fun j hj => by
          have := hc j (by omega)
          rw [this, List.getElem_take, List.getD_eq_getElem?_getD, List.getElem?_eq_getElem (by omega)]
          rfl)
        rw [hlen] at this
        exact this
      · have hr := range_i64 hwz j
        rw [List.getElem?_eq_getElem (by omega)] at hr
        rw [List.getElem_take]
        exact hr
end Go.Proofs.YtgacajnljplmiaaDoor
