/- From the reading of a slice of bytes to what the drawing functions ask of it. -/
import Derived.Test.YtkjioadmebkaoaaDoorDrwA
import Derived.ProofKit
import Derived.OpenShut
import Derived.SizedLaws
namespace Go.Proofs.YtkjioadmebkaoaaDoor
open Go.ChangeShapes Go.WideShapes Go.ChangeAt Go.RowKit Go.WideElems

theorem lt_of_cell' {w : World} {a : Addr} {v : Value} (h : w.cell? a = some v) : a.block < w.heap.size := by
  unfold World.cell? at h
  apply Classical.byContradiction
  intro hn
  rw [Array.getElem?_eq_none (by simpa using hn)] at h
  simp at h
theorem cellsU8 : Tryd.prog.cellsOf 5 = 1 := by kernel_rfl
set_option maxRecDepth 100000 in
theorem code_of_read {H : Type} {enc : TypeId × Value → H} {W : World} {base : Nat} {v : Value} {d : DataW H} {p : List MemPlace} (hval : Value.okWide Tryd.prog W .any base 22 v)
    (h : DataW.Trod enc Tryd.prog W 0 (fun _ => true) true 22 v d p) : CodeAt W.heap.size v W := by
  obtain ⟨a0, len0, cap0, rfl⟩ := okWide_slice Tryd.underlying22 hval
  obtain ⟨fuel, hf⟩ := h
  rcases open_ints Tryd.underlying22 Tryd.underlying5 cellsU8 hf with ⟨hcs, hx⟩ | ⟨a, len, cap, zs, hcs, _, hl, hm, hz, hx, hcell, hwz⟩
  · simp [Value.cells] at hcs
    obtain ⟨rfl, rfl, rfl⟩ := hcs
    exact .nil W none 0
  · simp [Value.cells] at hcs
    obtain ⟨rfl, rfl, rfl⟩ := hcs
    simp only [if_true] at hz
    by_cases h0 : len0 = 0
    · subst h0; exact .nil W _ cap0
    · obtain ⟨b, off, rfl, hc⟩ := ints_at hcell (by omega)
      refine .row W b off len0 cap0 ?_ hl (fun j hj => ?_)
      · have h1 := hc 0 (by omega)
        have := lt_of_cell' h1
        exact Nat.ne_of_lt this
      · have hr := range_u8 hwz j
        refine ⟨zs.getD j 0, ?_, ?_, hc j (by omega)⟩
        · rw [List.getD_eq_getElem?_getD]; exact hr.1
        · rw [List.getD_eq_getElem?_getD]; exact hr.2
theorem bytesU8 : Tryd.prog.bytesOf 5 = 1 := by kernel_rfl
theorem len_of_read {H : Type} {enc : TypeId × Value → H} {W : World} {v : Value} {d : DataW H} {p : List MemPlace} {ts : List TypeId} {ds : List (DataW H)} {j : Nat}
    (hsz : (DataW.weightsEach Tryd.prog ts ds).all (· ≤ reachBytes) = true) (ht : ts[j]? = some 22) (hd : ds[j]? = some d)
    (h : DataW.Trod enc Tryd.prog W 0 (fun _ => true) true 22 v d p) : ∀ a len cap, v = .slice a len cap → len ≤ 140737488355328 := by
  intro a0 len0 cap0 hv
  subst hv
  obtain ⟨fuel, hf⟩ := h
  rcases open_ints Tryd.underlying22 Tryd.underlying5 cellsU8 hf with ⟨hcs, hx⟩ | ⟨a, len, cap, zs, hcs, _, hl, hm, hz, hx, hcell, hwz⟩
  · simp [Value.cells] at hcs
    omega
  · simp [Value.cells] at hcs
    obtain ⟨rfl, rfl, rfl⟩ := hcs
    simp only [if_true] at hz
    simp only [Prod.mk.injEq] at hx
    obtain ⟨rfl, _⟩ := hx
    have := sized_slice hsz ht hd Tryd.underlying22
    rw [bytesU8] at this
    have h1 := reachBytes_lt
    have h2 : (lits IntKind.u8 (zs.take len0) : List (DataW H)).length = (zs.take len0).length := by simp [lits]
    rw [h2, List.length_take] at this
    omega

end Go.Proofs.YtkjioadmebkaoaaDoor
