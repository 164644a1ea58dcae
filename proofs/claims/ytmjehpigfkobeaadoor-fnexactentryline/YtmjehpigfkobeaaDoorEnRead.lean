/- From the reading of an entry to what the laws' copying asks of it. -/
import Derived.Test.YtmjehpigfkobeaaDoorHistRead
namespace Go.Proofs.YtmjehpigfkobeaaDoor
open Go.ChangeShapes Go.WideShapes Go.ChangeAt Go.RowKit Go.WideElems

set_option maxRecDepth 100000 in
theorem entry_of_read {H : Type} {enc : TypeId × Value → H} {W : World} {base : Nat} {v : Value} {d : DataW H} {p : List MemPlace} (hval : Value.okWide Tryd.prog W .any base 47 v)
    (h : DataW.Trod enc Tryd.prog W 0 (fun _ => true) true 47 v d p) : ∃ (c s : Int) (vo : Value) (l : List Doc1.Pt), v = .agg #[.int .i64 c, .int .i64 s, vo] ∧ ArgP W vo l ∧ ThinP l := by
  obtain ⟨cs, rfl, hsz⟩ := okWide_struct Tryd.underlying47 hval
  have hC : Tryd.prog.cellsOf 47 = 3 := by kernel_rfl
  obtain ⟨x, y, z, rfl⟩ : ∃ x y z, cs = #[x, y, z] := by
    rw [hC] at hsz
    match cs, hsz with
    | ⟨[x, y, z]⟩, _ => exact ⟨x, y, z, rfl⟩
  obtain ⟨fuel, hf⟩ := h
  obtain ⟨xs, k, hk, hxy, _, hxl, hfs⟩ := DataW.trod_struct Tryd.underlying47 hf
  match xs, hxl with
  | [y0, y1, y2], _ =>
    have g0 := hfs 0 _ rfl
    have g1 := hfs 1 _ rfl
    have g2 := hfs 2 _ rfl
    have cI : Tryd.prog.cellsOf 3 = 1 := by kernel_rfl
    have cC : Tryd.prog.cellsOf 40 = 1 := by kernel_rfl
    simp [Value.cells, cI, cC] at g0 g1 g2
    obtain ⟨s0, e0, _, b0⟩ := DataW.trod_int Tryd.underlying3 g0
    obtain ⟨s1, e1, _, b1⟩ := DataW.trod_int Tryd.underlying3 g1
    simp only [List.cons.injEq, and_true] at e0 e1
    subst e0 e1
    obtain ⟨u, hu1, hu2⟩ := parts_of_trod (d := y2.1) (p := y2.2) g2
    exact ⟨s0, s1, z, u, rfl, hu1, fun i hi => (hu2 i hi).1⟩
end Go.Proofs.YtmjehpigfkobeaaDoor
