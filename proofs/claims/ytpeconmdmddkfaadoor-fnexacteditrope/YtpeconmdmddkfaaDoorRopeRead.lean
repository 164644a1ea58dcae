/- From the reading of a rope to what the laws' copying asks of it. -/
import Derived.Test.YtpeconmdmddkfaaDoorRowsBough
import Derived.ProofKit
import Derived.OpenShut
import Derived.SizedLaws
import Derived.Deep.Slices
import Derived.ChangeSame
namespace Go.Proofs.YtpeconmdmddkfaaDoor
open Go.ChangeShapes Go.WideShapes Go.ChangeAt Go.RowKit Go.WideElems

set_option maxRecDepth 100000 in
theorem boughs_of_trod {H : Type} {enc : TypeId × Value → H} {W : World} {v : Value} {d : DataW H} {p : List MemPlace} {fuel : Nat} (hf : DataW.trod enc Tryd.prog W 0 (fun _ => true) true fuel 56 [v] = some (d, p)) : ∃ l : List Doc1.Bg, ArgBo W v l ∧ ∀ i (hi : i < l.length), (l[i].text.size ≤ 9223372036854775807) ∧ -9223372036854775808 ≤ l[i].left ∧ l[i].left ≤ 9223372036854775807 ∧ -9223372036854775808 ≤ l[i].right ∧ l[i].right ≤ 9223372036854775807 ∧ -9223372036854775808 ≤ l[i].size ∧ l[i].size ≤ 9223372036854775807 ∧ -9223372036854775808 ≤ l[i].deep ∧ l[i].deep ≤ 9223372036854775807 := by
  rcases Go.Deep.open_slice Tryd.underlying56 hf with ⟨hcs, hx⟩ | ⟨a, len, cap, m, n, D, Pl, hcs, hb, hl, hm, hmm, hx, heach⟩
  · simp only [List.cons.injEq, and_true] at hcs
    subst hcs
    exact ⟨[], .nil _ _, fun j hj => by simp at hj⟩
  · simp only [List.cons.injEq, and_true] at hcs
    subst hcs
    simp only [if_true] at hmm
    have ce : Tryd.prog.cellsOf 183 = 5 := by kernel_rfl
    by_cases h0 : len = 0
    · subst h0; exact ⟨[], .nil _ _, fun j hj => by simp at hj⟩
    · have each : ∀ i, i < len → ∃ q : Doc1.Bg, (W.cell? (a.add (i * 5)) = some (.int .i64 q.left) ∧ W.cell? (a.add (i * 5 + 1)) = some (.int .i64 q.right) ∧ W.cell? (a.add (i * 5 + 2)) = some (.string q.text) ∧ W.cell? (a.add (i * 5 + 3)) = some (.int .i64 q.size) ∧ W.cell? (a.add (i * 5 + 4)) = some (.int .i64 q.deep)) ∧ (q.text.size ≤ 9223372036854775807) ∧ -9223372036854775808 ≤ q.left ∧ q.left ≤ 9223372036854775807 ∧ -9223372036854775808 ≤ q.right ∧ q.right ≤ 9223372036854775807 ∧ -9223372036854775808 ≤ q.size ∧ q.size ≤ 9223372036854775807 ∧ -9223372036854775808 ≤ q.deep ∧ q.deep ≤ 9223372036854775807 := by
        intro i hi
        obtain ⟨cs', h1, h2⟩ := heach i (by omega)
        rw [ce] at h1
        obtain ⟨_, hlen, hcell⟩ := World.cells?_some h1
        have hu := Tryd.underlying183
        obtain ⟨xs, k, hk, hxy, _, hxl, hfs⟩ := DataW.trod_struct hu h2
        match xs, hxl, cs', hlen with
        | [y0, y1, y2, y3, y4], _, [v0, v1, v2, v3, v4], _ =>
          have g0 := hfs 0 _ rfl
          have g1 := hfs 1 _ rfl
          have g2 := hfs 2 _ rfl
          have g3 := hfs 3 _ rfl
          have g4 := hfs 4 _ rfl
          have cS : Tryd.prog.cellsOf 9 = 1 := by kernel_rfl
          have cI : Tryd.prog.cellsOf 3 = 1 := by kernel_rfl
          simp [cS, cI] at g0 g1 g2 g3 g4
          obtain ⟨s0, e0, _, b0⟩ := DataW.trod_int Tryd.underlying3 g0
          obtain ⟨s1, e1, _, b1⟩ := DataW.trod_int Tryd.underlying3 g1
          obtain ⟨s2, e2, _, b2⟩ := DataW.trod_string Tryd.underlying9 g2
          obtain ⟨s3, e3, _, b3⟩ := DataW.trod_int Tryd.underlying3 g3
          obtain ⟨s4, e4, _, b4⟩ := DataW.trod_int Tryd.underlying3 g4
          have q0 := hcell 0 (by omega)
          have q1 := hcell 1 (by omega)
          have q2 := hcell 2 (by omega)
          have q3 := hcell 3 (by omega)
          have q4 := hcell 4 (by omega)
          rw [Go.Deep.add_add] at q0 q1 q2 q3 q4
          simp only [List.cons.injEq, and_true] at e0 e1 e2 e3 e4
          subst e0 e1 e2 e3 e4
          have hz0 := bounds_i64 b0
          have hz1 := bounds_i64 b1
          have hz3 := bounds_i64 b3
          have hz4 := bounds_i64 b4
          unfold maxLen at b2
          exact ⟨⟨s0, s1, s2, s3, s4⟩, ⟨by simpa using q0, by simpa using q1, by simpa using q2, by simpa using q3, by simpa using q4⟩, b2, by show -9223372036854775808 ≤ s0; omega, by show s0 ≤ 9223372036854775807; omega, by show -9223372036854775808 ≤ s1; omega, by show s1 ≤ 9223372036854775807; omega, by show -9223372036854775808 ≤ s3; omega, by show s3 ≤ 9223372036854775807; omega, by show -9223372036854775808 ≤ s4; omega, by show s4 ≤ 9223372036854775807; omega⟩
      obtain ⟨q, hq⟩ : ∃ q : Nat → Doc1.Bg, ∀ i, i < len → (W.cell? (a.add (i * 5)) = some (.int .i64 (q i).left) ∧ W.cell? (a.add (i * 5 + 1)) = some (.int .i64 (q i).right) ∧ W.cell? (a.add (i * 5 + 2)) = some (.string (q i).text) ∧ W.cell? (a.add (i * 5 + 3)) = some (.int .i64 (q i).size) ∧ W.cell? (a.add (i * 5 + 4)) = some (.int .i64 (q i).deep)) ∧ ((q i).text.size ≤ 9223372036854775807) ∧ -9223372036854775808 ≤ (q i).left ∧ (q i).left ≤ 9223372036854775807 ∧ -9223372036854775808 ≤ (q i).right ∧ (q i).right ≤ 9223372036854775807 ∧ -9223372036854775808 ≤ (q i).size ∧ (q i).size ≤ 9223372036854775807 ∧ -9223372036854775808 ≤ (q i).deep ∧ (q i).deep ≤ 9223372036854775807 :=
        ⟨fun i => if hi : i < len then (each i hi).choose else ⟨0, 0, Doc1.ba [], 0, 0⟩, fun i hi => by simp only [dif_pos hi]; exact (each i hi).choose_spec⟩
      obtain ⟨b, off, spot⟩ := a
      have hspot : spot = none := by
        have := World.cell?_spot (hq 0 (by omega)).1.1
        simpa [Addr.add] using this
      subst hspot
      have hbl : b < W.heap.size := World.block_lt_of_cell? W _ (by have := (hq 0 (by omega)).1.1; rw [Go.WideShapes.add_plain] at this; exact this)
      have hlen : ((List.range len).map q).length = len := by simp
      refine ⟨(List.range len).map q, ?_, fun i hi => ?_⟩
      · have := ArgBo.row (W := W) b off cap ((List.range len).map q) hbl (by omega) (by omega) hm (fun i hi => by
          have hi' : i < len := by omega
          have h3 := (hq i hi').1
          rw [Go.WideShapes.add_plain, Go.WideShapes.add_plain, Go.WideShapes.add_plain, Go.WideShapes.add_plain, Go.WideShapes.add_plain] at h3
          simp only [List.getElem_map, List.getElem_range, Nat.add_assoc]
          exact h3)
        rw [hlen] at this
        exact this
      · have hi' : i < len := by omega
        simp only [List.getElem_map, List.getElem_range]
        exact (hq i hi').2

set_option maxRecDepth 100000 in
theorem rope_of_read {H : Type} {enc : TypeId × Value → H} {W : World} {base : Nat} {v : Value} {d : DataW H} {p : List MemPlace} (hval : Value.okWide Tryd.prog W .any base 58 v)
    (h : DataW.Trod enc Tryd.prog W 0 (fun _ => true) true 58 v d p) : ∃ x, v = .agg #[x] ∧ ∃ l : List Doc1.Bg, ArgBo W x l ∧ ∀ i (hi : i < l.length), l[i].text.size ≤ 9223372036854775807 := by
  obtain ⟨cs, rfl, hsz⟩ := okWide_struct Tryd.underlying58 hval
  have hC : Tryd.prog.cellsOf 58 = 1 := by kernel_rfl
  obtain ⟨x, rfl⟩ : ∃ x, cs = #[x] := by
    rw [hC] at hsz
    match cs, hsz with
    | ⟨[x]⟩, _ => exact ⟨x, rfl⟩
  refine ⟨x, rfl, ?_⟩
  obtain ⟨fuel, hf⟩ := h
  obtain ⟨xs, k, hk, hxy, _, hxl, hfs⟩ := DataW.trod_struct Tryd.underlying58 hf
  match xs, hxl with
  | [y0], _ =>
    have g0 := hfs 0 _ rfl
    have cS : Tryd.prog.cellsOf 56 = 1 := by kernel_rfl
    simp [Value.cells, cS] at g0
    obtain ⟨l, h1, h2⟩ := boughs_of_trod (d := y0.1) (p := y0.2) g0
    exact ⟨l, h1, fun i hi => (h2 i hi).1⟩
end Go.Proofs.YtpeconmdmddkfaaDoor
