/- From the reading of a server to what the laws' copying asks of it. -/
import Derived.Test.YtkjioadmebkaoabDoorEntM
import Derived.ProofKit
import Derived.OpenShut
import Derived.SizedLaws
import Derived.Deep.Slices
import Derived.ChangeSame
namespace Go.Proofs.YtkjioadmebkaoabDoor
open Go.ChangeShapes Go.WideShapes Go.ChangeAt Go.RowKit Go.WideElems

set_option maxRecDepth 100000 in
theorem parts_of_trod {H : Type} {enc : TypeId × Value → H} {W : World} {v : Value} {d : DataW H} {p : List MemPlace} {fuel : Nat} (hf : DataW.trod enc Tryd.prog W 0 (fun _ => true) true fuel 22 [v] = some (d, p)) : ∃ l : List Doc1.Pt, ArgP W v l ∧ ∀ i (hi : i < l.length), (l[i].put.size ≤ 9223372036854775807 ∧ l[i].drop.size ≤ 9223372036854775807) ∧ -9223372036854775808 ≤ l[i].keep ∧ l[i].keep ≤ 9223372036854775807 := by
  rcases Go.Deep.open_slice Tryd.underlying22 hf with ⟨hcs, hx⟩ | ⟨a, len, cap, m, n, D, Pl, hcs, hb, hl, hm, hmm, hx, heach⟩
  · simp only [List.cons.injEq, and_true] at hcs
    subst hcs
    exact ⟨[], .nil _ _, fun j hj => by simp at hj⟩
  · simp only [List.cons.injEq, and_true] at hcs
    subst hcs
    simp only [if_true] at hmm
    have ce : Tryd.prog.cellsOf 69 = 3 := by kernel_rfl
    by_cases h0 : len = 0
    · subst h0; exact ⟨[], .nil _ _, fun j hj => by simp at hj⟩
    · have each : ∀ i, i < len → ∃ q : Doc1.Pt, (W.cell? (a.add (i * 3)) = some (.int .i64 q.keep) ∧ W.cell? (a.add (i * 3 + 1)) = some (.string q.put) ∧ W.cell? (a.add (i * 3 + 2)) = some (.string q.drop)) ∧ (q.put.size ≤ 9223372036854775807 ∧ q.drop.size ≤ 9223372036854775807) ∧ -9223372036854775808 ≤ q.keep ∧ q.keep ≤ 9223372036854775807 := by
        intro i hi
        obtain ⟨cs', h1, h2⟩ := heach i (by omega)
        rw [ce] at h1
        obtain ⟨_, hlen, hcell⟩ := World.cells?_some h1
        have hu := Tryd.underlying69
        obtain ⟨xs, k, hk, hxy, _, hxl, hfs⟩ := DataW.trod_struct hu h2
        match xs, hxl, cs', hlen with
        | [y0, y1, y2], _, [v0, v1, v2], _ =>
          have g0 := hfs 0 _ rfl
          have g1 := hfs 1 _ rfl
          have g2 := hfs 2 _ rfl
          have cS : Tryd.prog.cellsOf 9 = 1 := by kernel_rfl
          have cI : Tryd.prog.cellsOf 3 = 1 := by kernel_rfl
          simp [cS, cI] at g0 g1 g2
          obtain ⟨s0, e0, _, b0⟩ := DataW.trod_int Tryd.underlying3 g0
          obtain ⟨s1, e1, _, b1⟩ := DataW.trod_string Tryd.underlying9 g1
          obtain ⟨s2, e2, _, b2⟩ := DataW.trod_string Tryd.underlying9 g2
          have q0 := hcell 0 (by omega)
          have q1 := hcell 1 (by omega)
          have q2 := hcell 2 (by omega)
          rw [Go.Deep.add_add] at q0 q1 q2
          simp only [List.cons.injEq, and_true] at e0 e1 e2
          subst e0 e1 e2
          have hz0 := bounds_i64 b0
          unfold maxLen at b1 b2
          exact ⟨⟨s0, s1, s2⟩, ⟨by simpa using q0, by simpa using q1, by simpa using q2⟩, ⟨b1, b2⟩, by show -9223372036854775808 ≤ s0; omega, by show s0 ≤ 9223372036854775807; omega⟩
      obtain ⟨q, hq⟩ : ∃ q : Nat → Doc1.Pt, ∀ i, i < len → (W.cell? (a.add (i * 3)) = some (.int .i64 (q i).keep) ∧ W.cell? (a.add (i * 3 + 1)) = some (.string (q i).put) ∧ W.cell? (a.add (i * 3 + 2)) = some (.string (q i).drop)) ∧ ((q i).put.size ≤ 9223372036854775807 ∧ (q i).drop.size ≤ 9223372036854775807) ∧ -9223372036854775808 ≤ (q i).keep ∧ (q i).keep ≤ 9223372036854775807 :=
        ⟨fun i => if hi : i < len then (each i hi).choose else ⟨0, Doc1.ba [], Doc1.ba []⟩, fun i hi => by simp only [dif_pos hi]; exact (each i hi).choose_spec⟩
      obtain ⟨b, off, spot⟩ := a
      have hspot : spot = none := by
        have := World.cell?_spot (hq 0 (by omega)).1.1
        simpa [Addr.add] using this
      subst hspot
      have hbl : b < W.heap.size := World.block_lt_of_cell? W _ (by have := (hq 0 (by omega)).1.1; rw [Go.WideShapes.add_plain] at this; exact this)
      have hlen : ((List.range len).map q).length = len := by simp
      refine ⟨(List.range len).map q, ?_, fun i hi => ?_⟩
      · have := ArgP.row (W := W) b off cap ((List.range len).map q) hbl (by omega) (by omega) hm (fun i hi => by
          have hi' : i < len := by omega
          have h3 := (hq i hi').1
          rw [Go.WideShapes.add_plain, Go.WideShapes.add_plain, Go.WideShapes.add_plain] at h3
          simp only [List.getElem_map, List.getElem_range, Nat.add_assoc]
          exact h3)
        rw [hlen] at this
        exact this
      · have hi' : i < len := by omega
        simp only [List.getElem_map, List.getElem_range]
        exact (hq i hi').2

set_option maxRecDepth 100000 in
theorem entries_of_trod {H : Type} {enc : TypeId × Value → H} {W : World} {v : Value} {d : DataW H} {p : List MemPlace} {fuel : Nat} (hf : DataW.trod enc Tryd.prog W 0 (fun _ => true) true fuel 39 [v] = some (d, p)) : ∃ l : List En, ArgE W v l ∧ ∀ i (hi : i < l.length), ThinP l[i].op := by
  rcases Go.Deep.open_slice Tryd.underlying39 hf with ⟨hcs, hx⟩ | ⟨a, len, cap, m, n, D, Pl, hcs, hb, hl, hm, hmm, hx, heach⟩
  · simp only [List.cons.injEq, and_true] at hcs
    subst hcs
    exact ⟨[], .nil _ _, fun j hj => by simp at hj⟩
  · simp only [List.cons.injEq, and_true] at hcs
    subst hcs
    simp only [if_true] at hmm
    have ce : Tryd.prog.cellsOf 58 = 3 := by kernel_rfl
    by_cases h0 : len = 0
    · subst h0; exact ⟨[], .nil _ _, fun j hj => by simp at hj⟩
    · have each : ∀ i, i < len → ∃ q : En, (W.cell? (a.add (i * 3)) = some (.int .i64 q.cl) ∧ W.cell? (a.add (i * 3 + 1)) = some (.int .i64 q.sq) ∧ ∃ v, W.cell? (a.add (i * 3 + 2)) = some v ∧ ArgP W v q.op) ∧ ThinP q.op := by
        intro i hi
        obtain ⟨cs', h1, h2⟩ := heach i (by omega)
        rw [ce] at h1
        obtain ⟨_, hlen, hcell⟩ := World.cells?_some h1
        have hu := Tryd.underlying58
        obtain ⟨xs, k, hk, hxy, _, hxl, hfs⟩ := DataW.trod_struct hu h2
        match xs, hxl, cs', hlen with
        | [y0, y1, y2], _, [v0, v1, v2], _ =>
          have g0 := hfs 0 _ rfl
          have g1 := hfs 1 _ rfl
          have g2 := hfs 2 _ rfl
          have cS : Tryd.prog.cellsOf 22 = 1 := by kernel_rfl
          have cI : Tryd.prog.cellsOf 3 = 1 := by kernel_rfl
          simp [cS, cI] at g0 g1 g2
          obtain ⟨s0, e0, _, b0⟩ := DataW.trod_int Tryd.underlying3 g0
          obtain ⟨s1, e1, _, b1⟩ := DataW.trod_int Tryd.underlying3 g1
          have q0 := hcell 0 (by omega)
          have q1 := hcell 1 (by omega)
          have q2 := hcell 2 (by omega)
          rw [Go.Deep.add_add] at q0 q1 q2
          simp only [List.cons.injEq, and_true] at e0 e1
          subst e0 e1
          obtain ⟨l, hp1, hp2⟩ := parts_of_trod (d := y2.1) (p := y2.2) g2
          exact ⟨⟨s0, s1, l⟩, ⟨by simpa using q0, by simpa using q1, v2, by simpa using q2, hp1⟩, fun j hj => (hp2 j hj).1⟩
      obtain ⟨q, hq⟩ : ∃ q : Nat → En, ∀ i, i < len → (W.cell? (a.add (i * 3)) = some (.int .i64 (q i).cl) ∧ W.cell? (a.add (i * 3 + 1)) = some (.int .i64 (q i).sq) ∧ ∃ v, W.cell? (a.add (i * 3 + 2)) = some v ∧ ArgP W v (q i).op) ∧ ThinP (q i).op :=
        ⟨fun i => if hi : i < len then (each i hi).choose else ⟨0, 0, []⟩, fun i hi => by simp only [dif_pos hi]; exact (each i hi).choose_spec⟩
      obtain ⟨vs, hvs⟩ : ∃ vs : Nat → Value, ∀ i, i < len → W.cell? (a.add (i * 3 + 2)) = some (vs i) ∧ ArgP W (vs i) (q i).op :=
        ⟨fun i => if hi : i < len then (hq i hi).1.2.2.choose else undef, fun i hi => by simp only [dif_pos hi]; exact (hq i hi).1.2.2.choose_spec⟩
      obtain ⟨b, off, spot⟩ := a
      have hspot : spot = none := by
        have := World.cell?_spot (hq 0 (by omega)).1.1
        simpa [Addr.add] using this
      subst hspot
      have hbl : b < W.heap.size := World.block_lt_of_cell? W _ (by have := (hvs 0 (by omega)).1; rw [Go.WideShapes.add_plain] at this; exact this)
      have hlen : ((List.range len).map q).length = len := by simp
      refine ⟨(List.range len).map q, ?_, fun i hi => ?_⟩
      · have := ArgE.row (W := W) b off cap ((List.range len).map q) vs hbl (by omega) (by omega) hm (fun i hi => by
          have hi' : i < len := by omega
          have h3 := (hq i hi').1
          have h4 := hvs i hi'
          rw [Go.WideShapes.add_plain] at h4
          rw [Go.WideShapes.add_plain, Go.WideShapes.add_plain] at h3
          simp only [List.getElem_map, List.getElem_range, Nat.add_assoc] at h3 h4 ⊢
          exact ⟨h3.1, h3.2.1, h4.1, h4.2⟩)
        rw [hlen] at this
        exact this
      · have hi' : i < len := by omega
        simp only [List.getElem_map, List.getElem_range]
        exact (hq i hi').2

set_option maxRecDepth 100000 in
theorem srv_of_read {H : Type} {enc : TypeId × Value → H} {W : World} {base : Nat} {v : Value} {d : DataW H} {p : List MemPlace} (hval : Value.okWide Tryd.prog W .any base 41 v)
    (h : DataW.Trod enc Tryd.prog W 0 (fun _ => true) true 41 v d p) : ∃ (s t : ByteArray) (x : Value) (l : List En), v = .agg #[.string s, .string t, x] ∧ ArgE W x l ∧ s.size ≤ 9223372036854775807 ∧ t.size ≤ 9223372036854775807 ∧ ∀ i (hi : i < l.length), ThinP l[i].op := by
  obtain ⟨cs, rfl, hsz⟩ := okWide_struct Tryd.underlying41 hval
  have hC : Tryd.prog.cellsOf 41 = 3 := by kernel_rfl
  obtain ⟨x, y, z, rfl⟩ : ∃ x y z, cs = #[x, y, z] := by
    rw [hC] at hsz
    match cs, hsz with
    | ⟨[x, y, z]⟩, _ => exact ⟨x, y, z, rfl⟩
  obtain ⟨fuel, hf⟩ := h
  obtain ⟨xs, k, hk, hxy, _, hxl, hfs⟩ := DataW.trod_struct Tryd.underlying41 hf
  match xs, hxl with
  | [y0, y1, y2], _ =>
    have g0 := hfs 0 _ rfl
    have g1 := hfs 1 _ rfl
    have g2 := hfs 2 _ rfl
    have cS : Tryd.prog.cellsOf 9 = 1 := by kernel_rfl
    have cC : Tryd.prog.cellsOf 39 = 1 := by kernel_rfl
    simp [Value.cells, cS, cC] at g0 g1 g2
    obtain ⟨s0, e0, _, b0⟩ := DataW.trod_string Tryd.underlying9 g0
    obtain ⟨s1, e1, _, b1⟩ := DataW.trod_string Tryd.underlying9 g1
    simp only [List.cons.injEq, and_true] at e0 e1
    subst e0 e1
    unfold maxLen at b0 b1
    obtain ⟨l, hu1, hu2⟩ := entries_of_trod (d := y2.1) (p := y2.2) g2
    exact ⟨s0, s1, z, l, rfl, hu1, b0, b1, hu2⟩
end Go.Proofs.YtkjioadmebkaoabDoor
