/- From the reading of a sequence to what the laws' copying asks of it. -/
import Derived.Test.YtnhooalibadeeabDoorRowsAtom
import Derived.ProofKit
import Derived.OpenShut
import Derived.SizedLaws
import Derived.Deep.Slices
import Derived.ChangeSame
namespace Go.Proofs.YtnhooalibadeeabDoor
open Go.ChangeShapes Go.WideShapes Go.ChangeAt Go.RowKit Go.WideElems

set_option maxRecDepth 100000 in
theorem atoms_of_trod {H : Type} {enc : TypeId × Value → H} {W : World} {v : Value} {d : DataW H} {p : List MemPlace} {fuel : Nat} (hf : DataW.trod enc Tryd.prog W 0 (fun _ => true) true fuel 22 [v] = some (d, p)) : ∃ l : List Doc1.Am, ArgAm W v l ∧ ∀ i (hi : i < l.length), (l[i].byte.size ≤ 9223372036854775807) ∧ -9223372036854775808 ≤ l[i].time ∧ l[i].time ≤ 9223372036854775807 ∧ -9223372036854775808 ≤ l[i].actor ∧ l[i].actor ≤ 9223372036854775807 ∧ -9223372036854775808 ≤ l[i].above ∧ l[i].above ≤ 9223372036854775807 ∧ -9223372036854775808 ≤ l[i].maker ∧ l[i].maker ≤ 9223372036854775807 := by
  rcases Go.Deep.open_slice Tryd.underlying22 hf with ⟨hcs, hx⟩ | ⟨a, len, cap, m, n, D, Pl, hcs, hb, hl, hm, hmm, hx, heach⟩
  · simp only [List.cons.injEq, and_true] at hcs
    subst hcs
    exact ⟨[], .nil _ _, fun j hj => by simp at hj⟩
  · simp only [List.cons.injEq, and_true] at hcs
    subst hcs
    simp only [if_true] at hmm
    have ce : Tryd.prog.cellsOf 66 = 6 := by kernel_rfl
    by_cases h0 : len = 0
    · subst h0; exact ⟨[], .nil _ _, fun j hj => by simp at hj⟩
    · have each : ∀ i, i < len → ∃ q : Doc1.Am, (W.cell? (a.add (i * 6)) = some (.int .i64 q.time) ∧ W.cell? (a.add (i * 6 + 1)) = some (.int .i64 q.actor) ∧ W.cell? (a.add (i * 6 + 2)) = some (.int .i64 q.above) ∧ W.cell? (a.add (i * 6 + 3)) = some (.int .i64 q.maker) ∧ W.cell? (a.add (i * 6 + 4)) = some (.string q.byte) ∧ W.cell? (a.add (i * 6 + 5)) = some (.bool q.gone)) ∧ (q.byte.size ≤ 9223372036854775807) ∧ -9223372036854775808 ≤ q.time ∧ q.time ≤ 9223372036854775807 ∧ -9223372036854775808 ≤ q.actor ∧ q.actor ≤ 9223372036854775807 ∧ -9223372036854775808 ≤ q.above ∧ q.above ≤ 9223372036854775807 ∧ -9223372036854775808 ≤ q.maker ∧ q.maker ≤ 9223372036854775807 := by
        intro i hi
        obtain ⟨cs', h1, h2⟩ := heach i (by omega)
        rw [ce] at h1
        obtain ⟨_, hlen, hcell⟩ := World.cells?_some h1
        have hu := Tryd.underlying66
        obtain ⟨xs, k, hk, hxy, _, hxl, hfs⟩ := DataW.trod_struct hu h2
        match xs, hxl, cs', hlen with
        | [y0, y1, y2, y3, y4, y5], _, [v0, v1, v2, v3, v4, v5], _ =>
          have g0 := hfs 0 _ rfl
          have g1 := hfs 1 _ rfl
          have g2 := hfs 2 _ rfl
          have g3 := hfs 3 _ rfl
          have g4 := hfs 4 _ rfl
          have g5 := hfs 5 _ rfl
          have cS : Tryd.prog.cellsOf 9 = 1 := by kernel_rfl
          have cI : Tryd.prog.cellsOf 3 = 1 := by kernel_rfl
          have cB : Tryd.prog.cellsOf 4 = 1 := by kernel_rfl
          simp [cS, cI, cB] at g0 g1 g2 g3 g4 g5
          obtain ⟨s0, e0, _, b0⟩ := DataW.trod_int Tryd.underlying3 g0
          obtain ⟨s1, e1, _, b1⟩ := DataW.trod_int Tryd.underlying3 g1
          obtain ⟨s2, e2, _, b2⟩ := DataW.trod_int Tryd.underlying3 g2
          obtain ⟨s3, e3, _, b3⟩ := DataW.trod_int Tryd.underlying3 g3
          obtain ⟨s4, e4, _, b4⟩ := DataW.trod_string Tryd.underlying9 g4
          obtain ⟨s5, e5, _⟩ := DataW.trod_bool Tryd.underlying4 g5
          have q0 := hcell 0 (by omega)
          have q1 := hcell 1 (by omega)
          have q2 := hcell 2 (by omega)
          have q3 := hcell 3 (by omega)
          have q4 := hcell 4 (by omega)
          have q5 := hcell 5 (by omega)
          rw [Go.Deep.add_add] at q0 q1 q2 q3 q4 q5
          simp only [List.cons.injEq, and_true] at e0 e1 e2 e3 e4 e5
          subst e0 e1 e2 e3 e4 e5
          have hz0 := bounds_i64 b0
          have hz1 := bounds_i64 b1
          have hz2 := bounds_i64 b2
          have hz3 := bounds_i64 b3
          unfold maxLen at b4
          exact ⟨⟨s0, s1, s2, s3, s4, s5⟩, ⟨by simpa using q0, by simpa using q1, by simpa using q2, by simpa using q3, by simpa using q4, by simpa using q5⟩, b4, by show -9223372036854775808 ≤ s0; omega, by show s0 ≤ 9223372036854775807; omega, by show -9223372036854775808 ≤ s1; omega, by show s1 ≤ 9223372036854775807; omega, by show -9223372036854775808 ≤ s2; omega, by show s2 ≤ 9223372036854775807; omega, by show -9223372036854775808 ≤ s3; omega, by show s3 ≤ 9223372036854775807; omega⟩
      obtain ⟨q, hq⟩ : ∃ q : Nat → Doc1.Am, ∀ i, i < len → (W.cell? (a.add (i * 6)) = some (.int .i64 (q i).time) ∧ W.cell? (a.add (i * 6 + 1)) = some (.int .i64 (q i).actor) ∧ W.cell? (a.add (i * 6 + 2)) = some (.int .i64 (q i).above) ∧ W.cell? (a.add (i * 6 + 3)) = some (.int .i64 (q i).maker) ∧ W.cell? (a.add (i * 6 + 4)) = some (.string (q i).byte) ∧ W.cell? (a.add (i * 6 + 5)) = some (.bool (q i).gone)) ∧ ((q i).byte.size ≤ 9223372036854775807) ∧ -9223372036854775808 ≤ (q i).time ∧ (q i).time ≤ 9223372036854775807 ∧ -9223372036854775808 ≤ (q i).actor ∧ (q i).actor ≤ 9223372036854775807 ∧ -9223372036854775808 ≤ (q i).above ∧ (q i).above ≤ 9223372036854775807 ∧ -9223372036854775808 ≤ (q i).maker ∧ (q i).maker ≤ 9223372036854775807 :=
        ⟨fun i => if hi : i < len then (each i hi).choose else ⟨0, 0, 0, 0, Doc1.ba [], false⟩, fun i hi => by simp only [dif_pos hi]; exact (each i hi).choose_spec⟩
      obtain ⟨b, off, spot⟩ := a
      have hspot : spot = none := by
        have := World.cell?_spot (hq 0 (by omega)).1.1
        simpa [Addr.add] using this
      subst hspot
      have hbl : b < W.heap.size := World.block_lt_of_cell? W _ (by have := (hq 0 (by omega)).1.1; rw [Go.WideShapes.add_plain] at this; exact this)
      have hlen : ((List.range len).map q).length = len := by simp
      refine ⟨(List.range len).map q, ?_, fun i hi => ?_⟩
      · have := ArgAm.row (W := W) b off cap ((List.range len).map q) hbl (by omega) (by omega) hm (fun i hi => by
          have hi' : i < len := by omega
          have h3 := (hq i hi').1
          rw [Go.WideShapes.add_plain, Go.WideShapes.add_plain, Go.WideShapes.add_plain, Go.WideShapes.add_plain, Go.WideShapes.add_plain, Go.WideShapes.add_plain] at h3
          simp only [List.getElem_map, List.getElem_range, Nat.add_assoc]
          exact h3)
        rw [hlen] at this
        exact this
      · have hi' : i < len := by omega
        simp only [List.getElem_map, List.getElem_range]
        exact (hq i hi').2

set_option maxRecDepth 100000 in
theorem seq_of_read {H : Type} {enc : TypeId × Value → H} {W : World} {base : Nat} {v : Value} {d : DataW H} {p : List MemPlace} (hval : Value.okWide Tryd.prog W .any base 24 v)
    (h : DataW.Trod enc Tryd.prog W 0 (fun _ => true) true 24 v d p) : ∃ x, v = .agg #[x] ∧ ∃ l : List Doc1.Am, ArgAm W x l ∧ ∀ i (hi : i < l.length), (l[i].byte.size ≤ 9223372036854775807) ∧ -9223372036854775808 ≤ l[i].time ∧ l[i].time ≤ 9223372036854775807 ∧ -9223372036854775808 ≤ l[i].actor ∧ l[i].actor ≤ 9223372036854775807 ∧ -9223372036854775808 ≤ l[i].above ∧ l[i].above ≤ 9223372036854775807 ∧ -9223372036854775808 ≤ l[i].maker ∧ l[i].maker ≤ 9223372036854775807 := by
  obtain ⟨cs, rfl, hsz⟩ := okWide_struct Tryd.underlying24 hval
  have hC : Tryd.prog.cellsOf 24 = 1 := by kernel_rfl
  obtain ⟨x, rfl⟩ : ∃ x, cs = #[x] := by
    rw [hC] at hsz
    match cs, hsz with
    | ⟨[x]⟩, _ => exact ⟨x, rfl⟩
  refine ⟨x, rfl, ?_⟩
  obtain ⟨fuel, hf⟩ := h
  obtain ⟨xs, k, hk, hxy, _, hxl, hfs⟩ := DataW.trod_struct Tryd.underlying24 hf
  match xs, hxl with
  | [y0], _ =>
    have g0 := hfs 0 _ rfl
    have cS : Tryd.prog.cellsOf 22 = 1 := by kernel_rfl
    simp [Value.cells, cS] at g0
    obtain ⟨l, h1, h2⟩ := atoms_of_trod (d := y0.1) (p := y0.2) g0
    exact ⟨l, h1, h2⟩
end Go.Proofs.YtnhooalibadeeabDoor
