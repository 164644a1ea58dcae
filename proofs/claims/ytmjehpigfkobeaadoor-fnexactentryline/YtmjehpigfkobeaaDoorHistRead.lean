/- From the reading of a history to what the laws' copying asks of it. -/
import Derived.Test.YtmjehpigfkobeaaDoorHistM
import Derived.ProofKit
import Derived.OpenShut
import Derived.SizedLaws
import Derived.Deep.Slices
import Derived.ChangeSame
namespace Go.Proofs.YtmjehpigfkobeaaDoor
open Go.ChangeShapes Go.WideShapes Go.ChangeAt Go.RowKit Go.WideElems

set_option maxRecDepth 100000 in
theorem parts_of_trod {H : Type} {enc : TypeId × Value → H} {W : World} {v : Value} {d : DataW H} {p : List MemPlace} {fuel : Nat} (hf : DataW.trod enc Tryd.prog W 0 (fun _ => true) true fuel 40 [v] = some (d, p)) : ∃ l : List Doc1.Pt, ArgP W v l ∧ ∀ i (hi : i < l.length), (l[i].put.size ≤ 9223372036854775807 ∧ l[i].drop.size ≤ 9223372036854775807) ∧ -9223372036854775808 ≤ l[i].keep ∧ l[i].keep ≤ 9223372036854775807 := by
  rcases Go.Deep.open_slice Tryd.underlying40 hf with ⟨hcs, hx⟩ | ⟨a, len, cap, m, n, D, Pl, hcs, hb, hl, hm, hmm, hx, heach⟩
  · simp only [List.cons.injEq, and_true] at hcs
    subst hcs
    exact ⟨[], .nil _ _, fun j hj => by simp at hj⟩
  · simp only [List.cons.injEq, and_true] at hcs
    subst hcs
    simp only [if_true] at hmm
    have ce : Tryd.prog.cellsOf 91 = 3 := by kernel_rfl
    by_cases h0 : len = 0
    · subst h0; exact ⟨[], .nil _ _, fun j hj => by simp at hj⟩
    · have each : ∀ i, i < len → ∃ q : Doc1.Pt, (W.cell? (a.add (i * 3)) = some (.int .i64 q.keep) ∧ W.cell? (a.add (i * 3 + 1)) = some (.string q.put) ∧ W.cell? (a.add (i * 3 + 2)) = some (.string q.drop)) ∧ (q.put.size ≤ 9223372036854775807 ∧ q.drop.size ≤ 9223372036854775807) ∧ -9223372036854775808 ≤ q.keep ∧ q.keep ≤ 9223372036854775807 := by
        intro i hi
        obtain ⟨cs', h1, h2⟩ := heach i (by omega)
        rw [ce] at h1
        obtain ⟨_, hlen, hcell⟩ := World.cells?_some h1
        have hu := Tryd.underlying91
        obtain ⟨xs, k, hk, hxy, _, hxl, hfs⟩ := DataW.trod_struct hu h2
        match xs, hxl, cs', hlen with
        | [y0, y1, y2], _, [v0, v1, v2], _ =>
          have g0 := hfs 0 _ rfl
          have g1 := hfs 1 _ rfl
          have g2 := hfs 2 _ rfl
          have cS : Tryd.prog.cellsOf 9 = 1 := by kernel_rfl
          have cI : Tryd.prog.cellsOf 3 = 1 := by kernel_rfl
          simp [cS, cI] at g0 g1 g2
          obtain ⟨s0, e0, _, b0⟩ := DataW.trod_int Tryd.underlying3 g0
          obtain ⟨s1, e1, _, b1⟩ := DataW.trod_string Tryd.underlying9 g1
          obtain ⟨s2, e2, _, b2⟩ := DataW.trod_string Tryd.underlying9 g2
          have q0 := hcell 0 (by omega)
          have q1 := hcell 1 (by omega)
          have q2 := hcell 2 (by omega)
          rw [Go.Deep.add_add] at q0 q1 q2
          simp only [List.cons.injEq, and_true] at e0 e1 e2
          subst e0 e1 e2
          have hz0 := bounds_i64 b0
          unfold maxLen at b1 b2
          exact ⟨⟨s0, s1, s2⟩, ⟨by simpa using q0, by simpa using q1, by simpa using q2⟩, ⟨b1, b2⟩, by show -9223372036854775808 ≤ s0; omega, by show s0 ≤ 9223372036854775807; omega⟩
      obtain ⟨q, hq⟩ : ∃ q : Nat → Doc1.Pt, ∀ i, i < len → (W.cell? (a.add (i * 3)) = some (.int .i64 (q i).keep) ∧ W.cell? (a.add (i * 3 + 1)) = some (.string (q i).put) ∧ W.cell? (a.add (i * 3 + 2)) = some (.string (q i).drop)) ∧ ((q i).put.size ≤ 9223372036854775807 ∧ (q i).drop.size ≤ 9223372036854775807) ∧ -9223372036854775808 ≤ (q i).keep ∧ (q i).keep ≤ 9223372036854775807 :=
        ⟨fun i => if hi : i < len then (each i hi).choose else ⟨0, Doc1.ba [], Doc1.ba []⟩, fun i hi => by simp only [dif_pos hi]; exact (each i hi).choose_spec⟩
      obtain ⟨b, off, spot⟩ := a
      have hspot : spot = none := by
        have := World.cell?_spot (hq 0 (by omega)).1.1
        simpa [Addr.add] using this
      subst hspot
      have hbl : b < W.heap.size := World.block_lt_of_cell? W _ (by have := (hq 0 (by omega)).1.1; rw [Go.WideShapes.add_plain] at this; exact this)
      have hlen : ((List.range len).map q).length = len := by simp
      refine ⟨(List.range len).map q, ?_, fun i hi => ?_⟩
      · have := ArgP.row (W := W) b off cap ((List.range len).map q) hbl (by omega) (by omega) hm (fun i hi => by
          have hi' : i < len := by omega
          have h3 := (hq i hi').1
          rw [Go.WideShapes.add_plain, Go.WideShapes.add_plain, Go.WideShapes.add_plain] at h3
          simp only [List.getElem_map, List.getElem_range, Nat.add_assoc]
          exact h3)
        rw [hlen] at this
        exact this
      · have hi' : i < len := by omega
        simp only [List.getElem_map, List.getElem_range]
        exact (hq i hi').2

end Go.Proofs.YtmjehpigfkobeaaDoor
