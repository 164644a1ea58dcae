/- From the reading of a slice of State to what the laws' copying asks of it. -/
import Derived.Test.YtafhpnkedjbcdayRowsSt
import Derived.Test.YtafhpnkedjbcdayIntsRead
import Derived.ProofKit
import Derived.OpenShut
import Derived.SizedLaws
import Derived.Deep.Slices
import Derived.ChangeSame
namespace Go.Proofs.Ytafhpnkedjbcday
open Go.ChangeShapes Go.WideShapes Go.ChangeAt Go.RowKit Go.WideElems

theorem ints_of_cells {H : Type} {enc : TypeId × Value → H} {W : World} {fuel : Nat} {d : DataW H} {pl : List MemPlace} {v : Value}
    (hf : DataW.trod enc Try.prog W 0 (fun _ => true) true fuel 44 [v] = some (d, pl)) : ∃ p : List Int, ArgI W v p ∧ ∀ j (hj : j < p.length), -9223372036854775808 ≤ p[j] ∧ p[j] ≤ 9223372036854775807 := by
  rcases open_ints Try.underlying44 Try.underlying3 cellsI64 hf with ⟨hcs, hx⟩ | ⟨a, len, cap, zs, hcs, _, hl, hm, hz, hx, hcell, hwz⟩
  · simp at hcs
    subst hcs
    exact ⟨[], .nil _ _, fun j hj => by simp at hj⟩
  · simp at hcs
    subst hcs
    simp only [if_true] at hz
    by_cases h0 : len = 0
    · subst h0; exact ⟨[], .nil _ _, fun j hj => by simp at hj⟩
    · obtain ⟨b, off, rfl, hc⟩ := ints_at hcell (by omega)
      have hb : b < W.heap.size := World.block_lt_of_cell? W _ (hc 0 (by omega))
      have hlen : (zs.take len).length = len := by simp; omega
      refine ⟨zs.take len, ?_, fun j hj => ?_⟩
      · have := ArgI.row (W := W) b off cap (zs.take len) hb (by omega) (by omega) hm (fun j hj => by
          have := hc j (by omega)
          rw [this, List.getElem_take, List.getD_eq_getElem?_getD, List.getElem?_eq_getElem (by omega)]
          rfl)
        rw [hlen] at this
        exact this
      · have hr := range_i64 hwz j
        rw [List.getElem?_eq_getElem (by omega)] at hr
        rw [List.getElem_take]
        exact hr

set_option maxRecDepth 100000 in
theorem states_of_read {H : Type} {enc : TypeId × Value → H} {W : World} {base : Nat} {v : Value} {d : DataW H} {p : List MemPlace} (hval : Value.okWide Try.prog W .any base 28 v)
    (h : DataW.Trod enc Try.prog W 0 (fun _ => true) true 28 v d p) : ∃ l : List Doc1.Stt, ArgSt W v l ∧ ∀ i (hi : i < l.length), (l[i].expr.size ≤ 9223372036854775807) ∧ ∀ j (hj : j < l[i].next.length), -9223372036854775808 ≤ l[i].next[j] ∧ l[i].next[j] ≤ 9223372036854775807 := by
  obtain ⟨a0, len0, cap0, rfl⟩ := okWide_slice Try.underlying28 hval
  obtain ⟨fuel, hf⟩ := h
  rcases Go.Deep.open_slice Try.underlying28 hf with ⟨hcs, hx⟩ | ⟨a, len, cap, m, n, D, Pl, hcs, hb, hl, hm, hmm, hx, heach⟩
  · simp [Value.cells] at hcs
    obtain ⟨rfl, rfl, rfl⟩ := hcs
    exact ⟨[], .nil _ _, fun j hj => by simp at hj⟩
  · simp [Value.cells] at hcs
    obtain ⟨rfl, rfl, rfl⟩ := hcs
    simp only [if_true] at hmm
    have ce : Try.prog.cellsOf 72 = 3 := by kernel_rfl
    by_cases h0 : len0 = 0
    · subst h0; exact ⟨[], .nil _ _, fun j hj => by simp at hj⟩
    · have each : ∀ i, i < len0 → ∃ q : Doc1.Stt, (W.cell? (a.add (i * 3)) = some (.string q.expr) ∧ W.cell? (a.add (i * 3 + 1)) = some (.bool q.fin) ∧ ∃ v, W.cell? (a.add (i * 3 + 2)) = some v ∧ ArgI W v q.next) ∧ (q.expr.size ≤ 9223372036854775807) ∧ ∀ j (hj : j < q.next.length), -9223372036854775808 ≤ q.next[j] ∧ q.next[j] ≤ 9223372036854775807 := by
        intro i hi
        obtain ⟨cs', h1, h2⟩ := heach i (by omega)
        rw [ce] at h1
        obtain ⟨_, hlen, hcell⟩ := World.cells?_some h1
        have hu := Try.underlying72
        obtain ⟨xs, k, hk, hxy, _, hxl, hfs⟩ := DataW.trod_struct hu h2
        match xs, hxl, cs', hlen with
        | [y0, y1, y2], _, [v0, v1, v2], _ =>
          have g0 := hfs 0 _ rfl
          have g1 := hfs 1 _ rfl
          have g2 := hfs 2 _ rfl
          have cS : Try.prog.cellsOf 9 = 1 := by kernel_rfl
          have cB : Try.prog.cellsOf 4 = 1 := by kernel_rfl
          have cI : Try.prog.cellsOf 44 = 1 := by kernel_rfl
          simp [cS, cB, cI] at g0 g1 g2
          obtain ⟨s0, e0, _, b0⟩ := DataW.trod_string Try.underlying9 g0
          obtain ⟨s1, e1, _⟩ := DataW.trod_bool Try.underlying4 g1
          have q0 := hcell 0 (by omega)
          have q1 := hcell 1 (by omega)
          have q2 := hcell 2 (by omega)
          rw [Go.Deep.add_add] at q0 q1 q2
          simp only [List.cons.injEq, and_true] at e0 e1
          subst e0 e1
          unfold maxLen at b0
          obtain ⟨p, hp1, hp2⟩ := ints_of_cells g2
          exact ⟨⟨s0, s1, p⟩, ⟨by simpa using q0, by simpa using q1, v2, by simpa using q2, hp1⟩, b0, hp2⟩
      obtain ⟨q, hq⟩ : ∃ q : Nat → Doc1.Stt, ∀ i, i < len0 → (W.cell? (a.add (i * 3)) = some (.string (q i).expr) ∧ W.cell? (a.add (i * 3 + 1)) = some (.bool (q i).fin) ∧ ∃ v, W.cell? (a.add (i * 3 + 2)) = some v ∧ ArgI W v (q i).next) ∧ ((q i).expr.size ≤ 9223372036854775807) ∧ ∀ j (hj : j < (q i).next.length), -9223372036854775808 ≤ (q i).next[j] ∧ (q i).next[j] ≤ 9223372036854775807 :=
        ⟨fun i => if hi : i < len0 then (each i hi).choose else ⟨Doc1.ba [], false, []⟩, fun i hi => by simp only [dif_pos hi]; exact (each i hi).choose_spec⟩
      obtain ⟨vs, hvs⟩ : ∃ vs : Nat → Value, ∀ i, i < len0 → W.cell? (a.add (i * 3 + 2)) = some (vs i) ∧ ArgI W (vs i) (q i).next :=
        ⟨fun i => if hi : i < len0 then (hq i hi).1.2.2.choose else undef, fun i hi => by simp only [dif_pos hi]; exact (hq i hi).1.2.2.choose_spec⟩
      obtain ⟨b, off, spot⟩ := a
      have hspot : spot = none := by
        have := World.cell?_spot (hq 0 (by omega)).1.1
        simpa [Addr.add] using this
      subst hspot
      have hbl : b < W.heap.size := World.block_lt_of_cell? W _ (by have := (hq 0 (by omega)).1.1; rw [Go.WideShapes.add_plain] at this; exact this)
      have hlen : ((List.range len0).map q).length = len0 := by simp
      refine ⟨(List.range len0).map q, ?_, fun i hi => ?_⟩
      · have := ArgSt.row (W := W) b off cap0 ((List.range len0).map q) vs hbl (by omega) (by omega) hm (fun i hi => by
          have hi' : i < len0 := by omega
          have h3 := (hq i hi').1
          have h4 := hvs i hi'
          rw [Go.WideShapes.add_plain, Go.WideShapes.add_plain] at h3
          rw [Go.WideShapes.add_plain] at h4
          simp only [List.getElem_map, List.getElem_range, Nat.add_assoc]
          exact ⟨h3.1, h3.2.1, h4⟩)
        rw [hlen] at this
        exact this
      · have hi' : i < len0 := by omega
        simp only [List.getElem_map, List.getElem_range]
        exact (hq i hi').2
end Go.Proofs.Ytafhpnkedjbcday
