/- From the reading of a slice of strings to what the laws' copying asks of it. -/
import Derived.Test.YtgacajnljplmiaaDoorRwArg
import Derived.ProofKit
import Derived.OpenShut
import Derived.SizedLaws
import Derived.Deep.Slices
import Derived.ChangeSame
namespace Go.Proofs.YtgacajnljplmiaaDoor
open Go.ChangeShapes Go.WideShapes Go.ChangeAt Go.RowKit Go.WideElems

set_option maxRecDepth 100000 in
theorem strings_of_read {H : Type} {enc : TypeId × Value → H} {W : World} {base : Nat} {v : Value} {d : DataW H} {p : List MemPlace} (hval : Value.okWide Tryd.prog W .any base 22 v)
    (h : DataW.Trod enc Tryd.prog W 0 (fun _ => true) true 22 v d p) : ∃ l : List ByteArray, ArgS W v l ∧ ∀ i (hi : i < l.length), l[i].size ≤ 9223372036854775807 ∧ True := by
  obtain ⟨a0, len0, cap0, rfl⟩ := okWide_slice Tryd.underlying22 hval
  obtain ⟨fuel, hf⟩ := h
  rcases Go.Deep.open_slice Tryd.underlying22 hf with ⟨hcs, hx⟩ | ⟨a, len, cap, m, n, D, Pl, hcs, hb, hl, hm, hmm, hx, heach⟩
  · simp [Value.cells] at hcs
    obtain ⟨rfl, rfl, rfl⟩ := hcs
    exact ⟨[], .nil _ _, fun j hj => by simp at hj⟩
  · simp [Value.cells] at hcs
    obtain ⟨rfl, rfl, rfl⟩ := hcs
    simp only [if_true] at hmm
    have ce : Tryd.prog.cellsOf 9 = 1 := by kernel_rfl
    by_cases h0 : len0 = 0
    · subst h0; exact ⟨[], .nil _ _, fun j hj => by simp at hj⟩
    · have each : ∀ i, i < len0 → ∃ q : ByteArray, W.cell? (a.add i) = some (.string q) ∧ q.size ≤ 9223372036854775807 := by
        intro i hi
        obtain ⟨cs', h1, h2⟩ := heach i (by omega)
        rw [ce, Nat.mul_one] at h1
        obtain ⟨_, hlen, hcell⟩ := World.cells?_some h1
        obtain ⟨s1, e1, _, b1⟩ := DataW.trod_string Tryd.underlying9 h2
        have q0 := hcell 0 (by omega)
        rw [Go.Deep.add_add] at q0
        subst e1
        unfold maxLen at b1
        exact ⟨s1, by simpa using q0, b1⟩
      obtain ⟨q, hq⟩ : ∃ q : Nat → ByteArray, ∀ i, i < len0 → W.cell? (a.add i) = some (.string (q i)) ∧ (q i).size ≤ 9223372036854775807 :=
        ⟨fun i => if hi : i < len0 then (each i hi).choose else ByteArray.empty, fun i hi => by simp only [dif_pos hi]; exact (each i hi).choose_spec⟩
      obtain ⟨b, off, spot⟩ := a
      have hspot : spot = none := by
        have := World.cell?_spot (hq 0 (by omega)).1
        simpa [Addr.add] using this
      subst hspot
      have hbl : b < W.heap.size := World.block_lt_of_cell? W _ (by have := (hq 0 (by omega)).1; rw [Go.WideShapes.add_plain] at this; exact this)
      have hlen : ((List.range len0).map q).length = len0 := by simp
      refine ⟨(List.range len0).map q, ?_, fun i hi => ?_⟩
      · have := ArgS.row (W := W) b off cap0 ((List.range len0).map q) hbl (by omega) (by omega) hm (fun i hi => by
          have hi' : i < len0 := by omega
          have h3 := (hq i hi').1
          rw [Go.WideShapes.add_plain] at h3
          simp only [List.getElem_map, List.getElem_range]
          exact h3)
        rw [hlen] at this
        exact this
      · have hi' : i < len0 := by omega
        simp only [List.getElem_map, List.getElem_range]
        exact ⟨(hq i hi').2, trivial⟩
end Go.Proofs.YtgacajnljplmiaaDoor
