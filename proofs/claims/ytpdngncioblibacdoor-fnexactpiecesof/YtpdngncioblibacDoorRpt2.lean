/- The model's own helpers over ropes, on: pieces joined evenly, cut, told, read. -/
import Derived.Test.YtpdngncioblibacDoorRpt1
set_option linter.unusedVariables false
namespace Go.Proofs.YtpdngncioblibacDoor
open Go.RowKit
open Doc1

theorem cutS_low (g off n cap k : Nat) (h : k ≤ cap) (w : World) : (Instr.slice 26 (.slice (some ⟨g, off, none⟩) n cap) none (some (.int .i64 (k : Int))) none).run Tryd.prog w = .ok (.slice (some ⟨g, off, none⟩) k cap) w := by
  simp [go_sem, Tryd.underlying26, h]

theorem cutS_high (g off n cap k : Nat) (h : k ≤ n) (h2 : k < cap) (w : World) : (Instr.slice 26 (.slice (some ⟨g, off, none⟩) n cap) (some (.int .i64 (k : Int))) none none).run Tryd.prog w = .ok (.slice (some ⟨g, off + k, none⟩) (n - k) (cap - k)) w := by
  have : ¬ cap = k := by omega
  simp [go_sem, Tryd.underlying26, h, this]

theorem evn_some {l : List ByteArray} (h : 0 < l.length) : ∃ t, evn l = some t := by
  have := evn_pc _ l rfl
  cases hh : evn l with
  | none => rw [hh] at this; rw [← this] at h; simp [pcO] at h
  | some t => exact ⟨t, rfl⟩

/-- A row of texts that is read. -/
theorem TxOwn.at' {w : World} {B : Nat} {v : Value} {l : List ByteArray} (h : TxOwn w B v l) : ∃ a cap, v = .slice a l.length cap ∧ l.length ≤ cap ∧ cap ≤ maxLen ∧ ∀ i (hi : i < l.length), ∃ g, a = some ⟨g, 0, none⟩ ∧ g < w.heap.size ∧ w.cell? ⟨g, i, none⟩ = some (.string l[i]) := by
  unfold TxOwn at h
  obtain ⟨a, cap, rfl, k1, k2⟩ := own_shp h
  refine ⟨a, cap, rfl, k1, k2, fun i hi => ?_⟩
  obtain ⟨g, cc, e, -, -, -, z, -⟩ := own_open h (by omega)
  simp only [Value.slice.injEq] at e
  obtain ⟨e1, -, -⟩ := e
  subst e1
  refine ⟨g, rfl, z, ?_⟩
  rw [World.ownsRow.cellAt h i (by omega)]
  simp [stC, hi]

end Go.Proofs.YtpdngncioblibacDoor
