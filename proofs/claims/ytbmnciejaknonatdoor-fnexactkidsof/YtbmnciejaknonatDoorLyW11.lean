/- The contract of the layout's add, of any node. -/
import Derived.Test.YtbmnciejaknonatDoorLyW10
namespace Go.Proofs.YtbmnciejaknonatDoor
open Go.RowKit
open Doc1

/-- Ending turns open nodes into letters. -/
theorem end_sum (u : Int) : ∀ (op : List Nat) (text : List UInt8) (fr ts : List Nat) (y : LS), endI text fr ts op u = some y → y.text.length + y.op.length = text.length + op.length ∧ y.fr = fr ∧ y.to.length = ts.length ∧ ∀ o ∈ y.op, o ∈ op
  | [], _, _, _, _, h => by simp [endI] at h
  | o :: r, text, fr, ts, y, h => by
    unfold endI at h
    split at h
    · cases h; exact ⟨rfl, rfl, rfl, fun x hx => hx⟩
    · obtain ⟨h1, h2, h3, h4⟩ := end_sum u r _ _ _ y h
      refine ⟨by rw [h1]; simp; omega, h2, by rw [h3, List.length_set], fun x hx => List.mem_cons_of_mem _ (h4 x hx)⟩

theorem add_any (B g : Nat) (V : Nat → Value) (z : LS) (n : Nd) (w : World) (h : Ly B g V z w) (hB : B ≤ w.heap.size) (hT : Tab w) (hTB : 0 < B) (hl : z.text.length + z.op.length ≤ 3000000) (hf : z.fr.length = z.to.length) (hn : z.to.length ≤ 3000000) (ho : ∀ o ∈ z.op, o < z.to.length) (h1 : n.name.size ≤ 3000000) (h2 : n.text.size ≤ 3000000) :
    Calls Tryd.prog 51 #[.pointer (some ⟨g, 0, none⟩), shV n, .int .i64 n.up] w fun e w' => e = .returned (.bool (addN z n).isSome) ∧ Below B w w' ∧ ∀ y, addN z n = some y → ∃ V', Ly B g V' y w' := by
  have hb : ∀ y, z.endInto n.up = some y → y.text.length ≤ 4000000 ∧ y.fr.length ≤ 4000000 ∧ y.to.length ≤ 4000000 ∧ y.op.length ≤ 4000000 := fun y hy => by
    obtain ⟨e1, e2, e3, _⟩ := end_sum n.up _ _ _ _ y hy
    rw [e2]
    omega
  unfold addN shV
  cases hs : shp n with
  | whole =>
    by_cases h0 : z.fr.length = 0
    · rw [if_pos h0]
      refine (add_whole B g V z n.up w h hB (by omega) (by omega) (by omega) (by omega) h0).mono ?_
      rintro e w' ⟨rfl, hb', hv⟩
      exact ⟨rfl, hb', fun y hy => by cases hy; exact hv trivial⟩
    · rw [if_neg h0]
      refine (add_whole_no B g V z n.up w h (by omega) (by omega)).mono ?_
      rintro e w' ⟨rfl, hw⟩
      subst hw
      exact ⟨rfl, Below.refl _ _, fun y hy => by cases hy⟩
  | elem =>
    refine (add_elem B g V z n.up n.name w h hB hl hf hn ho h1 hb).mono ?_
    rintro e w' ⟨rfl, hb', hv⟩
    refine ⟨by simp, hb', fun y hy => ?_⟩
    cases hz : z.endInto n.up with
    | none => rw [hz] at hy; cases hy
    | some x =>
      rw [hz] at hy
      cases hy
      exact hv x hz
  | run =>
    refine (add_run B g V z n.up n.text w h hB hT hTB hl hf hn ho h2 (fun y hy => ⟨(hb y hy).1, (hb y hy).2.1, (hb y hy).2.2.1⟩)).mono ?_
    rintro e w' ⟨rfl, hb', hv⟩
    exact ⟨rfl, hb', hv⟩
  | none =>
    refine (add_none g n.up w).mono ?_
    rintro e w' ⟨rfl, hw⟩
    subst hw
    exact ⟨rfl, Below.refl _ _, fun y hy => by cases hy⟩
end Go.Proofs.YtbmnciejaknonatDoor
