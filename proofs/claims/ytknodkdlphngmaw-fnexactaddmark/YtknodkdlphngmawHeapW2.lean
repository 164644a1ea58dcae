/- The heap's order and its swap. -/
import Derived.Test.YtknodkdlphngmawHeapW1
import Derived.Test.YtknodkdlphngmawRange
import Derived.BigRegion
namespace Go.Proofs.Ytknodkdlphngmaw
open Go.RowKit
open Doc1

set_option maxRecDepth 100000 in
set_option maxHeartbeats 4000000 in
theorem swap_any {h g cap : Nat} {l : List En} {w : World} (H : Hl h g cap l w) {i j : Nat} (hi : i < l.length) (hj : j < l.length) :
    Calls Try.prog 39 #[.pointer (some ⟨h, 0, none⟩), .int .i64 (i : Int), .int .i64 (j : Int)] w fun e w' => e = .returned (.tuple #[]) ∧ Hl h g cap ((l.set i l[j]).set j l[i]) w' ∧ Moves (fun k => k = g) w (fun k => k = g) w' := by
  obtain ⟨c0, c1, c2⟩ := H.cells hi
  obtain ⟨d0, d1, d2⟩ := H.cells hj
  have hh : w.cell? ⟨h, 0, none⟩ = some (.slice (some ⟨g, 0, none⟩) l.length cap) := by obtain ⟨cs, h1, _⟩ := H.ex; exact h1.c
  have hcap : l.length ≤ cap ∧ cap ≤ maxLen := by obtain ⟨cs, h1, _⟩ := H.ex; exact h1.cap
  have fz : ∀ k, w.frozen? ⟨g, k, none⟩ = false := by obtain ⟨cs, h1, _⟩ := H.ex; exact h1.gz
  have hgl : g < w.heap.size := by obtain ⟨cs, h1, _⟩ := H.ex; exact h1.glt
  have hhg : h ≠ g := by obtain ⟨cs, h1, _⟩ := H.ex; exact h1.ne
  have i0 : (0 : Int) ≤ (i : Int) := by omega
  have i1 : (i : Int) < (l.length : Int) := by omega
  have j0 : (0 : Int) ≤ (j : Int) := by omega
  have j1 : (j : Int) < (l.length : Int) := by omega
  have hp := H.put hi l[j]
  obtain ⟨e0, e1, e2⟩ := hp.cells (i := j) (by simpa using hj)
  have HQ := hide (hp.put (i := j) (by simpa using hj) l[i])
  have HM := hide ((((((((Moves.refl (fun k => k = g) w).setCell (p := ⟨g, i * 3, none⟩) (fun _ => rfl) (.string l[j].st)).setCell (p := ⟨g, i * 3 + 1, none⟩) (fun _ => rfl) (.int .i64 l[j].at')).setCell (p := ⟨g, i * 3 + 2, none⟩) (fun _ => rfl) (.int .i64 l[j].op)).setCell (p := ⟨g, j * 3, none⟩) (fun _ => rfl) (.string l[i].st)).setCell (p := ⟨g, j * 3 + 1, none⟩) (fun _ => rfl) (.int .i64 l[i].at')).setCell (p := ⟨g, j * 3 + 2, none⟩) (fun _ => rfl) (.int .i64 l[i].op)).drew)
  clear hp
  have HH := hide H
  clear H
  go_enter Try.func39, Try.ntmps39
  go_wp2_with fail
  go_region
  all_goals
    go_wp2
    go_end0
    refine ⟨rfl, ?_, ?_⟩
    · exact HQ.out.up (Below.refl _ _).drew
    · exact HM.out
end Go.Proofs.Ytknodkdlphngmaw
