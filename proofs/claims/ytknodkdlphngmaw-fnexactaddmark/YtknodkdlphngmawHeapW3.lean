/- The heap's order. -/
import Derived.Test.YtknodkdlphngmawHeapW1
import Derived.Deep.RegionHeld3
namespace Go.Proofs.Ytknodkdlphngmaw
open Go.RowKit
open Doc1

set_option maxRecDepth 100000 in
set_option maxHeartbeats 4000000 in
theorem ahead_any {h g cap : Nat} {l : List En} {w : World} (H : Hl h g cap l w) {i j : Nat} (hi : i < l.length) (hj : j < l.length) :
    Calls Try.prog 38 #[.pointer (some ⟨h, 0, none⟩), .int .i64 (i : Int), .int .i64 (j : Int)] w fun e w' => e = .returned (.bool (ahE l[i] l[j])) ∧ Below w.heap.size w w' := by
  obtain ⟨c0, c1, c2⟩ := H.cells hi
  obtain ⟨d0, d1, d2⟩ := H.cells hj
  have hh : w.cell? ⟨h, 0, none⟩ = some (.slice (some ⟨g, 0, none⟩) l.length cap) := by obtain ⟨cs, h1, _⟩ := H.ex; exact h1.c
  have hcap : l.length ≤ cap ∧ cap ≤ maxLen := by obtain ⟨cs, h1, _⟩ := H.ex; exact h1.cap
  have hgl : g < w.heap.size := by obtain ⟨cs, h1, _⟩ := H.ex; exact h1.glt
  have hhl : h < w.heap.size := by obtain ⟨cs, h1, _⟩ := H.ex; exact h1.hlt
  have i0 : (0 : Int) ≤ (i : Int) := by omega
  have i1 : (i : Int) < (l.length : Int) := by omega
  have j0 : (0 : Int) ≤ (j : Int) := by omega
  have j1 : (j : Int) < (l.length : Int) := by omega
  obtain ⟨x, hx⟩ : ∃ x, x = l[i] := ⟨_, rfl⟩
  obtain ⟨y, hy⟩ : ∃ y, y = l[j] := ⟨_, rfl⟩
  rw [← hx] at c0 c1 c2 ⊢
  rw [← hy] at d0 d1 d2 ⊢
  clear H hx hy
  unfold ahE
  cases he : x.st.toList == y.st.toList with
  | false =>
    rw [if_neg (by simp)]
    go_enter Try.func38, Try.ntmps38
    go_wp2_with fail
    go_region_held3 (fun w' => w'.cell? ⟨h, 0, none⟩ = some (.slice (some ⟨g, 0, none⟩) l.length cap) ∧ w'.cell? ⟨g, i * 3, none⟩ = some (.string x.st) ∧ w'.cell? ⟨g, i * 3 + 1, none⟩ = some (.int .i64 x.at') ∧ w'.cell? ⟨g, i * 3 + 2, none⟩ = some (.int .i64 x.op) ∧ w'.cell? ⟨g, j * 3, none⟩ = some (.string y.st) ∧ w'.cell? ⟨g, j * 3 + 1, none⟩ = some (.int .i64 y.at') ∧ w'.cell? ⟨g, j * 3 + 2, none⟩ = some (.int .i64 y.op)) (go_keep) (fail)
    all_goals
      go_wp2
      go_ret
      refine ⟨rfl, ?_⟩
      exact (((Below.refl _ _).alloc (Nat.le_refl _) _).alloc (by simp) _).drew
  | true =>
    rw [if_pos rfl]
    by_cases ha : x.at' = y.at'
    · rw [if_pos ha]
      have ha' : (x.at' == y.at') = true := by simpa using ha
      clear ha
      go_enter Try.func38, Try.ntmps38
      go_wp2_with fail
      go_region_held3 (fun w' => w'.cell? ⟨h, 0, none⟩ = some (.slice (some ⟨g, 0, none⟩) l.length cap) ∧ w'.cell? ⟨g, i * 3, none⟩ = some (.string x.st) ∧ w'.cell? ⟨g, i * 3 + 1, none⟩ = some (.int .i64 x.at') ∧ w'.cell? ⟨g, i * 3 + 2, none⟩ = some (.int .i64 x.op) ∧ w'.cell? ⟨g, j * 3, none⟩ = some (.string y.st) ∧ w'.cell? ⟨g, j * 3 + 1, none⟩ = some (.int .i64 y.at') ∧ w'.cell? ⟨g, j * 3 + 2, none⟩ = some (.int .i64 y.op)) (go_keep) (fail)
      all_goals
        go_wp2
        go_ret
        refine ⟨rfl, ?_⟩
        exact (((Below.refl _ _).alloc (Nat.le_refl _) _).alloc (by simp) _).drew
    · rw [if_neg ha]
      have ha' : (x.at' == y.at') = false := by simpa using ha
      clear ha
      go_enter Try.func38, Try.ntmps38
      go_wp2_with fail
      go_region_held3 (fun w' => w'.cell? ⟨h, 0, none⟩ = some (.slice (some ⟨g, 0, none⟩) l.length cap) ∧ w'.cell? ⟨g, i * 3, none⟩ = some (.string x.st) ∧ w'.cell? ⟨g, i * 3 + 1, none⟩ = some (.int .i64 x.at') ∧ w'.cell? ⟨g, i * 3 + 2, none⟩ = some (.int .i64 x.op) ∧ w'.cell? ⟨g, j * 3, none⟩ = some (.string y.st) ∧ w'.cell? ⟨g, j * 3 + 1, none⟩ = some (.int .i64 y.at') ∧ w'.cell? ⟨g, j * 3 + 2, none⟩ = some (.int .i64 y.op)) (go_keep) (fail)
      all_goals
        go_wp2
        go_ret
        refine ⟨rfl, ?_⟩
        exact (((Below.refl _ _).alloc (Nat.le_refl _) _).alloc (by simp) _).drew
end Go.Proofs.Ytknodkdlphngmaw
