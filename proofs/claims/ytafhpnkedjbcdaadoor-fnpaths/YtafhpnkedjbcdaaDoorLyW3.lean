/- The contracts of the layout's endsPlain and write. -/
import Derived.Test.YtafhpnkedjbcdaaDoorLyW2
import Derived.Deep.QuietTactic
import Derived.BigQuiet
namespace Go.Proofs.YtafhpnkedjbcdaaDoor
open Go.RowKit
open Doc1

theorem endsPl_cases (t : List UInt8) : (t = [] ∧ endsPl t = false) ∨ ∃ a c, t = a ++ [c] ∧ endsPl t = plB c := by
  cases h : t.getLast? with
  | none => left; have := List.getLast?_eq_none_iff.1 h; subst this; exact ⟨rfl, rfl⟩
  | some c =>
    right
    obtain ⟨a, ha⟩ := List.getLast?_eq_some_iff.1 h
    exact ⟨a, c, ha, by rw [ha, endsPl_snoc]⟩

set_option maxRecDepth 100000 in
set_option maxHeartbeats 4000000 in
theorem endsPlain_any (B g : Nat) (V : Nat → Value) (z : LS) (w : World) (h : Ly B g V z w) (hl : z.text.length ≤ 4000000) (hT : Tab w) :
    Calls Tryd.prog 134 #[.pointer (some ⟨g, 0, none⟩)] w fun e w' => e = .returned (.bool (endsPl z.text)) ∧ Below w.heap.size w w' := by
  have k0 := h.c 0 (by omega)
  have own0 := h.own 0 (by omega)
  rw [X0, byt_len] at own0
  rcases endsPl_cases z.text with ⟨ht, he⟩ | ⟨a, c, ht, he⟩
  · rw [he]
    obtain ⟨av, cv, hV0, hq1, hq2⟩ := h.shape 0 (by omega)
    rw [hV0, X0, byt_len, ht] at k0
    clear h own0 ht he
    go_enter Tryd.func134, Tryd.ntmps134
    go_wp2
    go_quiet (fail)
    go_wp2
    go_ret
    exact ⟨rfl, (Below.refl _ _).trans ⟨rfl, rfl, rfl, Nat.le_refl _, fun _ _ => rfl⟩⟩
  · rw [he, ← kd_pl]
    rw [ht] at own0
    obtain ⟨b, cv, hV0, hq1, hq2, hq3, hq4, hq5⟩ := own_open own0 (by simp)
    have e0 : w.cell? ⟨b, a.length, none⟩ = some (.int .u8 (c.toNat : Int)) := hq5 a.length _ (by simp [byt])
    rw [hV0] at k0
    simp only [List.length_append, List.length_singleton] at k0 hq1
    have hal : a.length ≤ 4000000 := by rw [ht] at hl; simp at hl; omega
    have i0 : (0 : Int) ≤ (a.length : Int) := by omega
    have i1 : (a.length : Int) < ((a.length + 1 : Nat) : Int) := by omega
    have iw1 : IntKind.i64.wrap ((a.length : Int) + 1 - 1) = (a.length : Int) := by rw [IntKind.wrap_i64] <;> omega
    have iw2 : IntKind.i64.wrap (((a.length + 1 : Nat) : Int) - 1) = (a.length : Int) := by rw [IntKind.wrap_i64] <;> omega
    have iw3 : IntKind.i64.wrap (a.length : Int) = (a.length : Int) := by rw [IntKind.wrap_i64] <;> omega
    have i2 : (a.length : Int) < (a.length : Int) + 1 := by omega
    have hTd : Tab w.drew := hT
    clear h own0 ht he hq5
    go_enter Tryd.func134, Tryd.ntmps134
    go_wp2
    go_region_held3 (fun w' => w'.cell? ⟨g, 0, none⟩ = some (.slice (some ⟨b, 0, none⟩) (a.length + 1) cv) ∧ w'.cell? ⟨b, a.length, none⟩ = some (.int .u8 (c.toNat : Int)))
      (first | go_keep)
      ((go_at_call 59; refine (kindOf_any c _ hTd).mono ?_; rintro e w' ⟨rfl, hw⟩; replace hw := hw.symm; subst hw))
    all_goals
      go_wp2
      go_ret
      exact ⟨rfl, (Below.refl _ _).trans ⟨rfl, rfl, rfl, Nat.le_refl _, fun _ _ => rfl⟩⟩
end Go.Proofs.YtafhpnkedjbcdaaDoor
