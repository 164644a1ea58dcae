/- One entry: whether it is good, by the model and by the program. -/
import Derived.Test.YtmjehpigfkobeabDoorEntM
import Derived.Test.YtmjehpigfkobeabDoorOpW36
set_option linter.unusedVariables false
namespace Go.Proofs.YtmjehpigfkobeabDoor.Doc1
/-- A good entry. -/
def enG (e : En) : Prop := (0 ≤ e.cl ∧ e.cl ≤ 9) ∧ (1 ≤ e.sq ∧ e.sq ≤ 1000) ∧ goodO e.op = true
instance (e : En) : Decidable (enG e) := by unfold enG; infer_instance
end Go.Proofs.YtmjehpigfkobeabDoor.Doc1

namespace Go.Proofs.YtmjehpigfkobeabDoor
open Go.RowKit Go.Shelf
open Doc1

attribute [local go_sem] Oper.semAt_some

set_option maxRecDepth 100000 in
set_option maxHeartbeats 2000000 in
theorem l15Entry_any {w : World} {aw : Option Addr} {g cap : Nat} {l : List Pt} (x s : Int) (h : Pin w aw g cap l) :
    Calls Tryd.prog 24 #[.agg #[.int .i64 x, .int .i64 s, .slice aw l.length cap]] w fun e w' => e = .returned (.bool (decide (enG ⟨x, s, l⟩))) ∧ Below w.heap.size w w' := by
  have hb : Below w.heap.size w (w.alloc (.cells #[.int .i64 x, .int .i64 s, .slice aw l.length cap] 24)) := (Below.refl _ _).alloc (Nat.le_refl _) _
  have G := hide (goodOpS (h.later hb))
  have HB := hide hb
  have J := hide (fun n lo hi w => l1In_any n lo hi w)
  clear h hb
  obtain ⟨R, hR⟩ : ∃ R, R = decide (enG ⟨x, s, l⟩) := ⟨_, rfl⟩
  rw [← hR]
  have HR := hide hR
  clear hR
  by_cases h1 : 0 ≤ x ∧ x ≤ 9
  · have E1 : Hid (decide ((0 : Int) ≤ x ∧ x ≤ 9) = true) := hide (decide_eq_true h1)
    by_cases h2 : 1 ≤ s ∧ s ≤ 1000
    · have E2 : Hid (decide ((1 : Int) ≤ s ∧ s ≤ 1000) = true) := hide (decide_eq_true h2)
      have RR : Hid (R = goodO l) := hide (by
        rw [HR.out]
        cases hg : goodO l with
        | true => exact decide_eq_true ⟨h1, h2, hg⟩
        | false => exact decide_eq_false (fun c => by have := c.2.2; simp only at this; rw [hg] at this; cases this))
      rw [RR.out]
      clear HR RR h1 h2
      go_enter Tryd.func24, Tryd.ntmps24
      go_wp2_with (first | (go_at_call 55; refine (J.out _ _ _ _).mono ?_; rintro e w' ⟨rfl, hw⟩; replace hw := hw.symm; subst hw; first | rw [E1.out] | rw [E2.out]) | (go_at_call 54; refine G.out.mono ?_; rintro e w2 ⟨rfl, hb2⟩))
      go_ret
      exact ⟨rfl, HB.out.trans (hb2.mono HB.out.size)⟩
    · have E2 : Hid (decide ((1 : Int) ≤ s ∧ s ≤ 1000) = false) := hide (decide_eq_false h2)
      have RR : Hid (R = false) := hide (by rw [HR.out]; exact decide_eq_false (fun c => h2 c.2.1))
      rw [RR.out]
      clear HR RR h1 h2
      go_enter Tryd.func24, Tryd.ntmps24
      go_wp2_with (first | (go_at_call 55; refine (J.out _ _ _ _).mono ?_; rintro e w' ⟨rfl, hw⟩; replace hw := hw.symm; subst hw; first | rw [E1.out] | rw [E2.out]))
      go_ret
      exact ⟨rfl, HB.out⟩
  · have E1 : Hid (decide ((0 : Int) ≤ x ∧ x ≤ 9) = false) := hide (decide_eq_false h1)
    have RR : Hid (R = false) := hide (by rw [HR.out]; exact decide_eq_false (fun c => h1 c.1))
    rw [RR.out]
    clear HR RR h1
    go_enter Tryd.func24, Tryd.ntmps24
    go_wp2_with (first | (go_at_call 55; refine (J.out _ _ _ _).mono ?_; rintro e w' ⟨rfl, hw⟩; replace hw := hw.symm; subst hw; rw [E1.out]))
    go_ret
    exact ⟨rfl, HB.out⟩

set_option maxHeartbeats 2000000 in
theorem isClient_any (x : Int) (w : World) :
    Calls Tryd.prog 60 #[.int .i64 x] w fun e w' => e = .returned (.bool (decide (0 ≤ x ∧ x ≤ 9))) ∧ w' = w := by
  by_cases h1 : 0 ≤ x
  · by_cases h2 : x ≤ 9
    · rw [decide_eq_true ⟨h1, h2⟩]
      go_enter Tryd.func60, Tryd.ntmps60
      go_wp2
      go_ret
      exact ⟨rfl, rfl⟩
    · rw [decide_eq_false (fun c => h2 c.2)]
      go_enter Tryd.func60, Tryd.ntmps60
      go_wp2
      go_ret
      exact ⟨rfl, rfl⟩
  · rw [decide_eq_false (fun c => h1 c.1)]
    go_enter Tryd.func60, Tryd.ntmps60
    go_wp2
    go_ret
    exact ⟨rfl, rfl⟩

set_option maxRecDepth 100000 in
set_option maxHeartbeats 2000000 in
theorem isEntry_any {w : World} {aw : Option Addr} {g cap : Nat} {l : List Pt} (x s : Int) (h : Pin w aw g cap l) (hT : Tab w) :
    Calls Tryd.prog 29 #[.agg #[.int .i64 x, .int .i64 s, .slice aw l.length cap]] w fun e w' => e = .returned (.bool (decide (enG ⟨x, s, l⟩))) ∧ Below w.heap.size w w' := by
  have hb : Below w.heap.size w (w.alloc (.cells #[.int .i64 x, .int .i64 s, .slice aw l.length cap] 24)) := (Below.refl _ _).alloc (Nat.le_refl _) _
  have G := hide (goodOpI (h.later hb) (hT.below hb))
  have HB := hide hb
  have J := hide (fun w => isClient_any x w)
  clear h hb hT
  obtain ⟨R, hR⟩ : ∃ R, R = decide (enG ⟨x, s, l⟩) := ⟨_, rfl⟩
  rw [← hR]
  have HR := hide hR
  clear hR
  by_cases h1 : 0 ≤ x ∧ x ≤ 9
  · rw [decide_eq_true h1] at J
    by_cases h2 : 1 ≤ s
    · by_cases h3 : s ≤ 1000
      · have RR : Hid (R = goodO l) := hide (by
          rw [HR.out]
          cases hg : goodO l with
          | true => exact decide_eq_true ⟨h1, ⟨h2, h3⟩, hg⟩
          | false => exact decide_eq_false (fun c => by have := c.2.2; simp only at this; rw [hg] at this; cases this))
        rw [RR.out]
        clear HR RR h1
        go_enter Tryd.func29, Tryd.ntmps29
        go_wp2_with (first | (go_at_call 60; refine (J.out _).mono ?_; rintro e w' ⟨rfl, hw⟩; replace hw := hw.symm; subst hw) | (go_at_call 59; refine G.out.mono ?_; rintro e w2 ⟨rfl, hb2⟩))
        go_ret
        exact ⟨rfl, HB.out.trans (hb2.mono HB.out.size)⟩
      · have RR : Hid (R = false) := hide (by rw [HR.out]; exact decide_eq_false (fun c => h3 c.2.1.2))
        rw [RR.out]
        clear HR RR h1
        go_enter Tryd.func29, Tryd.ntmps29
        go_wp2_with (first | (go_at_call 60; refine (J.out _).mono ?_; rintro e w' ⟨rfl, hw⟩; replace hw := hw.symm; subst hw))
        go_ret
        exact ⟨rfl, HB.out⟩
    · have RR : Hid (R = false) := hide (by rw [HR.out]; exact decide_eq_false (fun c => h2 c.2.1.1))
      rw [RR.out]
      clear HR RR h1
      go_enter Tryd.func29, Tryd.ntmps29
      go_wp2_with (first | (go_at_call 60; refine (J.out _).mono ?_; rintro e w' ⟨rfl, hw⟩; replace hw := hw.symm; subst hw))
      go_ret
      exact ⟨rfl, HB.out⟩
  · rw [decide_eq_false h1] at J
    have RR : Hid (R = false) := hide (by rw [HR.out]; exact decide_eq_false (fun c => h1 c.1))
    rw [RR.out]
    clear HR RR h1
    go_enter Tryd.func29, Tryd.ntmps29
    go_wp2_with (first | (go_at_call 60; refine (J.out _).mono ?_; rintro e w' ⟨rfl, hw⟩; replace hw := hw.symm; subst hw))
    go_ret
    exact ⟨rfl, HB.out⟩

end Go.Proofs.YtmjehpigfkobeabDoor
