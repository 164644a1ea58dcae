/- A law of scopes with several labels: what holds at each jump, and a measure that each pass lowers. -/
import Derived.Scope
namespace Go.Proofs.YtmjehpigfkobeabDoor
open Go

def Jumps (J : Nat → Act → World → Prop) (Q : Exit → Act → World → Prop) : Exit → Act → World → Prop
  | .goto l, a, w => J l a w
  | e, a, w => Q e a w

section
variable {P : Program} {Q : Exit → Act → World → Prop} {c : Code} {b : Frame} {k : List Item} {cs : List Frame}

/-- What leaves a scope's inside, and is no jump, leaves the scope. -/
theorem scope_left {m : Machine} {e : Exit} {a : Act} {w : World} (no : ∀ l, e ≠ .goto l) (there : Arrives P m b (.inScope c :: k) cs e a w) : Arrives P m b k cs e a w := by
  match e, no, there with
  | .normal, _, s => exact Steps.trans s (Steps.one step_inScope)
  | .exit _, _, s => exact fun q hq => s q (by simpa [exitTo] using hq)
  | .goto l, no, _ => exact absurd rfl (no l)
  | .ret, _, s => exact s
  | .panic _, _, s => exact s
  | .outgrown, _, s => exact s

/-- With fewer than 'n' jumps to go a scope is left. -/
theorem scope_ends {J : Nat → Act → World → Prop} {μ : Nat → Act → World → Nat}
    (pass : ∀ l a w, J l a w → ∃ rest, findLabel c l = some rest ∧ rest.wp P (Jumps (fun l' a' w' => J l' a' w' ∧ μ l' a' w' < μ l a w) Q) a w) (n : Nat) :
    ∀ (m : Machine) (e : Exit) (a : Act) (w : World), Jumps (fun l a w => J l a w ∧ μ l a w < n) Q e a w → Arrives P m b (.inScope c :: k) cs e a w →
      ∃ x : Exit × Act × World, Q x.1 x.2.1 x.2.2 ∧ Arrives P m b k cs x.1 x.2.1 x.2.2 := by
  induction n with
  | zero =>
    intro m e a w met there
    by_cases hg : ∃ l, e = .goto l
    · obtain ⟨l, rfl⟩ := hg
      exact absurd met.2 (Nat.not_lt_zero _)
    · refine ⟨(e, a, w), ?_, scope_left (fun l hl => hg ⟨l, hl⟩) there⟩
      cases e <;> first | exact met | exact (hg ⟨_, rfl⟩).elim
  | succ n more =>
    intro m e a w met there
    by_cases hg : ∃ l, e = .goto l
    · obtain ⟨l, rfl⟩ := hg
      obtain ⟨rest, found, run⟩ := pass l a w met.1
      obtain ⟨e₂, a₂, w₂, met₂, there₂⟩ := run b (.inScope c :: k) cs
      refine more m e₂ a₂ w₂ ?_ (Arrives.of_steps (there _ (by simp [gotoIn, found])) there₂)
      have low := met.2
      cases e₂ with
      | goto l₂ => exact ⟨met₂.1, by have := met₂.2; omega⟩
      | _ => exact met₂
    · refine ⟨(e, a, w), ?_, scope_left (fun l hl => hg ⟨l, hl⟩) there⟩
      cases e <;> first | exact met | exact (hg ⟨_, rfl⟩).elim

theorem wp_scope_labels {a : Act} {w : World} (J : Nat → Act → World → Prop) (μ : Nat → Act → World → Nat)
    (first : c.wp P (Jumps J Q) a w)
    (pass : ∀ l a w, J l a w → ∃ rest, findLabel c l = some rest ∧ rest.wp P (Jumps (fun l' a' w' => J l' a' w' ∧ μ l' a' w' < μ l a w) Q) a w) : (Code.scope c).wp P Q a w := by
  intro b k cs
  obtain ⟨e₁, a₁, w₁, met, there⟩ := first b (.inScope c :: k) cs
  have met' : ∃ n, Jumps (fun l a w => J l a w ∧ μ l a w < n) Q e₁ a₁ w₁ := by
    cases e₁ with
    | goto l => exact ⟨μ l a₁ w₁ + 1, met, Nat.lt_succ_self _⟩
    | _ => exact ⟨0, met⟩
  obtain ⟨n, hn⟩ := met'
  obtain ⟨x, hx, out⟩ := scope_ends pass n _ e₁ a₁ w₁ hn there
  exact ⟨x.1, x.2.1, x.2.2, hx, Arrives.of_steps (Steps.one step_scope) out⟩
end
end Go.Proofs.YtmjehpigfkobeabDoor
