/- The plain mathematics of chapter 1, on: where an element ends and where it begins. -/
import Derived.Test.YtmjehpigfkobeabDoorPlain
namespace Go.Proofs.YtmjehpigfkobeabDoor.Doc1

theorem dps_at (s : ByteArray) : ∀ k, k ≤ s.size → (dps s.data.toList 0).drop k = dps (s.data.toList.drop k) (dep s.data.toList k)
  | 0, _ => by
    have h : (dps s.data.toList 0).drop 0 = dps (s.data.toList.drop 0) 0 := rfl
    rw [dep_of _ _ _ h]; exact h
  | k + 1, hk => by
    have ih := dps_at s k (by omega)
    have h := dps_drop_step s k (by omega) _ ih
    rw [dep_of _ _ _ h]; exact h
theorem dep_zero (s : ByteArray) : dep s.data.toList 0 = 0 := dep_of _ _ _ rfl
theorem dep_succ (s : ByteArray) (k : Nat) (h : k < s.size) : dep s.data.toList (k + 1) = dep s.data.toList k + dl s[k] :=
  dep_of _ _ _ (dps_drop_step s k h _ (dps_at s k (by omega)))
theorem rn_at (s : ByteArray) (hd : rn s.data.toList 0 = true) : ∀ k, k ≤ s.size → rn (s.data.toList.drop k) (dep s.data.toList k) = true ∧ 0 ≤ dep s.data.toList k ∧ dep s.data.toList k ≤ 12
  | 0, _ => by rw [dep_zero]; exact ⟨hd, by omega, by omega⟩
  | k + 1, hk => by
    obtain ⟨h1, h2, h3⟩ := rn_at s hd k (by omega)
    rw [rn_step s k (by omega)] at h1
    rw [dep_succ s k (by omega)]
    simp only [Bool.and_eq_true, decide_eq_true_eq] at h1
    exact ⟨h1.2, h1.1.1, h1.1.2⟩
theorem rn_of_doc {l : List UInt8} (h : doc l = true) : rn l 0 = true := by unfold doc at h; simp at h; exact h.2
theorem dep_bd (s : ByteArray) (hd : doc s.data.toList = true) (k : Nat) (hk : k ≤ s.size) : 0 ≤ dep s.data.toList k ∧ dep s.data.toList k ≤ 12 := (rn_at s (rn_of_doc hd) k hk).2
theorem dep_last (s : ByteArray) (hd : doc s.data.toList = true) : dep s.data.toList s.size = 0 := by
  have h := (rn_at s (rn_of_doc hd) s.size (Nat.le_refl _)).1
  rw [drop_end s s.size (Nat.le_refl _)] at h
  simpa [rn] using h
theorem dl_bd (c : UInt8) : -1 ≤ dl c ∧ dl c ≤ 1 := by unfold dl; split <;> (try split) <;> omega

/-- The element that begins at a ends at K. -/
structure IsEnd (s : ByteArray) (a K : Nat) : Prop where
  lo : a < K
  hi : K < s.size
  at_ : dep s.data.toList (K + 1) = dep s.data.toList a
  no : ∀ j, a ≤ j → j < K → dep s.data.toList (j + 1) ≠ dep s.data.toList a
/-- The element that ends at a begins at K. -/
structure IsBegin (s : ByteArray) (a K : Nat) : Prop where
  lo : K < a
  hi : a < s.size
  at_ : dep s.data.toList K = dep s.data.toList (a + 1)
  no : ∀ j, K < j → j ≤ a → dep s.data.toList j ≠ dep s.data.toList (a + 1)

theorem least {P : Nat → Prop} (hP : ∃ n, P n) : ∃ n, P n ∧ ∀ m, m < n → ¬ P m := by
  obtain ⟨n, hn⟩ := hP
  induction n using Nat.strongRecOn with
  | _ n ih =>
    by_cases h : ∃ m, m < n ∧ P m
    · obtain ⟨m, hm, hp⟩ := h
      exact ih m hm hp
    · exact ⟨n, hn, fun m hm hp => h ⟨m, hm, hp⟩⟩

theorem end_ex (s : ByteArray) (hd : doc s.data.toList = true) (a : Nat) (ha : a < s.size) (ho : dl s[a] = 1) : ∃ K, IsEnd s a K := by
  have hex : ∃ j, a ≤ j ∧ j < s.size ∧ dep s.data.toList (j + 1) = dep s.data.toList a := by
    apply Classical.byContradiction
    intro hno
    have key : ∀ j, a ≤ j → j < s.size → dep s.data.toList a < dep s.data.toList (j + 1) := by
      intro j
      induction j with
      | zero =>
        intro h1 h2
        obtain rfl : a = 0 := by omega
        rw [dep_succ s 0 h2, ho]; omega
      | succ j ih =>
        intro h1 h2
        by_cases e : a = j + 1
        · subst e; rw [dep_succ s (j + 1) h2, ho]; omega
        · have i1 := ih (by omega) (by omega)
          have i2 := dep_succ s (j + 1) h2
          have i3 := (dl_bd s[j + 1]).1
          have i4 : dep s.data.toList (j + 1 + 1) ≠ dep s.data.toList a := fun he => hno ⟨j + 1, h1, h2, he⟩
          omega
    have := key (s.size - 1) (by omega) (by omega)
    rw [show s.size - 1 + 1 = s.size by omega, dep_last s hd] at this
    have := (dep_bd s hd a (by omega)).1
    omega
  obtain ⟨K, ⟨h1, h2, h3⟩, hmin⟩ := least hex
  have hne : a ≠ K := by
    intro e; subst e
    rw [dep_succ s a h2, ho] at h3; omega
  exact ⟨K, by omega, h2, h3, fun j hj1 hj2 he => hmin j hj2 ⟨hj1, by omega, he⟩⟩

theorem begin_ex (s : ByteArray) (hd : doc s.data.toList = true) (a : Nat) (ha : a < s.size) (ho : dl s[a] = -1) : ∃ K, IsBegin s a K := by
  have hs := dep_succ s a ha
  rw [ho] at hs
  have hex : ∃ j, j ≤ a ∧ dep s.data.toList (a - j) = dep s.data.toList (a + 1) := by
    apply Classical.byContradiction
    intro hno
    have key : ∀ j, j ≤ a → dep s.data.toList (a + 1) < dep s.data.toList (a - j) := by
      intro j
      induction j with
      | zero => intro _; simp only [Nat.sub_zero]; omega
      | succ j ih =>
        intro h1
        have i1 := ih (by omega)
        have i2 := dep_succ s (a - (j + 1)) (by omega)
        rw [show a - (j + 1) + 1 = a - j by omega] at i2
        have i3 := (dl_bd (s[a - (j + 1)]'(by omega))).2
        have i4 : dep s.data.toList (a - (j + 1)) ≠ dep s.data.toList (a + 1) := fun he => hno ⟨j + 1, h1, he⟩
        omega
    have h := key a (Nat.le_refl _)
    rw [Nat.sub_self, dep_zero] at h
    have := (dep_bd s hd (a + 1) (by omega)).1
    omega
  obtain ⟨j, ⟨h1, h2⟩, hmin⟩ := least hex
  have hne : j ≠ 0 := by
    intro e; subst e
    simp only [Nat.sub_zero] at h2; omega
  refine ⟨a - j, by omega, ha, h2, fun i hi1 hi2 he => hmin (a - i) (by omega) ⟨by omega, ?_⟩⟩
  rw [show a - (a - i) = i by omega]; exact he
end Go.Proofs.YtmjehpigfkobeabDoor.Doc1
