/- The text in common is within both, and it is the least one of those that are longest; so it is the same whichever text is named first. -/
import Derived.Test.YtojlnnlcbpjdlaaDoorCom1
import Derived.Test.YtojlnnlcbpjdlaaDoorWit1
set_option linter.unusedVariables false
namespace Go.Proofs.YtojlnnlcbpjdlaaDoor
open Go

/-- No greater, byte by byte. -/
def lexLe : List UInt8 → List UInt8 → Prop
  | [], _ => True
  | _ :: _, [] => False
  | a :: l, b :: m => a.toNat < b.toNat ∨ (a = b ∧ lexLe l m)
theorem lex_anti : ∀ {l m : List UInt8}, lexLe l m → lexLe m l → l = m
  | [], [], _, _ => rfl
  | [], _ :: _, _, h => by simp [lexLe] at h
  | _ :: _, [], h, _ => by simp [lexLe] at h
  | a :: l, b :: m, h1, h2 => by
    simp only [lexLe] at h1 h2
    rcases h1 with h1 | ⟨e1, h1⟩
    · rcases h2 with h2 | ⟨e2, h2⟩
      · omega
      · subst e2; omega
    · subst e1
      rcases h2 with h2 | ⟨_, h2⟩
      · omega
      · rw [lex_anti h1 h2]
theorem sub_first {m : UInt8} {M : List UInt8} : ∀ {l : List UInt8}, (m :: M).Sublist l → ∃ y, fp l m = some y ∧ M.Sublist (l.drop (y + 1))
  | [], h => by cases h
  | b :: l, h => by
    by_cases he : b = m
    · refine ⟨0, by simp [fp, he], ?_⟩
      subst he
      simpa using List.Sublist.of_cons_cons h
    · have h' : (m :: M).Sublist l := by
        cases h with
        | cons _ h => exact h
        | cons_cons _ h => exact absurd rfl he
      obtain ⟨y, h1, h2⟩ := sub_first h'
      exact ⟨y + 1, by simp [fp, he, h1], by simpa using h2⟩
theorem lc_sub {s : List UInt8} : ∀ {a b : List UInt8}, s.Sublist a → s.Sublist b → s.length ≤ lc a b := by
  induction s with
  | nil => intro a b _ _; simp
  | cons c s ih =>
    intro a b ha hb
    obtain ⟨x, h1, h2⟩ := sub_first ha
    obtain ⟨y, h3, h4⟩ := sub_first hb
    have := lc_met (fp_some h1).1 (fp_some h3).1
    have := ih h2 h4
    simp only [List.length_cons]
    omega
theorem nxt_least {A B : List UInt8} {i k n : Nat} {p : Nat × Nat} (h : nxt A B i k n = some p) : ∀ j y, j < n → cnd A B i k (i + j) = some y → (A.getD p.1 0).toNat < (A.getD (i + j) 0).toNat ∨ ((A.getD p.1 0).toNat = (A.getD (i + j) 0).toNat ∧ p.1 ≤ i + j) := by
  induction n generalizing p with
  | zero => cases h
  | succ n ih =>
    unfold nxt at h
    intro j y hj hc
    cases hq : nxt A B i k n with
    | none =>
      rw [hq] at h
      simp only at h
      by_cases he : j = n
      · subst he
        rw [hc] at h
        cases h
        exact .inr ⟨rfl, Nat.le_refl _⟩
      · have := nxt_none hq j (by omega)
        rw [this] at hc
        cases hc
    | some p0 =>
      rw [hq] at h
      simp only at h
      have hp0 := (nxt_is hq).2.1
      split at h
      · rename_i hle
        cases h
        by_cases he : j = n
        · subst he
          by_cases hlt : (A.getD p.1 0).toNat < (A.getD (i + j) 0).toNat
          · exact .inl hlt
          · exact .inr ⟨by omega, by omega⟩
        · exact ih hq j y (by omega) hc
      · rename_i hle
        cases hcn : cnd A B i k (i + n) with
        | none =>
          rw [hcn] at h
          cases h
          by_cases he : j = n
          · subst he; rw [hcn] at hc; cases hc
          · exact ih hq j y (by omega) hc
        | some y0 =>
          rw [hcn] at h
          cases h
          by_cases he : j = n
          · subst he; exact .inr ⟨rfl, Nat.le_refl _⟩
          · have := ih hq j y (by omega) hc
            left
            simp only
            omega
theorem getD_some {A : List UInt8} {x : Nat} {c : UInt8} (h : A[x]? = some c) : A.getD x 0 = c := by rw [List.getD_eq_getElem?_getD, h]; rfl
theorem sub_from {A : List UInt8} {i x : Nat} {c : UInt8} {L : List UInt8} (h : A[x]? = some c) (hi : i ≤ x) (hL : L.Sublist (A.drop (x + 1))) : (c :: L).Sublist (A.drop i) := by
  obtain ⟨hx, e⟩ := List.getElem?_eq_some_iff.1 h
  have h1 : A.drop x = c :: A.drop (x + 1) := by rw [List.drop_eq_getElem_cons hx, e]
  have h2 : (A.drop x).Sublist (A.drop i) := by
    have : A.drop x = (A.drop i).drop (x - i) := by rw [List.drop_drop, show i + (x - i) = x by omega]
    rw [this]
    exact List.drop_sublist _ _
  exact (by rw [h1]; exact List.Sublist.cons_cons c hL : (c :: L).Sublist (A.drop x)).trans h2
theorem cmn_sub {A B : List UInt8} {i k : Nat} {L : List UInt8} (h : Cmn A B i k L) : L.Sublist (A.drop i) ∧ L.Sublist (B.drop k) := by
  induction h with
  | stop _ => exact ⟨List.nil_sublist _, List.nil_sublist _⟩
  | @more i k p L h _ ih =>
    have h1 := nxt_is h
    obtain ⟨hx, hk, hy, ⟨c, hA, hB⟩, _⟩ := cnd_is h1.2.2
    rw [getD_some hA]
    exact ⟨sub_from hA h1.1 ih.1, sub_from hB hk ih.2⟩
theorem cmn_least {A B : List UInt8} {i k : Nat} {L : List UInt8} (h : Cmn A B i k L) : ∀ M : List UInt8, M.Sublist (A.drop i) → M.Sublist (B.drop k) → M.length = lc (A.drop i) (B.drop k) → lexLe L M := by
  induction h with
  | stop _ => intro M _ _ _; simp [lexLe]
  | @more i k p L h hL ih =>
    intro M ha hb hm
    have h1 := nxt_is h
    obtain ⟨hx, hk, hy, ⟨c, hA, hB⟩, hlc⟩ := cnd_is h1.2.2
    cases M with
    | nil => simp only [List.length_nil] at hm; omega
    | cons m M =>
      obtain ⟨x', e1, s1⟩ := sub_first ha
      obtain ⟨y', e2, s2⟩ := sub_first hb
      have hAx : A[i + x']? = some m := by rw [← List.getElem?_drop]; exact (fp_some e1).1
      rw [List.drop_drop] at s1 s2
      have hlt : i + x' < A.length := (List.getElem?_eq_some_iff.1 hAx).1
      have hc : cnd A B i k (i + x') = some (k + y') := by
        rw [cnd_yes hAx e2, if_pos]
        have u1 := lc_met (fp_some e1).1 (fp_some e2).1
        rw [List.drop_drop, List.drop_drop, ← Nat.add_assoc, ← Nat.add_assoc] at u1
        have u2 := lc_sub s1 s2
        rw [← Nat.add_assoc, ← Nat.add_assoc] at u2
        simp only [List.length_cons] at hm
        omega
      have hmin := nxt_least h x' (k + y') (by omega) hc
      rw [getD_some hAx, getD_some hA] at hmin
      rw [getD_some hA]
      simp only [lexLe]
      rcases hmin with hlt2 | ⟨heq, hpos⟩
      · exact .inl hlt2
      · have hcm : c = m := UInt8.toNat_inj.1 heq
        subst hcm
        refine .inr ⟨rfl, ih M ?_ ?_ ?_⟩
        · refine s1.trans ?_
          have : A.drop (i + (x' + 1)) = (A.drop (p.1 + 1)).drop (i + x' - p.1) := by rw [List.drop_drop, show p.1 + 1 + (i + x' - p.1) = i + (x' + 1) by omega]
          rw [this]
          exact List.drop_sublist _ _
        · have hcp := cnd_yes (i := i) hA e2
          rw [h1.2.2] at hcp
          split at hcp
          · rw [Option.some.inj hcp, Nat.add_assoc]; exact s2
          · cases hcp
        · simp only [List.length_cons] at hm
          omega
/-- The same text, whichever of both is named first. -/
theorem cmn_same {A B : List UInt8} {L M : List UInt8} (h1 : Cmn A B 0 0 L) (h2 : Cmn B A 0 0 M) : L = M := by
  have s1 := cmn_sub h1
  have s2 := cmn_sub h2
  have l1 := cmn_len h1
  have l2 := cmn_len h2
  simp only [List.drop_zero] at s1 s2 l1 l2
  exact lex_anti (cmn_least h1 M (by simpa using s2.2) (by simpa using s2.1) (by simp only [List.drop_zero]; rw [l2, lc_sym])) (cmn_least h2 L (by simpa using s1.2) (by simpa using s1.1) (by simp only [List.drop_zero]; rw [l1, lc_sym]))
theorem met_sub (L : List UInt8) : ∀ (b : List UInt8) (m : Nat), m ≤ L.length → (L.drop m).Sublist b → met L b m = L.length
  | [], m, hm, h => by
    have := h.length_le
    rw [List.length_drop, List.length_nil] at this
    rw [met]; omega
  | y :: b, m, hm, h => by
    rw [met]
    by_cases he : L[m]? = some y
    · rw [if_pos he]
      obtain ⟨hlt, e⟩ := List.getElem?_eq_some_iff.1 he
      rw [List.drop_eq_getElem_cons hlt, e] at h
      exact met_sub L b (m + 1) (by omega) (List.Sublist.of_cons_cons h)
    · rw [if_neg he]
      refine met_sub L b m hm ?_
      obtain ⟨D, hD⟩ : ∃ D, L.drop m = D := ⟨_, rfl⟩
      rw [hD] at h ⊢
      cases h with
      | cons _ h => exact h
      | cons_cons _ h' =>
        exfalso
        apply he
        have : (L.drop m)[0]? = some y := by rw [hD]; rfl
        simpa using this
theorem wit_sub {L b : List UInt8} (h : L.Sublist b) : wit L b = true := by
  unfold wit
  exact decide_eq_true (met_sub L b 0 (Nat.zero_le _) (by simpa using h))
end Go.Proofs.YtojlnnlcbpjdlaaDoor
