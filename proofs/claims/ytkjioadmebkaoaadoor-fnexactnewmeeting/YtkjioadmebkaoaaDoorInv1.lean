/- The plain mathematics of changes turned round: turned round twice a change is normal, and what is done is undone. -/
import Derived.Test.YtkjioadmebkaoaaDoorCompM
import Derived.Test.YtkjioadmebkaoaaDoorMoveSZ
import Derived.Test.YtkjioadmebkaoaaDoorOpW78
namespace Go.Proofs.YtkjioadmebkaoaaDoor
open Doc1

theorem flip_k (x : St) (h : sk x) : (x.k = 2 → (flip x).k = 3) ∧ (x.k = 3 → (flip x).k = 2) ∧ flip (flip x) = x := by
  obtain ⟨k, c⟩ := x
  rcases h with h | h | h <;> (simp only at h; subst h) <;> simp [flip]
/-- Steps whose puts and drops beside one another have changed places gather alike. -/
theorem eqv_at {p d : St} (hp : p.k = 2) (hd : d.k = 3) (a b : List St) (G : Gs) : gath G (a ++ p :: d :: b) = gath G (a ++ d :: p :: b) := by
  rw [gath_app, gath_app]
  exact eqv_swap hp hd b _
theorem swE_flip {a b : List St} (h : SwE a b) (G : Gs) : gath G (a.map flip) = gath G (b.map flip) := by
  induction h with
  | refl => rfl
  | swap a b hp hd =>
    rw [List.map_append, List.map_append, List.map_cons, List.map_cons, List.map_cons, List.map_cons]
    exact (eqv_at ((flip_k _ (.inr (.inr hd))).2.1 hd) ((flip_k _ (.inr (.inl hp))).1 hp) _ _ G).symm
  | trans _ _ i1 i2 => exact i1.trans i2
theorem flip_flip {l : List St} (h : ∀ x ∈ l, sk x) : (l.map flip).map flip = l := by
  induction l with
  | nil => rfl
  | cons x l ih => rw [List.map_cons, List.map_cons, (flip_k x (h x (by simp))).2.2, ih (fun y hy => h y (by simp [hy]))]
theorem good_invO {l : List Pt} (h : goodO l = true) : goodO (invO l) = true ∧ tkL (invO l) = mkL l ∧ mkL (invO l) = tkL l := by
  unfold invO
  rw [if_pos h]
  obtain ⟨h1, h2, h3⟩ := norm_goodO (goodO_inv h)
  exact ⟨h1, h2.trans (sums_inv l).1, h3.trans (sums_inv l).2⟩
/-- Turned round twice a change is itself, normal. -/
theorem inv_inv {l : List Pt} (h : goodO l = true) : invO (invO l) = norO l := by
  have hg := (good_invO h).1
  have hp := goodO_pk h
  have hi := inv_pk hp
  have hx := goodO_pk hg
  have e : invO l = normL (l.map invP) := by unfold invO; rw [if_pos h]
  unfold norO
  rw [if_pos h, show invO (invO l) = normL ((invO l).map invP) by rw [invO, if_pos hg], norm_gath _ (inv_pk hx), norm_gath _ hp, stL_inv _ hx, e, swE_flip (norm_sw hi), stL_inv l hp, flip_flip (fun x hx => (stL_so hp x hx).1)]
/-- What is made goes back: what was taken comes again. -/
theorem ap_back : ∀ (L : List St), (∀ x ∈ L, sk x) → ∀ (r o r' o' : List UInt8), apTL L (r, o) = some (r', o') → ∃ A T, r = A ++ r' ∧ o' = o ++ T ∧ ∀ z o2, apTL (L.map flip) (T ++ z, o2) = some (z, o2 ++ A)
  | [], _, r, o, r', o', h => by
    obtain ⟨rfl, rfl⟩ : r = r' ∧ o = o' := by simpa [apTL] using h
    exact ⟨[], [], rfl, by simp, fun z o2 => by simp [apTL]⟩
  | ⟨k, c⟩ :: L, hk, r, o, r', o', h => by
    have ih := ap_back L (fun x hx => hk x (by simp [hx]))
    rw [apTL_cons] at h
    have hs := hk ⟨k, c⟩ (by simp)
    rcases hs with e | e | e <;> (simp only at e; subst e)
    · cases r with
      | nil => simp [apT] at h
      | cons b r =>
        have h' : apTL L (r, o ++ [b]) = some (r', o') := by simpa [apT] using h
        obtain ⟨A, T, rfl, rfl, hz⟩ := ih _ _ _ _ h'
        refine ⟨b :: A, b :: T, rfl, by simp, fun z o2 => ?_⟩
        rw [List.map_cons, apTL_cons]
        have := hz z (o2 ++ [b])
        simpa [apT, flip] using this
    · have h' : apTL L (r, o ++ [c]) = some (r', o') := by simpa [apT] using h
      obtain ⟨A, T, rfl, rfl, hz⟩ := ih _ _ _ _ h'
      refine ⟨A, c :: T, rfl, by simp, fun z o2 => ?_⟩
      rw [List.map_cons, apTL_cons]
      have := hz z o2
      simpa [apT, flip] using this
    · cases r with
      | nil => simp [apT] at h
      | cons b r =>
        by_cases hb : b = c
        · subst hb
          have h' : apTL L (r, o) = some (r', o') := by simpa [apT] using h
          obtain ⟨A, T, rfl, rfl, hz⟩ := ih _ _ _ _ h'
          refine ⟨b :: A, T, rfl, rfl, fun z o2 => ?_⟩
          rw [List.map_cons, apTL_cons]
          have := hz z (o2 ++ [b])
          simpa [apT, flip] using this
        · simp [apT, hb] at h
/-- What is made is of good bytes. -/
theorem ap_ok : ∀ (L : List St), (∀ x ∈ L, so x) → ∀ (r o r' o' : List UInt8), apTL L (r, o) = some (r', o') → allOk r = true → allOk o = true → allOk o' = true
  | [], _, r, o, r', o', h, _, ho => by
    obtain ⟨rfl, rfl⟩ : r = r' ∧ o = o' := by simpa [apTL] using h
    exact ho
  | ⟨k, c⟩ :: L, hk, r, o, r', o', h, hr, ho => by
    have ih := ap_ok L (fun x hx => hk x (by simp [hx]))
    rw [apTL_cons] at h
    obtain ⟨hs, hc⟩ := hk ⟨k, c⟩ (by simp)
    rcases hs with e | e | e <;> (simp only at e; subst e)
    · cases r with
      | nil => simp [apT] at h
      | cons b r =>
        have h' : apTL L (r, o ++ [b]) = some (r', o') := by simpa [apT] using h
        simp only [allOk, List.all_cons, Bool.and_eq_true] at hr
        exact ih _ _ _ _ h' hr.2 (by simp only [allOk] at ho ⊢; rw [List.all_append, ho]; simp [hr.1])
    · have h' : apTL L (r, o ++ [c]) = some (r', o') := by simpa [apT] using h
      have hc' : okC c = true := hc (fun e => by cases e)
      exact ih _ _ _ _ h' hr (by simp only [allOk] at ho ⊢; rw [List.all_append, ho]; simp [hc'])
    · cases r with
      | nil => simp [apT] at h
      | cons b r =>
        by_cases hb : b = c
        · subst hb
          have h' : apTL L (r, o) = some (r', o') := by simpa [apT] using h
          simp only [allOk, List.all_cons, Bool.and_eq_true] at hr
          exact ih _ _ _ _ h' hr.2 ho
        · simp [apT, hb] at h
/-- Applying as a fold over what may be none. -/
def apF (s : Option (List UInt8 × List UInt8)) (x : St) : Option (List UInt8 × List UInt8) := s.bind (fun y => apT y x)
theorem apF_fold : ∀ (L : List St) (s : Option (List UInt8 × List UInt8)), L.foldl apF s = s.bind (apTL L)
  | [], s => by cases s <;> rfl
  | x :: L, s => by
    rw [List.foldl_cons, apF_fold L]
    cases s with
    | none => rfl
    | some y => rw [Option.bind_some, apTL_cons]; rfl
theorem ap_norm {l : List Pt} (hp : ∀ p ∈ l, pk p ≠ 0) (y : List UInt8 × List UInt8) : apTL (stL (normL l)) y = apTL (stL l) y := by
  have h := norm_fold (f := apF) (fun s c d => ?_) (fun s c => ?_) hp (some y)
  · unfold foldP at h
    rw [apF_fold, apF_fold] at h
    exact h
  · cases s with
    | none => rfl
    | some y =>
      obtain ⟨r, o⟩ := y
      cases r with
      | nil => simp [apF, apT]
      | cons b r =>
        by_cases hb : b = d
        · simp [apF, apT, hb]
        · simp [apF, apT, hb]
  · cases s with
    | none => rfl
    | some y => rfl
/-- What applying tells, in steps. -/
theorem apl_yes {l : List Pt} {s : ByteArray} (h : (aplO l s).2 = true) : goodO l = true ∧ good s.data.toList = true ∧ (s.size : Int) = tkL l ∧ apTL (stL l) (s.data.toList, []) = some ([], (aplO l s).1.data.toList) := by
  by_cases hg : goodO l = true ∧ good s.data.toList = true
  · obtain ⟨hg, hs⟩ := hg
    obtain ⟨a1, a2, a3⟩ := aplO_steps hg hs
    by_cases hsz : (s.size : Int) = tkL l
    · cases hap : apTL (stL l) (s.data.toList, []) with
      | none => rw [a2 hap] at h; cases h
      | some y =>
        obtain ⟨r, o⟩ := y
        have hp := goodO_pk hg
        obtain ⟨e1, e2, -⟩ := apTL_left _ _ _ _ (fun q hq => (stL_so hp q hq).1) hap
        have hc := (stL_sums l hp).1
        have e3 := sz_list s
        have : r = [] := by
          simp only at e1
          rw [e1]
          apply List.drop_eq_nil_of_le
          omega
        subst this
        rw [a1 o hsz hap]
        exact ⟨hg, hs, hsz, by rw [ba_list]⟩
    · rw [a3 hsz] at h; cases h
  · exfalso
    unfold aplO at h
    rw [if_neg (fun c => hg ⟨c.1, c.2.1⟩)] at h
    cases h
/-- What is done is undone. -/
theorem undo {l : List Pt} {s : ByteArray} (h : (aplO l s).2 = true) : aplO (invO l) (aplO l s).1 = (s, true) ∧ (s.size : Int) = tkL l ∧ ((aplO l s).1.size : Int) = mkL l := by
  obtain ⟨hg, hs, hsz, hap⟩ := apl_yes h
  have hp := goodO_pk hg
  obtain ⟨A, T, hA, hT, hz⟩ := ap_back _ (fun q hq => (stL_so hp q hq).1) _ _ _ _ hap
  rw [List.append_nil] at hA
  rw [List.nil_append] at hT
  have hok := ap_ok _ (stL_so hp) _ _ _ _ hap (by unfold good at hs; simp only [Bool.and_eq_true] at hs; exact hs.1) rfl
  obtain ⟨i1, i2, i3⟩ := good_invO hg
  have hback : apTL (stL (invO l)) ((aplO l s).1.data.toList, []) = some ([], s.data.toList) := by
    have e : invO l = normL (l.map invP) := by unfold invO; rw [if_pos hg]
    rw [e, ap_norm (inv_pk hp), stL_inv l hp, hT, hA]
    simpa using hz [] []
  have hlen : ((aplO l s).1.size : Int) = mkL l := by
    have hx := goodO_pk i1
    obtain ⟨e1, e2, -⟩ := apTL_left _ _ _ _ (fun q hq => (stL_so hx q hq).1) hback
    have hc := (stL_sums (invO l) hx).1
    have e3 := sz_list (aplO l s).1
    simp only at e1
    have e4 := List.drop_eq_nil_iff.1 e1.symm
    omega
  refine ⟨?_, hsz, hlen⟩
  have hgt : good (aplO l s).1.data.toList = true := by
    unfold good
    simp only [Bool.and_eq_true, decide_eq_true_eq]
    have := (goodO_le hg).2.2
    have e3 := sz_list (aplO l s).1
    exact ⟨hok, by omega⟩
  obtain ⟨b1, -, -⟩ := aplO_steps i1 hgt
  rw [b1 _ (by omega) hback]
  rw [ba_of]
end Go.Proofs.YtkjioadmebkaoaaDoor
