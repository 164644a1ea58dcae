/- Two sequences put together one atom after the other, in plain mathematics: it comes to the same. -/
import Derived.Test.YtnhooalibadeeabDoorSeq4
namespace Go.Proofs.YtnhooalibadeeabDoor.Doc1

/-- One atom more. -/
def mstep (A : List Am) (y : Am) : Option (List Am) := match A.findIdx? (at2 y.time y.actor) with
  | none => some (A ++ [y])
  | some k => match A[k]? with
    | none => none
    | some z => if alq y z then some (A.set k { z with gone := z.gone || y.gone }) else none
def mrun : List Am → List Am → Option (List Am)
  | A, [] => some A
  | A, y :: m => (mstep A y).bind (fun B => mrun B m)
def sameId (x y : Am) : Bool := at2 x.time x.actor y
def insAt (p : Nat) (y : Am) (C : List Am) : List Am := C.take p ++ y :: C.drop p
theorem insAt_zero (y : Am) (C : List Am) : insAt 0 y C = y :: C := by simp [insAt]
theorem insAt_perm (p : Nat) (y : Am) (C : List Am) : (insAt p y C).Perm (y :: C) := by
  unfold insAt
  have := List.perm_middle (a := y) (l₁ := C.take p) (l₂ := C.drop p)
  rwa [List.take_append_drop] at this
theorem insAt_end (y : Am) (C : List Am) : insAt C.length y C = C ++ [y] := by simp [insAt]
theorem insAt_len (p : Nat) (y : Am) (C : List Am) : (insAt p y C).length = C.length + 1 := by
  have := (insAt_perm p y C).length_eq
  simpa using this
/-- An atom whose id does not come again stays where it is. -/
theorem mstep_ins {p : Nat} {y z : Am} {C : List Am} (hp : p ≤ C.length) (h : sameId z y = false) : mstep (insAt p y C) z = (mstep C z).map (insAt p y) ∧ ∀ B, mstep C z = some B → p ≤ B.length := by
  unfold sameId at h
  unfold mstep
  have hf : (insAt p y C).findIdx? (at2 z.time z.actor) = (C.findIdx? (at2 z.time z.actor)).map (fun k => if k < p then k else k + 1) := by
    unfold insAt
    conv => rhs; rw [← List.take_append_drop p C]
    rw [List.findIdx?_append, List.findIdx?_append, List.findIdx?_cons, h]
    simp only [Bool.false_eq_true, if_false, List.length_take, Nat.min_eq_left hp]
    cases h1 : (C.take p).findIdx? (at2 z.time z.actor) with
    | some k =>
      obtain ⟨hk, -⟩ := List.findIdx?_eq_some_iff_getElem.1 h1
      rw [List.length_take] at hk
      simp
      omega
    | none =>
      cases h2 : (C.drop p).findIdx? (at2 z.time z.actor) with
      | none => simp
      | some k =>
        simp
        first
          | omega
          | (split <;> omega)
  rw [hf]
  cases hc : C.findIdx? (at2 z.time z.actor) with
  | none =>
    refine ⟨?_, fun B hB => ?_⟩
    · simp only [Option.map_none, Option.map_some]
      unfold insAt
      rw [List.take_append_of_le_length hp, List.drop_append_of_le_length hp]
      simp
    · cases hB; simp; omega
  | some k =>
    obtain ⟨hk, -⟩ := List.findIdx?_eq_some_iff_getElem.1 hc
    simp only [Option.map_some]
    by_cases hkp : k < p
    · rw [if_pos hkp]
      have e : (insAt p y C)[k]? = C[k]? := by
        unfold insAt
        rw [List.getElem?_append_left (by rw [List.length_take]; omega), List.getElem?_take, if_pos hkp]
      rw [e, List.getElem?_eq_getElem hk]
      by_cases ha : alq z C[k] = true
      · simp only [if_pos ha, Option.map_some]
        refine ⟨?_, fun B hB => by cases hB; rw [List.length_set]; exact hp⟩
        unfold insAt
        rw [List.set_append_left _ _ (by rw [List.length_take]; omega), List.take_set, List.drop_set_of_lt hkp]
      · simp only [if_neg ha]
        exact ⟨rfl, fun B hB => by cases hB⟩
    · rw [if_neg hkp]
      have e : (insAt p y C)[k + 1]? = C[k]? := by
        unfold insAt
        rw [List.getElem?_append_right (by rw [List.length_take]; omega), List.length_take, Nat.min_eq_left hp, show k + 1 - p = (k - p) + 1 by omega, List.getElem?_cons_succ, List.getElem?_drop, show p + (k - p) = k by omega]
      rw [e, List.getElem?_eq_getElem hk]
      by_cases ha : alq z C[k] = true
      · simp only [if_pos ha, Option.map_some]
        refine ⟨?_, fun B hB => by cases hB; rw [List.length_set]; exact hp⟩
        unfold insAt
        rw [List.set_append_right _ _ (by rw [List.length_take]; omega), List.length_take, Nat.min_eq_left hp, show k + 1 - p = (k - p) + 1 by omega, List.set_cons_succ, List.take_set_of_le (by omega), List.drop_set, if_neg (by omega)]
      · simp only [if_neg ha]
        exact ⟨rfl, fun B hB => by cases hB⟩
theorem mrun_ins {p : Nat} {y : Am} : ∀ (m C : List Am), p ≤ C.length → (∀ z ∈ m, sameId z y = false) → mrun (insAt p y C) m = (mrun C m).map (insAt p y)
  | [], C, _, _ => rfl
  | z :: m, C, hp, h => by
    obtain ⟨h1, h2⟩ := mstep_ins (C := C) hp (h z (List.mem_cons_self ..))
    rw [mrun, mrun, h1]
    cases hc : mstep C z with
    | none => rfl
    | some B => exact mrun_ins m B (h2 B hc) (fun q hq => h q (List.mem_cons_of_mem _ hq))
def Ris (l : List Am) : Prop := l.Pairwise (fun a b => lt2 a b = true)
theorem lt2_irr {x y : Am} (h : lt2 x y = true) : sameId x y = false ∧ sameId y x = false := by
  unfold lt2 at h
  unfold sameId at2
  simp at h ⊢
  omega
theorem lt2_trans {x y z : Am} (h : lt2 x y = true) (k : lt2 y z = true) : lt2 x z = true := by
  unfold lt2 at h k ⊢
  simp at h k ⊢
  omega
theorem lt2_tri {x y : Am} (h : lt2 x y = false) (k : lt2 y x = false) : sameId x y = true ∧ x.time = y.time ∧ x.actor = y.actor := by
  unfold lt2 at h k
  unfold sameId at2
  simp at h k ⊢
  omega
theorem alq_sym (x y : Am) : alq x y = alq y x := by
  unfold alq
  rw [Bool.beq_comm (a := x.time), Bool.beq_comm (a := x.actor), Bool.beq_comm (a := x.above), Bool.beq_comm (a := x.maker), Bool.beq_comm (a := x.byte.toList)]
/-- What does not meet is put behind. -/
theorem mrun_app : ∀ (m A : List Am), Ris m → (∀ z ∈ m, ∀ x ∈ A, sameId z x = false) → mrun A m = some (A ++ m)
  | [], A, _, _ => by simp [mrun]
  | z :: m, A, hr, h => by
    have hs : mstep A z = some (A ++ [z]) := by
      unfold mstep
      rw [show A.findIdx? (at2 z.time z.actor) = none from List.findIdx?_eq_none_iff.2 (fun x hx => h z (List.mem_cons_self ..) x hx)]
    rw [mrun, hs]
    have hr2 := List.pairwise_cons.1 hr
    show mrun (A ++ [z]) m = _
    rw [mrun_app m (A ++ [z]) hr2.2 (fun q hq x hx => by
      rcases List.mem_append.1 hx with c | c
      · exact h q (List.mem_cons_of_mem _ hq) x c
      · simp at c; subst c; exact (lt2_irr (hr2.1 q hq)).2), List.append_assoc]
    rfl
/-- Whom the merging tells, with ids of either. -/
theorem mrg_ids : ∀ (n : Nat) (l m : List Am), l.length + m.length ≤ n → ∀ o, mrg l m = some o → ∀ z ∈ o, ∃ q, (q ∈ l ∨ q ∈ m) ∧ q.time = z.time ∧ q.actor = z.actor := by
  intro n
  induction n with
  | zero =>
    intro l m hn o h z hz
    have e1 : l = [] := List.eq_nil_of_length_eq_zero (by omega)
    subst e1
    rw [mrg] at h
    cases h
    exact ⟨z, .inr hz, rfl, rfl⟩
  | succ n ih =>
    intro l m hn o h z hz
    cases l with
    | nil => rw [mrg] at h; cases h; exact ⟨z, .inr hz, rfl, rfl⟩
    | cons x l =>
      cases m with
      | nil => rw [mrg] at h; cases h; exact ⟨z, .inl hz, rfl, rfl⟩
      | cons y m =>
        simp only [List.length_cons] at hn
        rw [mrg] at h
        split at h
        · obtain ⟨t, ht, rfl⟩ := Option.map_eq_some_iff.1 h
          rcases List.mem_cons.1 hz with rfl | hz
          · exact ⟨_, .inl (List.mem_cons_self ..), rfl, rfl⟩
          · obtain ⟨q, hq, e⟩ := ih l (y :: m) (by simp only [List.length_cons]; omega) t ht z hz
            exact ⟨q, hq.imp (List.mem_cons_of_mem _) id, e⟩
        · split at h
          · obtain ⟨t, ht, rfl⟩ := Option.map_eq_some_iff.1 h
            rcases List.mem_cons.1 hz with rfl | hz
            · exact ⟨_, .inr (List.mem_cons_self ..), rfl, rfl⟩
            · obtain ⟨q, hq, e⟩ := ih (x :: l) m (by simp only [List.length_cons]; omega) t ht z hz
              exact ⟨q, hq.imp id (List.mem_cons_of_mem _), e⟩
          · split at h
            · obtain ⟨t, ht, rfl⟩ := Option.map_eq_some_iff.1 h
              rcases List.mem_cons.1 hz with rfl | hz
              · exact ⟨x, .inl (List.mem_cons_self ..), rfl, rfl⟩
              · obtain ⟨q, hq, e⟩ := ih l m (by omega) t ht z hz
                exact ⟨q, hq.imp (List.mem_cons_of_mem _) (List.mem_cons_of_mem _), e⟩
            · cases h
theorem lt2_ids {x y z : Am} (h : lt2 x y = true) (e1 : y.time = z.time) (e2 : y.actor = z.actor) : lt2 x z = true := by
  unfold lt2 at h ⊢
  rw [← e1, ← e2]; exact h
theorem lt2_ids' {x y z : Am} (h : lt2 x y = true) (e1 : x.time = z.time) (e2 : x.actor = z.actor) : lt2 z y = true := by
  unfold lt2 at h ⊢
  rw [← e1, ← e2]; exact h
/-- Both ways come to the same: the one to a row that rises, the other one to the same atoms. -/
theorem mrg_mrun : ∀ (n : Nat) (l m : List Am), l.length + m.length ≤ n → Ris l → Ris m → (mrg l m = none ∧ mrun l m = none) ∨ ∃ o A, mrg l m = some o ∧ mrun l m = some A ∧ A.Perm o ∧ Ris o := by
  intro n
  induction n with
  | zero =>
    intro l m hn hl hm
    have e1 : l = [] := List.eq_nil_of_length_eq_zero (by omega)
    have e2 : m = [] := List.eq_nil_of_length_eq_zero (by omega)
    subst e1; subst e2
    exact .inr ⟨[], [], by rw [mrg], rfl, List.Perm.refl _, hl⟩
  | succ n ih =>
    intro l m hn hl hm
    cases l with
    | nil =>
      refine .inr ⟨m, m, by rw [mrg], ?_, List.Perm.refl _, hm⟩
      rw [mrun_app m [] hm (fun _ _ _ h => by cases h)]
      rfl
    | cons x l =>
      have hl2 := List.pairwise_cons.1 hl
      cases m with
      | nil => exact .inr ⟨x :: l, x :: l, by rw [mrg], rfl, List.Perm.refl _, hl⟩
      | cons y m =>
        have hm2 := List.pairwise_cons.1 hm
        simp only [List.length_cons] at hn
        cases h1 : lt2 x y with
        | true =>
          have hx : ∀ z ∈ y :: m, lt2 x z = true := fun z hz => by
            rcases List.mem_cons.1 hz with rfl | hz
            · exact h1
            · exact lt2_trans h1 (hm2.1 z hz)
          have e1 : mrg (x :: l) (y :: m) = (mrg l (y :: m)).map (x :: ·) := by rw [mrg, if_pos h1]
          have e2 : mrun (x :: l) (y :: m) = (mrun l (y :: m)).map (insAt 0 x) := by
            have := mrun_ins (p := 0) (y := x) (y :: m) l (Nat.zero_le _) (fun z hz => (lt2_irr (hx z hz)).2)
            rwa [insAt_zero] at this
          rcases ih l (y :: m) (by simp only [List.length_cons]; omega) hl2.2 hm with ⟨k1, k2⟩ | ⟨o, A, k1, k2, k3, k4⟩
          · left; rw [e1, e2, k1, k2]; exact ⟨rfl, rfl⟩
          · right
            refine ⟨x :: o, insAt 0 x A, by rw [e1, k1]; rfl, by rw [e2, k2]; rfl, by rw [insAt_zero]; exact k3.cons x, List.pairwise_cons.2 ⟨fun z hz => ?_, k4⟩⟩
            obtain ⟨q, hq, a1, a2⟩ := mrg_ids _ l (y :: m) (Nat.le_refl _) o k1 z hz
            rcases hq with hq | hq
            · exact lt2_ids (hl2.1 q hq) a1 a2
            · exact lt2_ids (hx q hq) a1 a2
        | false =>
          cases h2 : lt2 y x with
          | true =>
            have hy : ∀ z ∈ x :: l, lt2 y z = true := fun z hz => by
              rcases List.mem_cons.1 hz with rfl | hz
              · exact h2
              · exact lt2_trans h2 (hl2.1 z hz)
            have e1 : mrg (x :: l) (y :: m) = (mrg (x :: l) m).map (y :: ·) := by rw [mrg, if_neg (by rw [h1]; simp), if_pos h2]
            have e2 : mrun (x :: l) (y :: m) = (mrun (x :: l) m).map (insAt (x :: l).length y) := by
              have hs : mstep (x :: l) y = some ((x :: l) ++ [y]) := by
                unfold mstep
                rw [show (x :: l).findIdx? (at2 y.time y.actor) = none from List.findIdx?_eq_none_iff.2 (fun z hz => (lt2_irr (hy z hz)).1)]
              rw [mrun, hs, ← insAt_end]
              exact mrun_ins m (x :: l) (Nat.le_refl _) (fun z hz => (lt2_irr (hm2.1 z hz)).2)
            rcases ih (x :: l) m (by simp only [List.length_cons]; omega) hl hm2.2 with ⟨k1, k2⟩ | ⟨o, A, k1, k2, k3, k4⟩
            · left; rw [e1, e2, k1, k2]; exact ⟨rfl, rfl⟩
            · right
              refine ⟨y :: o, insAt (x :: l).length y A, by rw [e1, k1]; rfl, by rw [e2, k2]; rfl, (insAt_perm _ _ _).trans (k3.cons y), List.pairwise_cons.2 ⟨fun z hz => ?_, k4⟩⟩
              obtain ⟨q, hq, a1, a2⟩ := mrg_ids _ (x :: l) m (Nat.le_refl _) o k1 z hz
              rcases hq with hq | hq
              · exact lt2_ids (hy q hq) a1 a2
              · exact lt2_ids (hm2.1 q hq) a1 a2
          | false =>
            obtain ⟨hs, et, ea⟩ := lt2_tri h1 h2
            have hf : (x :: l).findIdx? (at2 y.time y.actor) = some 0 := by
              rw [List.findIdx?_cons]
              have : at2 y.time y.actor x = true := by unfold at2; rw [et, ea]; simp
              rw [this]; rfl
            have e1 : mrg (x :: l) (y :: m) = if alq x y then (mrg l m).map ({ x with gone := x.gone || y.gone } :: ·) else none := by rw [mrg, if_neg (by rw [h1]; simp), if_neg (by rw [h2]; simp)]
            cases ha : alq x y with
            | false =>
              left
              refine ⟨by rw [e1, ha]; rfl, ?_⟩
              have hb : mstep (x :: l) y = none := by
                unfold mstep
                rw [hf]
                show (if alq y x = true then _ else none) = none
                rw [alq_sym, ha]; rfl
              rw [mrun, hb]; rfl
            | true =>
              have hb : mstep (x :: l) y = some ({ x with gone := x.gone || y.gone } :: l) := by
                unfold mstep
                rw [hf]
                show (if alq y x = true then some ((x :: l).set 0 _) else none) = _
                rw [alq_sym, ha]; rfl
              have hz : ∀ z ∈ m, lt2 { x with gone := x.gone || y.gone } z = true := fun z hz => lt2_ids' (hm2.1 z hz) et.symm ea.symm
              have e2 : mrun (x :: l) (y :: m) = (mrun l m).map (insAt 0 { x with gone := x.gone || y.gone }) := by
                rw [mrun, hb]
                have := mrun_ins (p := 0) (y := { x with gone := x.gone || y.gone }) m l (Nat.zero_le _) (fun z hq => (lt2_irr (hz z hq)).2)
                rw [insAt_zero] at this
                exact this
              rcases ih l m (by omega) hl2.2 hm2.2 with ⟨k1, k2⟩ | ⟨o, A, k1, k2, k3, k4⟩
              · left; rw [e1, e2, ha, k1, k2]; exact ⟨rfl, rfl⟩
              · right
                refine ⟨{ x with gone := x.gone || y.gone } :: o, insAt 0 { x with gone := x.gone || y.gone } A, by rw [e1, ha, k1]; rfl, by rw [e2, k2]; rfl, by rw [insAt_zero]; exact k3.cons _, List.pairwise_cons.2 ⟨fun z hq => ?_, k4⟩⟩
                obtain ⟨q, hq2, a1, a2⟩ := mrg_ids _ l m (Nat.le_refl _) o k1 z hq
                rcases hq2 with hq2 | hq2
                · exact lt2_ids (lt2_ids' (hl2.1 q hq2) rfl rfl) a1 a2
                · exact lt2_ids (hz q hq2) a1 a2
theorem good_ris {l : List Am} (h : goodQ l = true) : Ris l := by
  unfold Ris
  rw [List.pairwise_iff_getElem]
  intro i j hi hj hij
  exact good_rise h hj hij
end Go.Proofs.YtnhooalibadeeabDoor.Doc1
