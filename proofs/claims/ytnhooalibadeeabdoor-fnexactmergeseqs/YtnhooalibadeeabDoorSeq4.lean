/- Two sequences put together, in plain mathematics. -/
import Derived.Test.YtnhooalibadeeabDoorSeq3
namespace Go.Proofs.YtnhooalibadeeabDoor.Doc1

/-- The same but for being gone. -/
def alq (x y : Am) : Bool := x.time == y.time && (x.actor == y.actor && (x.above == y.above && (x.maker == y.maker && x.byte.toList == y.byte.toList)))
/-- Two rows merged by rising ids. -/
def mrg : List Am → List Am → Option (List Am)
  | [], m => some m
  | x :: l, [] => some (x :: l)
  | x :: l, y :: m =>
    if lt2 x y then (mrg l (y :: m)).map (x :: ·)
    else if lt2 y x then (mrg (x :: l) m).map (y :: ·)
    else if alq x y then (mrg l m).map ({ x with gone := x.gone || y.gone } :: ·)
    else none
termination_by l m => l.length + m.length
theorem mrg_nil (l : List Am) : mrg l [] = some l := by
  cases l with
  | nil => rw [mrg]
  | cons x l => rw [mrg]
theorem mg_l {l m : List Am} {i k : Nat} (hi : i < l.length) (h : m.length ≤ k ∨ ∃ hk : k < m.length, lt2 l[i] m[k] = true) : mrg (l.drop i) (m.drop k) = (mrg (l.drop (i + 1)) (m.drop k)).map (l[i] :: ·) := by
  rw [List.drop_eq_getElem_cons hi]
  rcases h with h | ⟨hk, h⟩
  · rw [List.drop_eq_nil_of_le h, mrg_nil, mrg_nil]; rfl
  · rw [List.drop_eq_getElem_cons hk, mrg, if_pos h]
theorem mg_r {l m : List Am} {i k : Nat} (hk : k < m.length) (h : l.length ≤ i ∨ ∃ hi : i < l.length, lt2 l[i] m[k] = false ∧ lt2 m[k] l[i] = true) : mrg (l.drop i) (m.drop k) = (mrg (l.drop i) (m.drop (k + 1))).map (m[k] :: ·) := by
  rw [List.drop_eq_getElem_cons hk]
  rcases h with h | ⟨hi, h1, h2⟩
  · rw [List.drop_eq_nil_of_le h, mrg, mrg]; rfl
  · rw [List.drop_eq_getElem_cons hi, mrg, if_neg (by rw [h1]; simp), if_pos h2]
theorem mg_b {l m : List Am} {i k : Nat} (hi : i < l.length) (hk : k < m.length) (h1 : lt2 l[i] m[k] = false) (h2 : lt2 m[k] l[i] = false) :
    mrg (l.drop i) (m.drop k) = if alq l[i] m[k] then (mrg (l.drop (i + 1)) (m.drop (k + 1))).map ({ l[i] with gone := l[i].gone || m[k].gone } :: ·) else none := by
  rw [List.drop_eq_getElem_cons hi, List.drop_eq_getElem_cons hk, mrg, if_neg (by rw [h1]; simp), if_neg (by rw [h2]; simp)]
theorem mg_end {l m : List Am} {i k : Nat} (hi : l.length ≤ i) (hk : m.length ≤ k) : mrg (l.drop i) (m.drop k) = some [] := by
  rw [List.drop_eq_nil_of_le hi, List.drop_eq_nil_of_le hk, mrg]
theorem mrg_mem : ∀ (n : Nat) (l m : List Am), l.length + m.length ≤ n → ∀ o, mrg l m = some o → (∀ x ∈ l, x.byte.size = 1) → (∀ x ∈ m, x.byte.size = 1) → ∀ z ∈ o, z.byte.size = 1 := by
  intro n
  induction n with
  | zero =>
    intro l m hn o h h1 h2 z hz
    have e1 : l = [] := List.eq_nil_of_length_eq_zero (by omega)
    subst e1
    rw [mrg] at h
    cases h
    exact h2 z hz
  | succ n ih =>
    intro l m hn o h h1 h2 z hz
    cases l with
    | nil => rw [mrg] at h; cases h; exact h2 z hz
    | cons x l =>
      cases m with
      | nil => rw [mrg] at h; cases h; exact h1 z hz
      | cons y m =>
        simp only [List.length_cons] at hn
        rw [mrg] at h
        split at h
        · obtain ⟨t, ht, rfl⟩ := Option.map_eq_some_iff.1 h
          rcases List.mem_cons.1 hz with rfl | hz
          · exact h1 _ (List.mem_cons_self ..)
          · exact ih l (y :: m) (by simp only [List.length_cons]; omega) t ht (fun q hq => h1 q (List.mem_cons_of_mem _ hq)) h2 z hz
        · split at h
          · obtain ⟨t, ht, rfl⟩ := Option.map_eq_some_iff.1 h
            rcases List.mem_cons.1 hz with rfl | hz
            · exact h2 _ (List.mem_cons_self ..)
            · exact ih (x :: l) m (by simp only [List.length_cons]; omega) t ht h1 (fun q hq => h2 q (List.mem_cons_of_mem _ hq)) z hz
          · split at h
            · obtain ⟨t, ht, rfl⟩ := Option.map_eq_some_iff.1 h
              rcases List.mem_cons.1 hz with rfl | hz
              · exact h1 x (List.mem_cons_self ..)
              · exact ih l m (by omega) t ht (fun q hq => h1 q (List.mem_cons_of_mem _ hq)) (fun q hq => h2 q (List.mem_cons_of_mem _ hq)) z hz
            · cases h
theorem mrg_one {l m o : List Am} (h1 : ∀ i (hi : i < l.length), l[i].byte.size = 1) (h2 : ∀ i (hi : i < m.length), m[i].byte.size = 1) (h : mrg l m = some o) : ∀ j (hj : j < o.length), o[j].byte.size = 1 := fun j hj =>
  mrg_mem (l.length + m.length) l m (Nat.le_refl _) o h (fun x hx => by obtain ⟨i, hi, rfl⟩ := List.getElem_of_mem hx; exact h1 i hi) (fun x hx => by obtain ⟨i, hi, rfl⟩ := List.getElem_of_mem hx; exact h2 i hi) _ (List.getElem_mem hj)
/-- What two sequences put together come to. -/
def mgB (l m : List Am) : Bool := goodQ l && goodQ m && (match mrg l m with | some o => goodQ o | none => false)
def mgL (l m : List Am) : List Am := if mgB l m = true then (mrg l m).getD [] else []
theorem mg_no {l m : List Am} (h : goodQ l = false ∨ goodQ m = false ∨ mrg l m = none) : mgB l m = false ∧ mgL l m = [] := by
  have e : mgB l m = false := by
    unfold mgB
    rcases h with h | h | h
    · rw [h]; rfl
    · rw [h, Bool.and_false, Bool.false_and]
    · rw [h, Bool.and_false]
  exact ⟨e, by unfold mgL; rw [if_neg (by rw [e]; simp)]⟩
theorem mg_some {l m o : List Am} (h1 : goodQ l = true) (h2 : goodQ m = true) (h : mrg l m = some o) : mgB l m = goodQ o ∧ mgL l m = if goodQ o = true then o else [] := by
  have e : mgB l m = goodQ o := by unfold mgB; rw [h1, h2, h]; rfl
  refine ⟨e, ?_⟩
  unfold mgL
  rw [e, h]
  rfl
theorem mgL_len (l m : List Am) : (mgL l m).length ≤ 80 := by
  unfold mgL
  split
  · rename_i h
    unfold mgB at h
    simp only [Bool.and_eq_true] at h
    cases c : mrg l m with
    | none => simp
    | some o =>
      rw [c] at h
      exact good_len h.2
  · simp
end Go.Proofs.YtnhooalibadeeabDoor.Doc1
