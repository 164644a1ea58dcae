/- The plain mathematics of a heap by hand: what rises and what sinks leaves one, with the same in it, the least at its top. -/
import Derived.Test.YtknodkdlphngmaxPlain2
namespace Go.Proofs.Ytknodkdlphngmax.Doc1

section
variable {α : Type} (d : α) (lt : α → α → Bool)
/-- A strict order of all. -/
structure Ord (lt : α → α → Bool) : Prop where
  ir : ∀ a, lt a a = false
  tr : ∀ a b c, lt a b = true → lt b c = true → lt a c = true
  tt : ∀ a b, a ≠ b → lt a b = true ∨ lt b a = true
def gt (l : List α) (i : Nat) : α := l.getD i d
def sw (l : List α) (i j : Nat) : List α := (l.set i (gt d l j)).set j (gt d l i)
variable {d lt}
theorem sw_len (l : List α) (i j : Nat) : (sw d l i j).length = l.length := by simp [sw]
theorem gt_at {l : List α} {i : Nat} (h : i < l.length) : gt d l i = l[i] := by simp [gt, h]
theorem gt_out {l : List α} {k : Nat} (h : l.length ≤ k) : gt d l k = d := by simp [gt, h]
theorem gt_sw {l : List α} {i j : Nat} (hi : i < l.length) (hj : j < l.length) (k : Nat) : gt d (sw d l i j) k = if k = j then gt d l i else if k = i then gt d l j else gt d l k := by
  unfold sw
  by_cases h : k < l.length
  · rw [gt_at (by simpa using h), List.getElem_set]
    by_cases e : j = k
    · rw [if_pos e, if_pos e.symm]
    · rw [if_neg e, if_neg (Ne.symm e), List.getElem_set]
      by_cases e2 : i = k
      · rw [if_pos e2, if_pos e2.symm]
      · rw [if_neg e2, if_neg (Ne.symm e2), gt_at h]
  · rw [if_neg (by omega), if_neg (by omega)]
    rw [gt_out (by simp; omega), gt_out (by omega)]
def le (lt : α → α → Bool) (a b : α) : Prop := lt b a = false
theorem Ord.le_of_lt {a b : α} (o : Ord lt) (h : lt a b = true) : le lt a b := by
  unfold le
  cases e : lt b a with
  | false => rfl
  | true => have := o.tr _ _ _ h e; rw [o.ir] at this; cases this
theorem Ord.trans {a b c : α} (o : Ord lt) (h1 : le lt a b) (h2 : le lt b c) : le lt a c := by
  unfold le at *
  cases e : lt c a with
  | false => rfl
  | true =>
    by_cases hab : a = b
    · subst hab; rw [h2] at e; cases e
    · rcases o.tt a b hab with h | h
      · have := o.tr _ _ _ e h; rw [h2] at this; cases this
      · rw [h1] at h; cases h
theorem Ord.anti {a b : α} (o : Ord lt) (h1 : le lt a b) (h2 : le lt b a) : a = b := by
  by_cases hab : a = b
  · exact hab
  · unfold le at *
    rcases o.tt a b hab with h | h
    · rw [h2] at h; cases h
    · rw [h1] at h; cases h
theorem Ord.refl (o : Ord lt) (a : α) : le lt a a := o.ir a
/-- A heap. -/
def Hp (d : α) (lt : α → α → Bool) (l : List α) : Prop := ∀ k, 0 < k → k < l.length → le lt (gt d l ((k - 1) / 2)) (gt d l k)
/-- A heap but for what rises at i. -/
def HpX (d : α) (lt : α → α → Bool) (l : List α) (i : Nat) : Prop := ∀ k, 0 < k → k < l.length → (k ≠ i → le lt (gt d l ((k - 1) / 2)) (gt d l k)) ∧ ((k - 1) / 2 = i → 0 < i → le lt (gt d l ((i - 1) / 2)) (gt d l k))
/-- A heap but for what sinks at i. -/
def HpS (d : α) (lt : α → α → Bool) (l : List α) (i : Nat) : Prop := ∀ k, 0 < k → k < l.length → ((k - 1) / 2 ≠ i → le lt (gt d l ((k - 1) / 2)) (gt d l k)) ∧ ((k - 1) / 2 = i → 0 < i → le lt (gt d l ((i - 1) / 2)) (gt d l k))
theorem hpx_swap (o : Ord lt) {l : List α} {i : Nat} (h : HpX d lt l i) (hi : i < l.length) (h0 : 0 < i) (hl : lt (gt d l i) (gt d l ((i - 1) / 2)) = true) : HpX d lt (sw d l i ((i - 1) / 2)) ((i - 1) / 2) := by
  obtain ⟨p, hp⟩ : ∃ p, p = (i - 1) / 2 := ⟨_, rfl⟩
  rw [← hp] at hl ⊢
  have hpl : p < l.length := by omega
  have hpi : p < i := by omega
  intro k hk hkl
  rw [sw_len] at hkl
  have G := fun x => gt_sw (d := d) hi hpl x
  refine ⟨fun hkp => ?_, fun hkp h0p => ?_⟩
  · by_cases e : k = i
    · subst e
      rw [← hp, G p, if_pos rfl, G k, if_neg (by omega), if_pos rfl]
      exact o.le_of_lt hl
    · rw [G k, if_neg hkp, if_neg e]
      by_cases e1 : (k - 1) / 2 = i
      · rw [e1, G i, if_neg (by omega), if_pos rfl]
        have := (h k hk hkl).2 e1 h0
        rw [← hp] at this
        exact this
      · by_cases e2 : (k - 1) / 2 = p
        · rw [e2, G p, if_pos rfl]
          have := (h k hk hkl).1 e
          rw [e2] at this
          exact o.trans (o.le_of_lt hl) this
        · rw [G, if_neg e2, if_neg e1]
          exact (h k hk hkl).1 e
  · have h1 := (h p h0p hpl).1 (by omega)
    rw [G ((p - 1) / 2), if_neg (by omega), if_neg (by omega)]
    by_cases e : k = i
    · subst e
      rw [G k, if_neg (by omega), if_pos rfl]
      exact h1
    · rw [G k, if_neg (by omega), if_neg e]
      have := (h k hk hkl).1 e
      rw [hkp] at this
      exact o.trans h1 this
theorem hpx_done {l : List α} {i : Nat} (h : HpX d lt l i) (hd : i = 0 ∨ le lt (gt d l ((i - 1) / 2)) (gt d l i)) : Hp d lt l := by
  intro k hk hkl
  by_cases e : k = i
  · subst e
    rcases hd with c | c
    · omega
    · exact c
  · exact (h k hk hkl).1 e
theorem hps_swap (o : Ord lt) {l : List α} {i q : Nat} (h : HpS d lt l i) (hi : i < l.length) (hq : q < l.length) (hqi : (q - 1) / 2 = i) (h0 : 0 < q) (hl : lt (gt d l q) (gt d l i) = true) (hm : ∀ k, 0 < k → k < l.length → (k - 1) / 2 = i → le lt (gt d l q) (gt d l k)) : HpS d lt (sw d l i q) q := by
  intro k hk hkl
  rw [sw_len] at hkl
  have hiq : i < q := by omega
  have G := fun x => gt_sw (d := d) hi hq x
  refine ⟨fun hkp => ?_, fun hkp h0q => ?_⟩
  · by_cases e : k = q
    · subst e
      rw [hqi, G k, if_pos rfl, G i, if_neg (by omega), if_pos rfl]
      exact o.le_of_lt hl
    · by_cases e1 : (k - 1) / 2 = i
      · rw [e1, G i, if_neg (by omega), if_pos rfl, G k, if_neg e, if_neg (by omega)]
        exact hm k hk hkl e1
      · rw [G ((k - 1) / 2), if_neg hkp, if_neg e1]
        by_cases e2 : k = i
        · subst e2
          rw [G k, if_neg (by omega), if_pos rfl]
          exact (h q h0 hq).2 hqi hk
        · rw [G k, if_neg e, if_neg e2]
          exact (h k hk hkl).1 e1
  · have e1 : (q - 1) / 2 = i := hqi
    rw [e1, G i, if_neg (by omega), if_pos rfl, G k, if_neg (by omega), if_neg (by omega)]
    have := (h k hk hkl).1 (by omega)
    rw [hkp] at this
    exact this
theorem hps_done {l : List α} {i : Nat} (h : HpS d lt l i) (hm : ∀ k, 0 < k → k < l.length → (k - 1) / 2 = i → le lt (gt d l i) (gt d l k)) : Hp d lt l := by
  intro k hk hkl
  by_cases e : (k - 1) / 2 = i
  · rw [e]; exact hm k hk hkl e
  · exact (h k hk hkl).1 e
theorem hp_push {l : List α} (h : Hp d lt l) (e : α) : HpX d lt (l ++ [e]) l.length := by
  intro k hk hkl
  rw [List.length_append] at hkl
  simp only [List.length_cons, List.length_nil] at hkl
  have G : ∀ x, x < l.length → gt d (l ++ [e]) x = gt d l x := fun x hx => by
    rw [gt_at (by simp; omega), gt_at hx, List.getElem_append_left hx]
  refine ⟨fun hne => ?_, fun c => by omega⟩
  rw [G _ (by omega), G _ (by omega)]
  exact h k hk (by omega)
theorem hp_pop {l : List α} (h : Hp d lt l) (hl : 0 < l.length) : HpS d lt ((sw d l 0 (l.length - 1)).take (l.length - 1)) 0 := by
  intro k hk hkl
  rw [List.length_take, sw_len] at hkl
  have T : ∀ x, x < l.length - 1 → gt d ((sw d l 0 (l.length - 1)).take (l.length - 1)) x = gt d (sw d l 0 (l.length - 1)) x := fun x hx => by
    rw [gt_at (by rw [List.length_take, sw_len]; omega), gt_at (by rw [sw_len]; omega), List.getElem_take]
  have G := fun x => gt_sw (d := d) (l := l) (i := 0) (j := l.length - 1) (by omega) (by omega) x
  refine ⟨fun hne => ?_, fun _ c => by omega⟩
  rw [T _ (by omega), T _ (by omega), G, if_neg (by omega), if_neg hne, G, if_neg (by omega), if_neg (by omega)]
  exact h k hk (by omega)
theorem hp_min (o : Ord lt) {l : List α} (h : Hp d lt l) : ∀ (n k : Nat), k ≤ n → k < l.length → le lt (gt d l 0) (gt d l k)
  | 0, k, hn, _ => by obtain rfl : k = 0 := by omega
                      exact o.refl _
  | n + 1, k, hn, hk => by
    by_cases h0 : k = 0
    · subst h0; exact o.refl _
    · exact o.trans (hp_min o h n ((k - 1) / 2) (by omega) (by omega)) (h k (by omega) hk)
theorem sw_count [DecidableEq α] (x : α) {l : List α} {i j : Nat} (hi : i < l.length) (hj : j < l.length) : (sw d l i j).count x = l.count x := by
  unfold sw
  rw [gt_at hi, gt_at hj]
  by_cases e : i = j
  · subst e; simp
  · have key : ∀ (m : List α) (a : Nat) (y : α) (ha : a < m.length), (m.set a y).count x + (if m[a] = x then 1 else 0) = m.count x + (if y = x then 1 else 0) := by
      intro m a y ha
      induction m generalizing a with
      | nil => simp at ha
      | cons z m ih =>
        cases a with
        | zero =>
          simp only [List.set_cons_zero, List.count_cons, List.getElem_cons_zero, beq_iff_eq]
          omega
        | succ a =>
          have := ih a (by simpa using ha)
          simp only [List.set_cons_succ, List.count_cons, List.getElem_cons_succ]
          omega
    have h1 := key l i l[j] hi
    have hj' : j < (l.set i l[j]).length := by simpa using hj
    have h2 := key (l.set i l[j]) j l[i] hj'
    rw [List.getElem_set_ne e] at h2
    omega
/-- In order. -/
def Srt (lt : α → α → Bool) (l : List α) : Prop := l.Pairwise (le lt)
theorem srt_one [DecidableEq α] (o : Ord lt) : ∀ {a b : List α}, Srt lt a → Srt lt b → (∀ x, a.count x = b.count x) → a = b
  | [], [], _, _, _ => rfl
  | [], y :: b, _, _, h => by have := h y; simp at this
  | x :: a, [], _, _, h => by have := h x; simp at this
  | x :: a, y :: b, ha, hb, h => by
    have e : x = y := by
      by_cases c : x = y
      · exact c
      · have h1 := h x
        have h2 := h y
        have m1 : x ∈ b := by
          rw [List.count_cons_self, List.count_cons_of_ne (Ne.symm c)] at h1
          exact List.count_pos_iff.1 (by omega)
        have m2 : y ∈ a := by
          rw [List.count_cons_self, List.count_cons_of_ne c] at h2
          exact List.count_pos_iff.1 (by omega)
        exact o.anti ((List.pairwise_cons.1 ha).1 y m2) ((List.pairwise_cons.1 hb).1 x m1)
    subst e
    rw [srt_one o (List.pairwise_cons.1 ha).2 (List.pairwise_cons.1 hb).2 (fun z => by
      have := h z
      simp only [List.count_cons] at this
      omega)]
end
end Go.Proofs.Ytknodkdlphngmax.Doc1
