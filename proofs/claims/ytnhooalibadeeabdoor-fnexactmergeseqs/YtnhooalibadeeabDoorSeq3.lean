/- The order of a good sequence: both ways to it. -/
import Derived.Test.YtnhooalibadeeabDoorSeq2
namespace Go.Proofs.YtnhooalibadeeabDoor.Doc1

theorem good_at {l : List Am} (h : goodQ l = true) {i : Nat} (hi : i < l.length) : isOk l[i] = true ∧ pvOk l i l[i] = true ∧ (begA l[i] = true ∨ (l[i].above < l[i].time ∧ l.any (at2 l[i].above l[i].maker) = true)) := by
  unfold goodQ at h
  simp only [Bool.and_eq_true] at h
  have := goodM_at h.2 hi
  rw [okM_at hi] at this
  simp only [Bool.and_eq_true, Bool.or_eq_true, decide_eq_true_eq] at this
  exact ⟨this.1.1, this.1.2, this.2⟩
theorem good_len {l : List Am} (h : goodQ l = true) : l.length ≤ 80 := by
  unfold goodQ at h
  simp only [Bool.and_eq_true, decide_eq_true_eq] at h
  exact h.1
theorem good_time {l : List Am} (h : goodQ l = true) {i : Nat} (hi : i < l.length) : 1 ≤ l[i].time ∧ l[i].time ≤ 10000 := by
  have := (good_at h hi).1
  unfold isOk rngA at this
  simp at this
  omega
theorem good_rise {l : List Am} (h : goodQ l = true) {i j : Nat} (hi : i < l.length) (hj : j < i) : lt2 (l[j]'(by omega)) l[i] = true :=
  rises (Nat.le_refl _) (fun _ hk => (good_at h hk).2.1) j i hi hj
theorem id_one {l : List Am} (h : goodQ l = true) {t a : Int} {i j : Nat} (hi : i < l.length) (hj : j < l.length) (h1 : at2 t a l[i] = true) (h2 : at2 t a l[j] = true) : i = j := by
  unfold at2 at h1 h2
  simp at h1 h2
  rcases Nat.lt_trichotomy i j with c | c | c
  · have := good_rise h hj c
    unfold lt2 at this
    simp at this
    omega
  · exact c
  · have := good_rise h hi c
    unfold lt2 at this
    simp at this
    omega
/-- What pr says. -/
theorem pr_beg {l : List Am} {i : Nat} (hi : i < l.length) (hb : begA l[i] = true) : pr l i = 0 := by
  unfold pr
  rw [List.getElem?_eq_getElem hi]
  simp [hb]
theorem pr_not {l : List Am} (h : goodQ l = true) {i : Nat} (hi : i < l.length) (hb : begA l[i] = false) : ∃ j, ∃ hj : j < l.length, j < i ∧ at2 l[i].above l[i].maker l[j] = true ∧ pr l i = j + 1 := by
  have h3 := (good_at h hi).2.2
  rw [hb] at h3
  simp only [Bool.false_eq_true, false_or] at h3
  cases hf : l.findIdx? (at2 l[i].above l[i].maker) with
  | none =>
    exfalso
    obtain ⟨x, hx, hp⟩ := List.any_eq_true.1 h3.2
    rw [List.findIdx?_eq_none_iff.1 hf x hx] at hp
    cases hp
  | some j =>
    obtain ⟨hj, hp, -⟩ := List.findIdx?_eq_some_iff_getElem.1 hf
    refine ⟨j, hj, ?_, hp, ?_⟩
    · have hp2 := hp
      unfold at2 at hp2
      simp at hp2
      rcases Nat.lt_trichotomy j i with c | c | c
      · exact c
      · subst c; omega
      · have := good_rise h hj c
        unfold lt2 at this
        simp at this
        omega
    · unfold pr
      rw [List.getElem?_eq_getElem hi]
      simp [hb, hf]
theorem pr_le {l : List Am} (h : goodQ l = true) {i : Nat} (hi : i < l.length) : pr l i ≤ i := by
  cases hb : begA l[i] with
  | true => rw [pr_beg hi hb]; omega
  | false =>
    obtain ⟨j, -, h1, -, h2⟩ := pr_not h hi hb
    omega
/-- The atom with a number has an id. -/
def atN (l : List Am) (t a : Int) (j : Nat) : Bool := match l[j]? with
  | some x => at2 t a x
  | none => false
theorem atN_at {l : List Am} {t a : Int} {j : Nat} (hj : j < l.length) : atN l t a j = at2 t a l[j] := by unfold atN; rw [List.getElem?_eq_getElem hj]
/-- One atom more is put just behind what it stands behind. -/
theorem ord_step {l : List Am} (h : goodQ l = true) {k : Nat} (hk : k < l.length) : ∃ i, i ≤ (ordK (pr l) k).length ∧ fidx (atN l l[k].above l[k].maker) (ordK (pr l) k) + 1 = (i : Int) ∧ (ordK (pr l) k).take i ++ k :: (ordK (pr l) k).drop i = ordK (pr l) (k + 1) := by
  have hp : ∀ i, i ≤ k → pr l i ≤ i := fun i hi => pr_le h (by omega)
  have hp' : ∀ i, i < k → pr l i ≤ i := fun i hi => hp i (by omega)
  rw [ordK_succ hp]
  cases hb : begA l[k] with
  | true =>
    refine ⟨0, Nat.zero_le _, ?_, ?_⟩
    · rw [fidx_none (fun j hj => ?_)]; · rfl
      have hjk := (ordK_mem hp').1 hj
      rw [atN_at (by omega)]
      have ht := (good_time h (i := j) (by omega)).1
      unfold begA at hb
      simp at hb
      unfold at2
      rw [hb.1]
      simp
      omega
    · rw [pr_beg hk hb, if_pos rfl, insA_none (fun x _ => by omega)]
      rfl
  | false =>
    obtain ⟨j, hj, hjk, hat, hpr⟩ := pr_not h hk hb
    have hm : j ∈ ordK (pr l) k := (ordK_mem hp').2 hjk
    obtain ⟨pos, hpos, he⟩ := List.getElem_of_mem hm
    have hnd := ordK_nodup hp'
    refine ⟨pos + 1, by omega, ?_, ?_⟩
    · rw [fidx_some hpos (fun x hx => ?_) (by rw [he, atN_at hj]; exact hat)]
      · rfl
      · obtain ⟨q, hq, rfl⟩ := List.mem_take_iff_getElem.1 hx
        have hqk := (ordK_mem hp').1 (List.getElem_mem (show q < (ordK (pr l) k).length by omega))
        rw [atN_at (by omega)]
        cases hc : at2 l[k].above l[k].maker (l[(ordK (pr l) k)[q]]'(by omega)) with
        | false => rfl
        | true =>
          exfalso
          have := id_one h (by omega) hj hc hat
          have e2 : (ordK (pr l) k)[q] = (ordK (pr l) k)[pos] := by rw [he]; exact this
          have := (List.getElem_inj (h₀ := by omega) (h₁ := hpos) hnd).1 e2
          omega
    · rw [hpr, if_neg (by omega), ← he, insA_at hnd hpos]
      rfl
/-- The id that is asked for behind q. -/
def idT (l : List Am) (q : Nat) : Int := match q with
  | 0 => 0
  | j + 1 => match l[j]? with | some x => x.time | none => 0
def idA (l : List Am) (q : Nat) : Int := match q with
  | 0 => 0
  | j + 1 => match l[j]? with | some x => x.actor | none => 0
theorem id_succ {l : List Am} {j : Nat} (hj : j < l.length) : idT l (j + 1) = l[j].time ∧ idA l (j + 1) = l[j].actor := by
  constructor
  · show (match l[j]? with | some x => x.time | none => 0) = _
    rw [List.getElem?_eq_getElem hj]
  · show (match l[j]? with | some x => x.actor | none => 0) = _
    rw [List.getElem?_eq_getElem hj]
theorem kid_iff {l : List Am} (h : goodQ l = true) {i q : Nat} (hi : i < l.length) (hq : q ≤ l.length) : (l[i].above = idT l q ∧ l[i].maker = idA l q) ↔ pr l i = q := by
  cases hb : begA l[i] with
  | true =>
    rw [pr_beg hi hb]
    unfold begA at hb
    simp at hb
    rw [hb.1, hb.2]
    cases q with
    | zero => simp [idT, idA]
    | succ j =>
      rw [(id_succ (by omega)).1, (id_succ (by omega)).2]
      have := (good_time h (i := j) (by omega)).1
      constructor
      · intro c; omega
      · intro c; omega
  | false =>
    obtain ⟨j, hj, hji, hat, hpr⟩ := pr_not h hi hb
    rw [hpr]
    have hat2 := hat
    unfold at2 at hat2
    simp at hat2
    cases q with
    | zero =>
      simp only [idT, idA]
      constructor
      · intro c
        exfalso
        unfold begA at hb
        rw [c.1, c.2] at hb
        cases hb
      · intro c; omega
    | succ r =>
      rw [(id_succ (by omega)).1, (id_succ (by omega)).2]
      constructor
      · intro c
        have : j = r := id_one h hj (by omega) hat (by unfold at2; simp; exact ⟨c.1.symm, c.2.symm⟩)
        omega
      · intro c
        obtain rfl : j = r := by omega
        exact ⟨hat2.1.symm, hat2.2.symm⟩
/-- The children of q from k on, and what stands behind each. -/
def dnK (p : Nat → Nat) (n f q k : Nat) : List Nat := ((List.range' k (n - k)).reverse.filter (fun i => p i == q)).flatMap (fun i => i :: dfs p n f (i + 1))
theorem dnK_end (p : Nat → Nat) (n f q : Nat) : dnK p n f q n = [] := by unfold dnK; rw [Nat.sub_self]; rfl
theorem dnK_step {p : Nat → Nat} {n f q k : Nat} (hk : k < n) : dnK p n f q k = dnK p n f q (k + 1) ++ (if p k = q then k :: dfs p n f (k + 1) else []) := by
  unfold dnK
  rw [show n - k = (n - (k + 1)) + 1 by omega, List.range'_succ, List.reverse_cons, List.filter_append, List.flatMap_append]
  by_cases c : p k = q
  · rw [if_pos c]; simp [c]
  · rw [if_neg c]; simp [c]
theorem dnK_all (p : Nat → Nat) (n f q : Nat) : dnK p n f q 0 = dfs p n (f + 1) q := by
  unfold dnK
  rw [Nat.sub_zero, ← List.range_eq_range', dfs]
  rfl
theorem dnK_len {p : Nat → Nat} {n f q : Nat} : ∀ k, k ≤ n → (dnK p n f q k).length ≤ (dfs p n (f + 1) q).length
  | 0, _ => by rw [dnK_all]; exact Nat.le_refl _
  | k + 1, hk => by
    have := dnK_len (p := p) (n := n) (f := f) (q := q) k (by omega)
    rw [dnK_step (show k < n by omega), List.length_append] at this
    omega
end Go.Proofs.YtnhooalibadeeabDoor.Doc1
