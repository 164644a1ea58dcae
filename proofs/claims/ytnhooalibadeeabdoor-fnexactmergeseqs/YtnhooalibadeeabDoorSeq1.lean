/- Atoms of a sequence, in plain mathematics: when a sequence is good. -/
import Derived.Test.YtnhooalibadeeabDoorPlain
namespace Go.Proofs.YtnhooalibadeeabDoor.Doc1

structure Am where
  time : Int
  actor : Int
  above : Int
  maker : Int
  byte : ByteArray
  gone : Bool
  deriving DecidableEq

/-- Where the first is that is so; -1 where none is. -/
def fidx {α : Type} (p : α → Bool) (l : List α) : Int := match l.findIdx? p with | some i => (i : Int) | none => -1
theorem fidx_none {α : Type} {p : α → Bool} {l : List α} (h : ∀ x ∈ l, p x = false) : fidx p l = -1 := by
  unfold fidx
  rw [List.findIdx?_eq_none_iff.2 h]
theorem fidx_some {α : Type} {p : α → Bool} {l : List α} {k : Nat} (hk : k < l.length) (h : ∀ x ∈ l.take k, p x = false) (hp : p l[k] = true) : fidx p l = (k : Int) := by
  have e : l.findIdx? p = some k := by
    rw [List.findIdx?_eq_some_iff_getElem]
    refine ⟨hk, hp, fun j hj => ?_⟩
    have : l[j]'(Nat.lt_trans hj hk) ∈ l.take k := by
      rw [List.mem_take_iff_getElem]
      exact ⟨j, by omega, rfl⟩
    rw [h _ this]; simp
  unfold fidx
  rw [e]
theorem fidx_any {α : Type} (p : α → Bool) (l : List α) : decide (0 ≤ fidx p l) = l.any p := by
  unfold fidx
  cases h : l.findIdx? p with
  | none =>
    have := List.findIdx?_eq_none_iff.1 h
    have hf : l.any p = false := by rw [List.any_eq_false]; intro x hx; rw [this x hx]; simp
    rw [hf]; simp
  | some i =>
    obtain ⟨hi, hp, -⟩ := List.findIdx?_eq_some_iff_getElem.1 h
    have ht : l.any p = true := List.any_eq_true.2 ⟨l[i], List.getElem_mem hi, hp⟩
    rw [ht]; simp

/-- Has this id. -/
def at2 (t a : Int) (x : Am) : Bool := x.time == t && x.actor == a
def lt2 (y x : Am) : Bool := decide (y.time < x.time) || (y.time == x.time && decide (y.actor < x.actor))
def rngA (x : Am) : Bool := decide (1 ≤ x.time ∧ x.time ≤ 10000 ∧ 0 ≤ x.actor ∧ x.actor ≤ 9)
def isOk (x : Am) : Bool := rngA x && decide (x.byte.size = 1) && allOk x.byte.data.toList
def pvOk (l : List Am) (i : Nat) (x : Am) : Bool := match i with
  | 0 => true
  | j + 1 => match l[j]? with
    | none => true
    | some y => lt2 y x
def begA (x : Am) : Bool := x.above == 0 && x.maker == 0
def okM (l : List Am) (i : Nat) : Bool := match l[i]? with
  | none => true
  | some x => isOk x && pvOk l i x && (begA x || (decide (x.above < x.time) && l.any (at2 x.above x.maker)))
def okP (l : List Am) (i : Nat) : Bool := match l[i]? with
  | none => true
  | some x => isOk x && (begA x || (decide (x.above < x.time) && (l.take i).any (at2 x.above x.maker))) && pvOk l i x
def goodM (l : List Am) (k : Nat) : Bool := (List.range k).all (okM l)
def goodP (l : List Am) (k : Nat) : Bool := (List.range k).all (okP l)
def goodQ (l : List Am) : Bool := decide (l.length ≤ 80) && goodM l l.length
theorem goodM_succ (l : List Am) (k : Nat) : goodM l (k + 1) = (goodM l k && okM l k) := by simp [goodM, List.range_succ, List.all_append]
theorem goodP_succ (l : List Am) (k : Nat) : goodP l (k + 1) = (goodP l k && okP l k) := by simp [goodP, List.range_succ, List.all_append]
theorem goodM_at {l : List Am} {n k : Nat} (h : goodM l n = true) (hk : k < n) : okM l k = true := by
  unfold goodM at h
  rw [List.all_eq_true] at h
  exact h k (List.mem_range.2 hk)
theorem goodP_at {l : List Am} {n k : Nat} (h : goodP l n = true) (hk : k < n) : okP l k = true := by
  unfold goodP at h
  rw [List.all_eq_true] at h
  exact h k (List.mem_range.2 hk)
theorem goodM_no {l : List Am} {n k : Nat} (hk : k < n) (h : okM l k = false) : goodM l n = false := by
  cases hg : goodM l n with
  | false => rfl
  | true => rw [goodM_at hg hk] at h; cases h
theorem goodP_no {l : List Am} {n k : Nat} (hk : k < n) (h : okP l k = false) : goodP l n = false := by
  cases hg : goodP l n with
  | false => rfl
  | true => rw [goodP_at hg hk] at h; cases h
theorem okM_at {l : List Am} {i : Nat} (hi : i < l.length) : okM l i = (isOk l[i] && pvOk l i l[i] && (begA l[i] || (decide (l[i].above < l[i].time) && l.any (at2 l[i].above l[i].maker)))) := by
  unfold okM; rw [List.getElem?_eq_getElem hi]
theorem okP_at {l : List Am} {i : Nat} (hi : i < l.length) : okP l i = (isOk l[i] && (begA l[i] || (decide (l[i].above < l[i].time) && (l.take i).any (at2 l[i].above l[i].maker))) && pvOk l i l[i]) := by
  unfold okP; rw [List.getElem?_eq_getElem hi]
theorem pv_succ {l : List Am} {j : Nat} (hj : j < l.length) (x : Am) : pvOk l (j + 1) x = lt2 l[j] x := by
  show (match l[j]? with | none => true | some y => lt2 y x) = _; rw [List.getElem?_eq_getElem hj]
/-- Ids rise. -/
theorem rises {l : List Am} {n : Nat} (hn : n ≤ l.length) (h : ∀ i (hi : i < n), pvOk l i (l[i]'(by omega)) = true) : ∀ j i (hi : i < n) (hj : j < i), lt2 (l[j]'(by omega)) (l[i]'(by omega)) = true := by
  intro j i
  induction i with
  | zero => intro _ hj; omega
  | succ i ih =>
    intro hi hj
    have h1 := h (i + 1) hi
    rw [pv_succ (by omega)] at h1
    by_cases e : j = i
    · subst e; exact h1
    · have h2 := ih (by omega) (by omega)
      unfold lt2 at h1 h2 ⊢
      simp at h1 h2 ⊢
      omega
theorem good_same (l : List Am) : goodP l l.length = goodM l l.length := by
  cases hm : goodM l l.length with
  | true =>
    have hall : ∀ i (hi : i < l.length), okM l i = true := fun i hi => goodM_at hm hi
    have hr := rises (Nat.le_refl _) (fun i hi => by have := hall i hi; rw [okM_at hi] at this; simp at this; exact this.1.2)
    unfold goodP
    rw [List.all_eq_true]
    intro i hi
    have hi := List.mem_range.1 hi
    have h1 := hall i hi
    rw [okM_at hi] at h1
    rw [okP_at hi]
    simp only [Bool.and_eq_true, Bool.or_eq_true] at h1 ⊢
    refine ⟨⟨h1.1.1, h1.2.imp id (fun h => ⟨h.1, ?_⟩)⟩, h1.1.2⟩
    obtain ⟨x, hx, hp⟩ := List.any_eq_true.1 h.2
    obtain ⟨j, hj, rfl⟩ := List.getElem_of_mem hx
    have hlt : j < i := by
      by_cases c : j < i
      · exact c
      · exfalso
        have h3 := h.1
        simp only [at2, Bool.and_eq_true, beq_iff_eq, decide_eq_true_eq] at hp h3
        by_cases e : j = i
        · subst e; omega
        · have h4 := hr i j hj (by omega)
          unfold lt2 at h4
          simp at h4
          omega
    refine List.any_eq_true.2 ⟨l[j], ?_, hp⟩
    rw [List.mem_take_iff_getElem]
    exact ⟨j, by omega, rfl⟩
  | false =>
    cases hp : goodP l l.length with
    | false => rfl
    | true =>
      rw [← hm]
      symm
      unfold goodM
      rw [List.all_eq_true]
      intro i hi
      have hi := List.mem_range.1 hi
      have h1 := goodP_at hp hi
      rw [okP_at hi] at h1
      rw [okM_at hi]
      simp only [Bool.and_eq_true, Bool.or_eq_true] at h1 ⊢
      refine ⟨⟨h1.1.1, h1.2⟩, h1.1.2.imp id (fun h => ⟨h.1, ?_⟩)⟩
      obtain ⟨x, hx, hq⟩ := List.any_eq_true.1 h.2
      exact List.any_eq_true.2 ⟨x, List.mem_of_mem_take hx, hq⟩
end Go.Proofs.YtnhooalibadeeabDoor.Doc1
