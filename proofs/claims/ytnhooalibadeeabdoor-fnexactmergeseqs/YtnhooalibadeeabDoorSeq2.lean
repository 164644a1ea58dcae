/- The order of a sequence's atoms, in plain mathematics: by descent, and by putting each atom just behind what it stands behind. -/
import Derived.Test.YtnhooalibadeeabDoorSeq1
namespace Go.Proofs.YtnhooalibadeeabDoor.Doc1

/-- What an atom stands behind: 0 the beginning, j + 1 the atom with number j. -/
def pr (l : List Am) (i : Nat) : Nat := match l[i]? with
  | none => 0
  | some x => if begA x then 0 else match l.findIdx? (at2 x.above x.maker) with
    | some j => j + 1
    | none => 0
/-- Those of the first k that stand behind q, by falling numbers. -/
def kidsK (p : Nat → Nat) (k q : Nat) : List Nat := (List.range k).reverse.filter (fun i => p i == q)
/-- The order by descent, of the first k, behind q; with so much fuel. -/
def dfs (p : Nat → Nat) (k : Nat) : Nat → Nat → List Nat
  | 0, _ => []
  | f + 1, q => (kidsK p k q).flatMap (fun i => i :: dfs p k f (i + 1))
theorem kidsK_succ (p : Nat → Nat) (k q : Nat) : kidsK p (k + 1) q = (if p k = q then [k] else []) ++ kidsK p k q := by
  unfold kidsK
  rw [List.range_succ, List.reverse_append, List.filter_append]
  simp [List.filter_cons]
theorem kidsK_mem {p : Nat → Nat} {k q i : Nat} (h : i ∈ kidsK p k q) : i < k ∧ p i = q := by
  unfold kidsK at h
  simpa using h
/-- k stands just behind p. -/
def insA (p k : Nat) (o : List Nat) : List Nat := o.flatMap (fun x => if x + 1 = p then [x, k] else [x])
theorem insA_app (p k : Nat) (a b : List Nat) : insA p k (a ++ b) = insA p k a ++ insA p k b := by simp [insA]
theorem insA_flat {α : Type} (p k : Nat) (l : List α) (f : α → List Nat) : insA p k (l.flatMap f) = l.flatMap (fun x => insA p k (f x)) := by
  induction l with
  | nil => rfl
  | cons x l ih => rw [List.flatMap_cons, insA_app, ih, List.flatMap_cons]
theorem insA_none {p k : Nat} {o : List Nat} (h : ∀ x ∈ o, x + 1 ≠ p) : insA p k o = o := by
  induction o with
  | nil => rfl
  | cons x o ih =>
    rw [insA, List.flatMap_cons, if_neg (h x (by simp))]
    show x :: insA p k o = _
    rw [ih (fun y hy => h y (by simp [hy]))]
theorem dfs_none {p : Nat → Nat} {k q : Nat} (h : ∀ i, i < k → p i ≠ q) (f : Nat) : dfs p k f q = [] := by
  cases f with
  | zero => rfl
  | succ f =>
    have : kidsK p k q = [] := List.eq_nil_iff_forall_not_mem.2 (fun i hi => h i (kidsK_mem hi).1 (kidsK_mem hi).2)
    rw [dfs, this]; rfl
/-- One atom more. Each stands behind an earlier one. -/
theorem dfs_succ {p : Nat → Nat} {k : Nat} (hp : ∀ i, i ≤ k → p i ≤ i) : ∀ (f q : Nat), k + 1 ≤ f + q → dfs p (k + 1) (f + 1) q = (if p k = q then [k] else []) ++ insA (p k) k (dfs p k (f + 1) q)
  | f, q, hf => by
    rw [dfs, kidsK_succ, List.flatMap_append, dfs, insA_flat]
    congr 1
    · by_cases c : p k = q
      · rw [if_pos c]
        show k :: dfs p (k + 1) f (k + 1) ++ [] = [k]
        rw [dfs_none (fun i hi => by have := hp i (by omega); omega)]; rfl
      · rw [if_neg c]; rfl
    · rw [List.flatMap_def, List.flatMap_def]
      congr 1
      apply List.map_congr_left
      intro i hi
      obtain ⟨hik, hpi⟩ := kidsK_mem hi
      have hq : q ≤ i := by have := hp i (by omega); omega
      have hi1 : insA (p k) k (i :: dfs p k f (i + 1)) = (if i + 1 = p k then [i, k] else [i]) ++ insA (p k) k (dfs p k f (i + 1)) := rfl
      rw [hi1]
      cases f with
      | zero =>
        exfalso; omega
      | succ f =>
        rw [dfs_succ hp f (i + 1) (by omega)]
        by_cases c : p k = i + 1
        · rw [if_pos c, if_pos c.symm]; rfl
        · rw [if_neg c, if_neg (fun e => c e.symm)]; rfl
/-- The order of the first k. -/
def ordK (p : Nat → Nat) (k : Nat) : List Nat := dfs p k (k + 1) 0
/-- More fuel changes nothing. -/
theorem dfs_fuel {p : Nat → Nat} {k : Nat} (hp : ∀ i, i < k → p i ≤ i) : ∀ (f g q : Nat), k + 1 ≤ f + q → k + 1 ≤ g + q → dfs p k f q = dfs p k g q
  | 0, g, q, hf, hg => by
    rw [dfs_none (fun i hi => by have := hp i hi; omega), dfs_none (fun i hi => by have := hp i hi; omega)]
  | f + 1, 0, q, hf, hg => by
    rw [dfs_none (fun i hi => by have := hp i hi; omega), dfs_none (fun i hi => by have := hp i hi; omega)]
  | f + 1, g + 1, q, hf, hg => by
    rw [dfs, dfs, List.flatMap_def, List.flatMap_def]
    congr 1
    apply List.map_congr_left
    intro i hi
    obtain ⟨hik, hpi⟩ := kidsK_mem hi
    have := hp i hik
    rw [dfs_fuel hp f g (i + 1) (by omega) (by omega)]
theorem ordK_zero (p : Nat → Nat) : ordK p 0 = [] := dfs_none (fun i hi => by omega) _
theorem ordK_succ {p : Nat → Nat} {k : Nat} (hp : ∀ i, i ≤ k → p i ≤ i) : ordK p (k + 1) = (if p k = 0 then [k] else []) ++ insA (p k) k (ordK p k) := by
  unfold ordK
  rw [dfs_succ hp (k + 1) 0 (by omega), dfs_fuel (fun i hi => hp i (by omega)) (k + 1 + 1) (k + 1) 0 (by omega) (by omega)]
/-- Behind the only place where p - 1 stands. -/
theorem insA_at {o : List Nat} (hn : o.Nodup) {pos : Nat} (hp : pos < o.length) (k : Nat) : insA (o[pos] + 1) k o = o.take (pos + 1) ++ k :: o.drop (pos + 1) := by
  induction o generalizing pos with
  | nil => simp at hp
  | cons x o ih =>
    cases pos with
    | zero =>
      show (if x + 1 = x + 1 then [x, k] else [x]) ++ insA (x + 1) k o = [x] ++ k :: o
      have hno : ∀ y ∈ o, y + 1 ≠ x + 1 := fun y hy e => by
        have he : y = x := by omega
        rw [he] at hy
        exact (List.nodup_cons.1 hn).1 hy
      rw [if_pos rfl, insA_none hno]
      rfl
    | succ pos =>
      have hp' : pos < o.length := by simpa using hp
      have hne : ¬ x + 1 = o[pos] + 1 := fun e => by
        have : x = o[pos] := by omega
        exact (List.nodup_cons.1 hn).1 (this ▸ List.getElem_mem hp')
      show (if x + 1 = o[pos] + 1 then [x, k] else [x]) ++ insA (o[pos] + 1) k o = x :: (o.take (pos + 1) ++ k :: o.drop (pos + 1))
      rw [if_neg hne, ih (List.nodup_cons.1 hn).2 hp']
      rfl
/-- All of the first k, each once. -/
theorem ordK_perm {p : Nat → Nat} : ∀ k, (∀ i, i < k → p i ≤ i) → (ordK p k).Perm (List.range k)
  | 0, _ => by rw [ordK_zero]; exact List.Perm.refl _
  | k + 1, hp => by
    have ih := ordK_perm k (fun i hi => hp i (by omega))
    have hn : (ordK p k).Nodup := ih.nodup_iff.2 List.nodup_range
    rw [ordK_succ (fun i hi => hp i (by omega)), List.range_succ]
    have hk := hp k (by omega)
    by_cases c : p k = 0
    · rw [if_pos c, c, insA_none (fun x _ => by omega)]
      exact (List.Perm.cons k ih).trans (List.perm_append_singleton _ _).symm
    · rw [if_neg c, List.nil_append]
      have hm : p k - 1 ∈ ordK p k := ih.mem_iff.2 (List.mem_range.2 (by omega))
      obtain ⟨pos, hpos, he⟩ := List.getElem_of_mem hm
      have e : p k = (ordK p k)[pos] + 1 := by omega
      rw [e, insA_at hn hpos]
      refine List.perm_middle.trans ?_
      rw [List.take_append_drop]
      exact (List.Perm.cons k ih).trans (List.perm_append_singleton _ _).symm
theorem ordK_nodup {p : Nat → Nat} {k : Nat} (hp : ∀ i, i < k → p i ≤ i) : (ordK p k).Nodup := (ordK_perm k hp).nodup_iff.2 List.nodup_range
theorem ordK_len {p : Nat → Nat} {k : Nat} (hp : ∀ i, i < k → p i ≤ i) : (ordK p k).length = k := by rw [(ordK_perm k hp).length_eq, List.length_range]
theorem ordK_mem {p : Nat → Nat} {k : Nat} (hp : ∀ i, i < k → p i ≤ i) {i : Nat} : i ∈ ordK p k ↔ i < k := by rw [(ordK_perm k hp).mem_iff, List.mem_range]
end Go.Proofs.YtnhooalibadeeabDoor.Doc1
