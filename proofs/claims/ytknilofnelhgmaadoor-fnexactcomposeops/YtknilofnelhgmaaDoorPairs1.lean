/- The plain mathematics of chapter 4: what two changes do to one byte, pair by pair. -/
import Derived.Test.YtknilofnelhgmaaDoorMoveM
namespace Go.Proofs.YtknilofnelhgmaaDoor.Doc1

def z0s : St := ⟨0, 0⟩
def putB (x : St) : Bool := decide (x.k = 2)
/-- How many puts stand ahead. -/
def nP (r : List St) : Nat := (r.takeWhile putB).length
theorem nP_le : ∀ r : List St, nP r ≤ r.length
  | [] => by simp [nP]
  | x :: r => by
    have := nP_le r
    unfold nP at *
    rw [List.takeWhile_cons]
    split
    · simp; exact this
    · simp
theorem nP_at : ∀ (r : List St) (j : Nat), j < nP r → ∃ h : j < r.length, r[j].k = 2
  | [], j, h => by simp [nP] at h
  | x :: r, j, h => by
    unfold nP at h
    rw [List.takeWhile_cons] at h
    by_cases hx : putB x = true
    · rw [if_pos hx] at h
      cases j with
      | zero => exact ⟨by simp, of_decide_eq_true hx⟩
      | succ j =>
        obtain ⟨h1, h2⟩ := nP_at r j (by unfold nP; simpa using h)
        exact ⟨by simpa using h1, by simpa using h2⟩
    · rw [if_neg hx] at h; simp at h
theorem nP_end : ∀ (r : List St), (∃ x ∈ r, x.k ≠ 2) → ∃ h : nP r < r.length, r[nP r].k ≠ 2
  | [], h => by obtain ⟨x, hx, _⟩ := h; simp at hx
  | x :: r, h => by
    by_cases hx : putB x = true
    · obtain ⟨y, hy, hy2⟩ := h
      have hk := of_decide_eq_true hx
      rcases List.mem_cons.1 hy with rfl | hy
      · exact absurd hk hy2
      · obtain ⟨h1, h2⟩ := nP_end r ⟨y, hy, hy2⟩
        have e : nP (x :: r) = nP r + 1 := by unfold nP; rw [List.takeWhile_cons, if_pos hx]; simp
        exact ⟨by rw [e]; simpa using h1, by simp only [e, List.getElem_cons_succ]; exact h2⟩
    · have e : nP (x :: r) = 0 := by unfold nP; rw [List.takeWhile_cons, if_neg hx]; rfl
      refine ⟨by rw [e]; simp, ?_⟩
      simp only [e, List.getElem_cons_zero]
      intro c; exact hx (decide_eq_true c)
def prT (ys : List St) (s : List (St × St) × Nat) (x : St) : List (St × St) × Nat :=
  if x.k = 2 then (s.1 ++ [(x, z0s)], s.2)
  else (s.1 ++ ((ys.drop s.2).take (nP (ys.drop s.2))).map (fun y => (z0s, y)) ++ [(x, (ys.drop s.2).getD (nP (ys.drop s.2)) z0s)], s.2 + nP (ys.drop s.2) + 1)
def prS (ys pre : List St) : List (St × St) × Nat := pre.foldl (prT ys) ([], 0)
def prF (xs ys : List St) : List (St × St) := (prS ys xs).1 ++ (ys.drop (prS ys xs).2).map (fun y => (z0s, y))
theorem prS_snoc (ys pre : List St) (x : St) : prS ys (pre ++ [x]) = prT ys (prS ys pre) x := by simp [prS]
theorem ctk_app (a b : List St) : ctk (a ++ b) = ctk a + ctk b := by simp [ctk]
theorem ctk_puts : ∀ (r : List St), ctk (r.take (nP r)) = 0
  | [] => by simp [nP, ctk]
  | x :: r => by
    by_cases hx : putB x = true
    · have e : nP (x :: r) = nP r + 1 := by unfold nP; rw [List.takeWhile_cons, if_pos hx]; simp
      have hk := of_decide_eq_true hx
      rw [e, List.take_succ_cons, show x :: r.take (nP r) = [x] ++ r.take (nP r) from rfl, ctk_app, ctk_puts r]
      simp [ctk, hk]
    · have e : nP (x :: r) = 0 := by unfold nP; rw [List.takeWhile_cons, if_neg hx]; rfl
      rw [e]; simp [ctk]
theorem ctk_some {r : List St} (h : 0 < ctk r) : ∃ x ∈ r, x.k ≠ 2 := by
  unfold ctk at h
  obtain ⟨x, hx⟩ := List.exists_mem_of_length_pos h
  exact ⟨x, (List.mem_filter.1 hx).1, of_decide_eq_true (List.mem_filter.1 hx).2⟩
/-- The step that the other change does to the byte is there. -/
theorem pr_next {ys pre : List St} {x : St} (hat : (prS ys pre).2 ≤ ys.length) (hc : ctk (ys.take (prS ys pre).2) = ctk pre) (hx : x.k ≠ 2) (hle : ctk (pre ++ [x]) ≤ ctk ys) :
    ∃ h : (prS ys pre).2 + nP (ys.drop (prS ys pre).2) < ys.length, ys[(prS ys pre).2 + nP (ys.drop (prS ys pre).2)].k ≠ 2 := by
  have e1 : ctk ys = ctk (ys.take (prS ys pre).2) + ctk (ys.drop (prS ys pre).2) := by rw [← ctk_app, List.take_append_drop]
  rw [ctk_snoc, if_neg hx] at hle
  obtain ⟨h1, h2⟩ := nP_end (ys.drop (prS ys pre).2) (ctk_some (by omega))
  rw [List.length_drop] at h1
  refine ⟨by omega, ?_⟩
  rw [List.getElem_drop] at h2
  exact h2
def unl (p : St × St) : Bool := decide (p.1.k = 3) && (decide (p.2.k = 3) && decide (p.1.c ≠ p.2.c))
def tkn (xs : List St) : List St := xs.filter (fun x => decide (x.k ≠ 2))
theorem tkn_app (a b : List St) : tkn (a ++ b) = tkn a ++ tkn b := by simp [tkn]
theorem tkn_len (a : List St) : (tkn a).length = ctk a := rfl
theorem tkn_puts (r : List St) : tkn (r.take (nP r)) = [] := List.eq_nil_of_length_eq_zero (ctk_puts r)
theorem unl_puts (l : List St) : (l.map (fun y => (z0s, y))).any unl = false := by
  rw [← Bool.not_eq_true, List.any_eq_true]
  rintro ⟨p, hp, hu⟩
  obtain ⟨y, _, rfl⟩ := List.mem_map.1 hp
  simp [unl, z0s] at hu
/-- Between two rounds: as many bytes are taken of both, and those that were dropped by both are as they are in pairs. -/
structure PrI (ys pre : List St) : Prop where
  le : (prS ys pre).2 ≤ ys.length
  ct : ctk (ys.take (prS ys pre).2) = ctk pre
  un : (prS ys pre).1.any unl = ((tkn pre).zip (tkn (ys.take (prS ys pre).2))).any unl
  sz : (prS ys pre).1.length ≤ pre.length + (prS ys pre).2
theorem prI_start (ys : List St) : PrI ys [] := ⟨by simp [prS], by simp [prS, ctk], by simp [prS, tkn], by simp [prS]⟩
theorem prI_step {ys pre : List St} {x : St} (h : PrI ys pre) (hle : ctk (pre ++ [x]) ≤ ctk ys) : PrI ys (pre ++ [x]) := by
  by_cases hx : x.k = 2
  · have e : prS ys (pre ++ [x]) = ((prS ys pre).1 ++ [(x, z0s)], (prS ys pre).2) := by rw [prS_snoc]; unfold prT; rw [if_pos hx]
    have e2 : tkn (pre ++ [x]) = tkn pre := by rw [tkn_app]; simp [tkn, hx]
    refine ⟨by rw [e]; exact h.le, by rw [e, ctk_snoc, if_pos hx]; exact h.ct, ?_, ?_⟩
    · rw [e, e2]
      simp only [List.any_append, h.un]
      have : [(x, z0s)].any unl = false := by simp [unl, z0s]
      rw [this, Bool.or_false]
    · rw [e]; have := h.sz; simp; omega
  · obtain ⟨h1, h2⟩ := pr_next h.le h.ct hx hle
    have hg : (ys.drop (prS ys pre).2).getD (nP (ys.drop (prS ys pre).2)) z0s = ys[(prS ys pre).2 + nP (ys.drop (prS ys pre).2)] := by
      rw [List.getD_eq_getElem?_getD, List.getElem?_drop, List.getElem?_eq_getElem h1]; rfl
    have e : prS ys (pre ++ [x]) = ((prS ys pre).1 ++ ((ys.drop (prS ys pre).2).take (nP (ys.drop (prS ys pre).2))).map (fun y => (z0s, y)) ++ [(x, ys[(prS ys pre).2 + nP (ys.drop (prS ys pre).2)])], (prS ys pre).2 + nP (ys.drop (prS ys pre).2) + 1) := by
      rw [prS_snoc]; unfold prT; rw [if_neg hx, hg]
    have et : ys.take ((prS ys pre).2 + nP (ys.drop (prS ys pre).2) + 1) = ys.take (prS ys pre).2 ++ ((ys.drop (prS ys pre).2).take (nP (ys.drop (prS ys pre).2)) ++ [ys[(prS ys pre).2 + nP (ys.drop (prS ys pre).2)]]) := by
      rw [List.take_succ_eq_append_getElem h1, List.take_add, List.append_assoc]
    have et2 : tkn (ys.take ((prS ys pre).2 + nP (ys.drop (prS ys pre).2) + 1)) = tkn (ys.take (prS ys pre).2) ++ [ys[(prS ys pre).2 + nP (ys.drop (prS ys pre).2)]] := by
      rw [et, tkn_app, tkn_app, tkn_puts, List.nil_append]
      simp [tkn, h2]
    have ex : tkn (pre ++ [x]) = tkn pre ++ [x] := by rw [tkn_app]; simp [tkn, hx]
    have hl : (tkn pre).length = (tkn (ys.take (prS ys pre).2)).length := by rw [tkn_len, tkn_len, h.ct]
    refine ⟨by rw [e]; simp only; omega, ?_, ?_, ?_⟩
    · rw [e]
      simp only
      rw [← tkn_len, et2, List.length_append, tkn_len, h.ct, ctk_snoc, if_neg hx]; rfl
    · rw [e]
      simp only
      rw [et2, ex, List.zip_append hl, List.any_append, List.any_append, List.any_append, unl_puts, Bool.or_false, h.un]
      simp
    · rw [e]
      have := h.sz
      simp only [List.length_append, List.length_map, List.length_take, List.length_drop, List.length_cons, List.length_nil]
      omega
theorem prI_all (ys : List St) : ∀ (n : Nat) (pre : List St), pre.length = n → ctk pre ≤ ctk ys → PrI ys pre
  | 0, pre, h, _ => by rw [List.eq_nil_of_length_eq_zero h]; exact prI_start ys
  | n + 1, pre, h, hc => by
    obtain ⟨r, x, rfl⟩ : ∃ r x, pre = r ++ [x] := ⟨pre.dropLast, pre.getLast (fun c => by simp [c] at h), (List.dropLast_concat_getLast _).symm⟩
    refine prI_step (prI_all ys n r (by simpa using h) ?_) hc
    rw [ctk_app] at hc; omega
theorem prI_of {ys pre : List St} (h : ctk pre ≤ ctk ys) : PrI ys pre := prI_all ys _ pre rfl h
theorem prF_un {xs ys : List St} (h : ctk xs = ctk ys) : (prF xs ys).any unl = ((tkn xs).zip (tkn ys)).any unl := by
  have hI := prI_of (ys := ys) (pre := xs) (by omega)
  unfold prF
  rw [List.any_append, unl_puts, Bool.or_false, hI.un]
  have e1 : ctk ys = ctk (ys.take (prS ys xs).2) + ctk (ys.drop (prS ys xs).2) := by rw [← ctk_app, List.take_append_drop]
  have e2 : tkn (ys.drop (prS ys xs).2) = [] := List.eq_nil_of_length_eq_zero (by rw [tkn_len]; have := hI.ct; omega)
  have e3 : tkn ys = tkn (ys.take (prS ys xs).2) := by
    have := congrArg tkn (List.take_append_drop (prS ys xs).2 ys)
    rw [tkn_app, e2, List.append_nil] at this
    exact this.symm
  rw [e3]
theorem prF_len {xs ys : List St} (h : ctk xs = ctk ys) : (prF xs ys).length ≤ xs.length + ys.length := by
  have hI := prI_of (ys := ys) (pre := xs) (by omega)
  unfold prF
  have := hI.sz
  have := hI.le
  simp only [List.length_append, List.length_map, List.length_drop]
  omega
/-- The byte that a step takes, 0 where it is kept. -/
def tkC (x : St) : UInt8 := if x.k = 1 then 0 else x.c
theorem by_tkn {l : List Pt} (hp : ∀ p ∈ l, pk p ≠ 0) : byL l = (tkn (stL l)).map tkC := by
  induction l with
  | nil => rfl
  | cons p l ih =>
    have e : stL (p :: l) = stp p ++ stL l := by simp [stL]
    rw [byL_cons, e, tkn_app, List.map_append, ih (fun q hq => hp q (List.mem_cons_of_mem _ hq))]
    congr 1
    unfold stp
    rw [tkn_app, tkn_app, List.map_append, List.map_append]
    have a1 : (tkn (List.replicate p.keep.toNat (⟨1, 0⟩ : St))).map tkC = List.replicate p.keep.toNat 0 := by simp [tkn, tkC]
    have a2 : tkn (p.put.data.toList.map (fun c => (⟨2, c⟩ : St))) = [] := by simp [tkn]
    have a3 : (tkn (p.drop.data.toList.map (fun c => (⟨3, c⟩ : St)))).map tkC = p.drop.data.toList := by
      simp [tkn, tkC, List.filter_map, Function.comp_def]
    rw [a1, a2, a3]; rfl
/-- Whether both drop the same where both drop. -/
def likeB (bx by_ : List UInt8) : Bool := (bx.zip by_).all (fun p => decide (p.1 = 0) || (decide (p.2 = 0) || decide (p.1 = p.2)))
theorem like_un : ∀ (xs ys : List St), (∀ x ∈ xs, so x ∧ x.k ≠ 2) → (∀ y ∈ ys, so y ∧ y.k ≠ 2) → likeB (xs.map tkC) (ys.map tkC) = !((xs.zip ys).any unl)
  | [], _, _, _ => by simp [likeB]
  | _ :: _, [], _, _ => by simp [likeB]
  | x :: xs, y :: ys, hx, hy => by
    have ih := like_un xs ys (fun a ha => hx a (List.mem_cons_of_mem _ ha)) (fun a ha => hy a (List.mem_cons_of_mem _ ha))
    unfold likeB at ih ⊢
    simp only [List.map_cons, List.zip_cons_cons, List.all_cons, List.any_cons, Bool.not_or]
    rw [ih]
    congr 1
    obtain ⟨⟨sx, ox⟩, nx⟩ := hx x List.mem_cons_self
    obtain ⟨⟨sy, oy⟩, ny⟩ := hy y List.mem_cons_self
    have kx : x.k = 1 ∨ x.k = 3 := by rcases sx with e | e | e <;> omega
    have ky : y.k = 1 ∨ y.k = 3 := by rcases sy with e | e | e <;> omega
    unfold unl tkC
    rcases kx with a | a
    · simp [a]
    · rcases ky with b | b
      · simp [a, b]
      · have n1 := ok_ne0 (ox (by omega))
        have n2 := ok_ne0 (oy (by omega))
        simp [a, b, n1, n2]
theorem tkn_mem {l : List Pt} (hp : ∀ p ∈ l, pk p ≠ 0) : ∀ x ∈ tkn (stL l), so x ∧ x.k ≠ 2 := fun x hx => by
  obtain ⟨h1, h2⟩ := List.mem_filter.1 hx
  exact ⟨stL_so hp x h1, of_decide_eq_true h2⟩
theorem same_pairs {la lb : List Pt} (ha : ∀ p ∈ la, pk p ≠ 0) (hb : ∀ p ∈ lb, pk p ≠ 0) (h : ctk (stL la) = ctk (stL lb)) : likeB (byL la) (byL lb) = !((prF (stL la) (stL lb)).any unl) := by
  rw [prF_un h, by_tkn ha, by_tkn hb]
  exact like_un _ _ (tkn_mem ha) (tkn_mem hb)
end Go.Proofs.YtknilofnelhgmaaDoor.Doc1
