/- The plain mathematics of chapter 4: what two changes do to one byte, pair by pair. The plain mathematics of two changes put together, as the program reads them: the first step by step, the second as far as each wants. -/
import Derived.Test.YtkjioadmebkaoabDoorMoveM
import Derived.Test.YtkjioadmebkaoabDoorCompM
namespace Go.Proofs.YtkjioadmebkaoabDoor.Doc1

def z0s : St := ⟨0, 0⟩
def putB (x : St) : Bool := decide (x.k = 2)
/-- How many puts stand ahead. -/
def nP (r : List St) : Nat := (r.takeWhile putB).length
theorem nP_le : ∀ r : List St, nP r ≤ r.length
  | [] => by simp [nP]
  | x :: r => by
    have := nP_le r
    unfold nP at *
    rw [List.takeWhile_cons]
    split
    · simp; exact this
    · simp
theorem nP_at : ∀ (r : List St) (j : Nat), j < nP r → ∃ h : j < r.length, r[j].k = 2
  | [], j, h => by simp [nP] at h
  | x :: r, j, h => by
    unfold nP at h
    rw [List.takeWhile_cons] at h
    by_cases hx : putB x = true
    · rw [if_pos hx] at h
      cases j with
      | zero => exact ⟨by simp, of_decide_eq_true hx⟩
      | succ j =>
        obtain ⟨h1, h2⟩ := nP_at r j (by unfold nP; simpa using h)
        exact ⟨by simpa using h1, by simpa using h2⟩
    · rw [if_neg hx] at h; simp at h
theorem nP_end : ∀ (r : List St), (∃ x ∈ r, x.k ≠ 2) → ∃ h : nP r < r.length, r[nP r].k ≠ 2
  | [], h => by obtain ⟨x, hx, _⟩ := h; simp at hx
  | x :: r, h => by
    by_cases hx : putB x = true
    · obtain ⟨y, hy, hy2⟩ := h
      have hk := of_decide_eq_true hx
      rcases List.mem_cons.1 hy with rfl | hy
      · exact absurd hk hy2
      · obtain ⟨h1, h2⟩ := nP_end r ⟨y, hy, hy2⟩
        have e : nP (x :: r) = nP r + 1 := by unfold nP; rw [List.takeWhile_cons, if_pos hx]; simp
        exact ⟨by rw [e]; simpa using h1, by simp only [e, List.getElem_cons_succ]; exact h2⟩
    · have e : nP (x :: r) = 0 := by unfold nP; rw [List.takeWhile_cons, if_neg hx]; rfl
      refine ⟨by rw [e]; simp, ?_⟩
      simp only [e, List.getElem_cons_zero]
      intro c; exact hx (decide_eq_true c)
def prT (ys : List St) (s : List (St × St) × Nat) (x : St) : List (St × St) × Nat :=
  if x.k = 2 then (s.1 ++ [(x, z0s)], s.2)
  else (s.1 ++ ((ys.drop s.2).take (nP (ys.drop s.2))).map (fun y => (z0s, y)) ++ [(x, (ys.drop s.2).getD (nP (ys.drop s.2)) z0s)], s.2 + nP (ys.drop s.2) + 1)
def prS (ys pre : List St) : List (St × St) × Nat := pre.foldl (prT ys) ([], 0)
def prF (xs ys : List St) : List (St × St) := (prS ys xs).1 ++ (ys.drop (prS ys xs).2).map (fun y => (z0s, y))
theorem prS_snoc (ys pre : List St) (x : St) : prS ys (pre ++ [x]) = prT ys (prS ys pre) x := by simp [prS]
theorem ctk_app (a b : List St) : ctk (a ++ b) = ctk a + ctk b := by simp [ctk]
theorem ctk_puts : ∀ (r : List St), ctk (r.take (nP r)) = 0
  | [] => by simp [nP, ctk]
  | x :: r => by
    by_cases hx : putB x = true
    · have e : nP (x :: r) = nP r + 1 := by unfold nP; rw [List.takeWhile_cons, if_pos hx]; simp
      have hk := of_decide_eq_true hx
      rw [e, List.take_succ_cons, show x :: r.take (nP r) = [x] ++ r.take (nP r) from rfl, ctk_app, ctk_puts r]
      simp [ctk, hk]
    · have e : nP (x :: r) = 0 := by unfold nP; rw [List.takeWhile_cons, if_neg hx]; rfl
      rw [e]; simp [ctk]
theorem ctk_some {r : List St} (h : 0 < ctk r) : ∃ x ∈ r, x.k ≠ 2 := by
  unfold ctk at h
  obtain ⟨x, hx⟩ := List.exists_mem_of_length_pos h
  exact ⟨x, (List.mem_filter.1 hx).1, of_decide_eq_true (List.mem_filter.1 hx).2⟩
/-- The step that the other change does to the byte is there. -/
theorem pr_next {ys pre : List St} {x : St} (hat : (prS ys pre).2 ≤ ys.length) (hc : ctk (ys.take (prS ys pre).2) = ctk pre) (hx : x.k ≠ 2) (hle : ctk (pre ++ [x]) ≤ ctk ys) :
    ∃ h : (prS ys pre).2 + nP (ys.drop (prS ys pre).2) < ys.length, ys[(prS ys pre).2 + nP (ys.drop (prS ys pre).2)].k ≠ 2 := by
  have e1 : ctk ys = ctk (ys.take (prS ys pre).2) + ctk (ys.drop (prS ys pre).2) := by rw [← ctk_app, List.take_append_drop]
  rw [ctk_snoc, if_neg hx] at hle
  obtain ⟨h1, h2⟩ := nP_end (ys.drop (prS ys pre).2) (ctk_some (by omega))
  rw [List.length_drop] at h1
  refine ⟨by omega, ?_⟩
  rw [List.getElem_drop] at h2
  exact h2
def unl (p : St × St) : Bool := decide (p.1.k = 3) && (decide (p.2.k = 3) && decide (p.1.c ≠ p.2.c))
def tkn (xs : List St) : List St := xs.filter (fun x => decide (x.k ≠ 2))
theorem tkn_app (a b : List St) : tkn (a ++ b) = tkn a ++ tkn b := by simp [tkn]
theorem tkn_len (a : List St) : (tkn a).length = ctk a := rfl
theorem tkn_puts (r : List St) : tkn (r.take (nP r)) = [] := List.eq_nil_of_length_eq_zero (ctk_puts r)
theorem unl_puts (l : List St) : (l.map (fun y => (z0s, y))).any unl = false := by
  rw [← Bool.not_eq_true, List.any_eq_true]
  rintro ⟨p, hp, hu⟩
  obtain ⟨y, _, rfl⟩ := List.mem_map.1 hp
  simp [unl, z0s] at hu
/-- Between two rounds: as many bytes are taken of both, and those that were dropped by both are as they are in pairs. -/
structure PrI (ys pre : List St) : Prop where
  le : (prS ys pre).2 ≤ ys.length
  ct : ctk (ys.take (prS ys pre).2) = ctk pre
  un : (prS ys pre).1.any unl = ((tkn pre).zip (tkn (ys.take (prS ys pre).2))).any unl
  sz : (prS ys pre).1.length ≤ pre.length + (prS ys pre).2
theorem prI_start (ys : List St) : PrI ys [] := ⟨by simp [prS], by simp [prS, ctk], by simp [prS, tkn], by simp [prS]⟩
theorem prI_step {ys pre : List St} {x : St} (h : PrI ys pre) (hle : ctk (pre ++ [x]) ≤ ctk ys) : PrI ys (pre ++ [x]) := by
  by_cases hx : x.k = 2
  · have e : prS ys (pre ++ [x]) = ((prS ys pre).1 ++ [(x, z0s)], (prS ys pre).2) := by rw [prS_snoc]; unfold prT; rw [if_pos hx]
    have e2 : tkn (pre ++ [x]) = tkn pre := by rw [tkn_app]; simp [tkn, hx]
    refine ⟨by rw [e]; exact h.le, by rw [e, ctk_snoc, if_pos hx]; exact h.ct, ?_, ?_⟩
    · rw [e, e2]
      simp only [List.any_append, h.un]
      have : [(x, z0s)].any unl = false := by simp [unl, z0s]
      rw [this, Bool.or_false]
    · rw [e]; have := h.sz; simp; omega
  · obtain ⟨h1, h2⟩ := pr_next h.le h.ct hx hle
    have hg : (ys.drop (prS ys pre).2).getD (nP (ys.drop (prS ys pre).2)) z0s = ys[(prS ys pre).2 + nP (ys.drop (prS ys pre).2)] := by
      rw [List.getD_eq_getElem?_getD, List.getElem?_drop, List.getElem?_eq_getElem h1]; rfl
    have e : prS ys (pre ++ [x]) = ((prS ys pre).1 ++ ((ys.drop (prS ys pre).2).take (nP (ys.drop (prS ys pre).2))).map (fun y => (z0s, y)) ++ [(x, ys[(prS ys pre).2 + nP (ys.drop (prS ys pre).2)])], (prS ys pre).2 + nP (ys.drop (prS ys pre).2) + 1) := by
      rw [prS_snoc]; unfold prT; rw [if_neg hx, hg]
    have et : ys.take ((prS ys pre).2 + nP (ys.drop (prS ys pre).2) + 1) = ys.take (prS ys pre).2 ++ ((ys.drop (prS ys pre).2).take (nP (ys.drop (prS ys pre).2)) ++ [ys[(prS ys pre).2 + nP (ys.drop (prS ys pre).2)]]) := by
      rw [List.take_succ_eq_append_getElem h1, List.take_add, List.append_assoc]
    have et2 : tkn (ys.take ((prS ys pre).2 + nP (ys.drop (prS ys pre).2) + 1)) = tkn (ys.take (prS ys pre).2) ++ [ys[(prS ys pre).2 + nP (ys.drop (prS ys pre).2)]] := by
      rw [et, tkn_app, tkn_app, tkn_puts, List.nil_append]
      simp [tkn, h2]
    have ex : tkn (pre ++ [x]) = tkn pre ++ [x] := by rw [tkn_app]; simp [tkn, hx]
    have hl : (tkn pre).length = (tkn (ys.take (prS ys pre).2)).length := by rw [tkn_len, tkn_len, h.ct]
    refine ⟨by rw [e]; simp only; omega, ?_, ?_, ?_⟩
    · rw [e]
      simp only
      rw [← tkn_len, et2, List.length_append, tkn_len, h.ct, ctk_snoc, if_neg hx]; rfl
    · rw [e]
      simp only
      rw [et2, ex, List.zip_append hl, List.any_append, List.any_append, List.any_append, unl_puts, Bool.or_false, h.un]
      simp
    · rw [e]
      have := h.sz
      simp only [List.length_append, List.length_map, List.length_take, List.length_drop, List.length_cons, List.length_nil]
      omega
theorem prI_all (ys : List St) : ∀ (n : Nat) (pre : List St), pre.length = n → ctk pre ≤ ctk ys → PrI ys pre
  | 0, pre, h, _ => by rw [List.eq_nil_of_length_eq_zero h]; exact prI_start ys
  | n + 1, pre, h, hc => by
    obtain ⟨r, x, rfl⟩ : ∃ r x, pre = r ++ [x] := ⟨pre.dropLast, pre.getLast (fun c => by simp [c] at h), (List.dropLast_concat_getLast _).symm⟩
    refine prI_step (prI_all ys n r (by simpa using h) ?_) hc
    rw [ctk_app] at hc; omega
theorem prI_of {ys pre : List St} (h : ctk pre ≤ ctk ys) : PrI ys pre := prI_all ys _ pre rfl h
theorem prF_un {xs ys : List St} (h : ctk xs = ctk ys) : (prF xs ys).any unl = ((tkn xs).zip (tkn ys)).any unl := by
  have hI := prI_of (ys := ys) (pre := xs) (by omega)
  unfold prF
  rw [List.any_append, unl_puts, Bool.or_false, hI.un]
  have e1 : ctk ys = ctk (ys.take (prS ys xs).2) + ctk (ys.drop (prS ys xs).2) := by rw [← ctk_app, List.take_append_drop]
  have e2 : tkn (ys.drop (prS ys xs).2) = [] := List.eq_nil_of_length_eq_zero (by rw [tkn_len]; have := hI.ct; omega)
  have e3 : tkn ys = tkn (ys.take (prS ys xs).2) := by
    have := congrArg tkn (List.take_append_drop (prS ys xs).2 ys)
    rw [tkn_app, e2, List.append_nil] at this
    exact this.symm
  rw [e3]
theorem prF_len {xs ys : List St} (h : ctk xs = ctk ys) : (prF xs ys).length ≤ xs.length + ys.length := by
  have hI := prI_of (ys := ys) (pre := xs) (by omega)
  unfold prF
  have := hI.sz
  have := hI.le
  simp only [List.length_append, List.length_map, List.length_drop]
  omega
/-- The byte that a step takes, 0 where it is kept. -/
def tkC (x : St) : UInt8 := if x.k = 1 then 0 else x.c
theorem by_tkn {l : List Pt} (hp : ∀ p ∈ l, pk p ≠ 0) : byL l = (tkn (stL l)).map tkC := by
  induction l with
  | nil => rfl
  | cons p l ih =>
    have e : stL (p :: l) = stp p ++ stL l := by simp [stL]
    rw [byL_cons, e, tkn_app, List.map_append, ih (fun q hq => hp q (List.mem_cons_of_mem _ hq))]
    congr 1
    unfold stp
    rw [tkn_app, tkn_app, List.map_append, List.map_append]
    have a1 : (tkn (List.replicate p.keep.toNat (⟨1, 0⟩ : St))).map tkC = List.replicate p.keep.toNat 0 := by simp [tkn, tkC]
    have a2 : tkn (p.put.data.toList.map (fun c => (⟨2, c⟩ : St))) = [] := by simp [tkn]
    have a3 : (tkn (p.drop.data.toList.map (fun c => (⟨3, c⟩ : St)))).map tkC = p.drop.data.toList := by
      simp [tkn, tkC, List.filter_map, Function.comp_def]
    rw [a1, a2, a3]; rfl
/-- Whether both drop the same where both drop. -/
def likeB (bx by_ : List UInt8) : Bool := (bx.zip by_).all (fun p => decide (p.1 = 0) || (decide (p.2 = 0) || decide (p.1 = p.2)))
theorem like_un : ∀ (xs ys : List St), (∀ x ∈ xs, so x ∧ x.k ≠ 2) → (∀ y ∈ ys, so y ∧ y.k ≠ 2) → likeB (xs.map tkC) (ys.map tkC) = !((xs.zip ys).any unl)
  | [], _, _, _ => by simp [likeB]
  | _ :: _, [], _, _ => by simp [likeB]
  | x :: xs, y :: ys, hx, hy => by
    have ih := like_un xs ys (fun a ha => hx a (List.mem_cons_of_mem _ ha)) (fun a ha => hy a (List.mem_cons_of_mem _ ha))
    unfold likeB at ih ⊢
    simp only [List.map_cons, List.zip_cons_cons, List.all_cons, List.any_cons, Bool.not_or]
    rw [ih]
    congr 1
    obtain ⟨⟨sx, ox⟩, nx⟩ := hx x List.mem_cons_self
    obtain ⟨⟨sy, oy⟩, ny⟩ := hy y List.mem_cons_self
    have kx : x.k = 1 ∨ x.k = 3 := by rcases sx with e | e | e <;> omega
    have ky : y.k = 1 ∨ y.k = 3 := by rcases sy with e | e | e <;> omega
    unfold unl tkC
    rcases kx with a | a
    · simp [a]
    · rcases ky with b | b
      · simp [a, b]
      · have n1 := ok_ne0 (ox (by omega))
        have n2 := ok_ne0 (oy (by omega))
        simp [a, b, n1, n2]
theorem tkn_mem {l : List Pt} (hp : ∀ p ∈ l, pk p ≠ 0) : ∀ x ∈ tkn (stL l), so x ∧ x.k ≠ 2 := fun x hx => by
  obtain ⟨h1, h2⟩ := List.mem_filter.1 hx
  exact ⟨stL_so hp x h1, of_decide_eq_true h2⟩
theorem same_pairs {la lb : List Pt} (ha : ∀ p ∈ la, pk p ≠ 0) (hb : ∀ p ∈ lb, pk p ≠ 0) (h : ctk (stL la) = ctk (stL lb)) : likeB (byL la) (byL lb) = !((prF (stL la) (stL lb)).any unl) := by
  rw [prF_un h, by_tkn ha, by_tkn hb]
  exact like_un _ _ (tkn_mem ha) (tkn_mem hb)
end Go.Proofs.YtkjioadmebkaoabDoor.Doc1

namespace Go.Proofs.YtkjioadmebkaoabDoor.Doc1

/-- The step of the second change that meets a step of the first one. -/
def cpY (ys : List St) (at_ : Nat) : St := (ys.drop at_).getD (nP (ys.drop at_)) z0s
/-- What is told of both, and whether they fit. -/
def cpB (x y : St) : Option (List St) := if x.k = 1 then some [y] else if y.k = 1 then some [x] else if x.c = y.c then some [] else none
structure CpI (ys pre T : List St) (at_ : Nat) : Prop where
  le : at_ ≤ ys.length
  ct : ctk (ys.take at_) = cmk pre
  sz : T.length ≤ pre.length + at_
  all : ∀ post, cmpS (pre ++ post) ys = (cmpS post (ys.drop at_)).map (T ++ ·)
theorem cpI_start (ys : List St) : CpI ys [] [] 0 := ⟨by simp, by simp [ctk, cmk], by simp, fun post => by cases h : cmpS post ys <;> simp [h]⟩
theorem map_app (o : Option (List St)) (T U : List St) : (o.map (U ++ ·)).map (T ++ ·) = o.map ((T ++ U) ++ ·) := by cases o <;> simp
theorem cmk_app (a b : List St) : cmk (a ++ b) = cmk a + cmk b := by simp [cmk]
theorem cpI_drop {ys pre T : List St} {at_ : Nat} (h : CpI ys pre T at_) {x : St} (hx : x.k = 3) : CpI ys (pre ++ [x]) (T ++ [x]) at_ := by
  refine ⟨h.le, ?_, ?_, fun post => ?_⟩
  · rw [h.ct, cmk_app]; simp [cmk, hx]
  · have := h.sz; simp; omega
  · rw [List.append_assoc, h.all]
    show (cmpS (x :: post) _).map _ = _
    rw [cmpS_drop hx]
    have e : (fun r : List St => x :: r) = ([x] ++ ·) := rfl
    rw [e, map_app]
theorem puts_sP (r : List St) : r.take (nP r) = sP ((r.take (nP r)).map (·.c)) := by
  unfold sP
  rw [List.map_map]
  have : ∀ y ∈ r.take (nP r), ((fun c => (⟨2, c⟩ : St)) ∘ (·.c)) y = y := by
    intro y hy
    obtain ⟨j, hj, rfl⟩ := List.getElem_of_mem hy
    rw [List.length_take] at hj
    obtain ⟨h1, h2⟩ := nP_at r j (by omega)
    rw [List.getElem_take]
    show (⟨2, r[j].c⟩ : St) = r[j]
    rw [← h2]
  conv => lhs; rw [← List.map_id (r.take (nP r))]
  exact (List.map_congr_left this).symm
/-- There is a step that meets. -/
theorem cp_next {ys pre T : List St} {at_ : Nat} (h : CpI ys pre T at_) {x : St} (hx : x.k ≠ 3) (hle : cmk (pre ++ [x]) ≤ ctk ys) :
    ∃ hn : at_ + nP (ys.drop at_) < ys.length, cpY ys at_ = ys[at_ + nP (ys.drop at_)] ∧ (cpY ys at_).k ≠ 2 := by
  have e1 : cmk (pre ++ [x]) = cmk pre + 1 := by rw [cmk_app]; simp [cmk, hx]
  have e2 : ctk ys = ctk (ys.take at_) + ctk (ys.drop at_) := by rw [← ctk_app, List.take_append_drop]
  have hpos : 0 < ctk (ys.drop at_) := by have := h.ct; omega
  obtain ⟨h1, h2⟩ := nP_end _ (ctk_some hpos)
  rw [List.length_drop] at h1
  have hn : at_ + nP (ys.drop at_) < ys.length := by omega
  have e : cpY ys at_ = ys[at_ + nP (ys.drop at_)] := by
    unfold cpY
    rw [List.getD_eq_getElem?_getD, List.getElem?_drop, List.getElem?_eq_getElem hn]; rfl
  refine ⟨hn, e, ?_⟩
  rw [e]
  rw [List.getElem_drop] at h2
  exact h2
theorem drop_split {ys : List St} {at_ : Nat} (hn : at_ + nP (ys.drop at_) < ys.length) : ys.drop at_ = (ys.drop at_).take (nP (ys.drop at_)) ++ ys[at_ + nP (ys.drop at_)] :: ys.drop (at_ + nP (ys.drop at_) + 1) := by
  have h := (List.take_append_drop (nP (ys.drop at_)) (ys.drop at_)).symm
  rw [List.drop_drop] at h
  rw [List.drop_eq_getElem_cons hn] at h
  exact h
theorem cp_meet {ys pre T : List St} {at_ : Nat} (h : CpI ys pre T at_) {x : St} (hx : x.k ≠ 3) (hle : cmk (pre ++ [x]) ≤ ctk ys) (post : List St) :
    cmpS (pre ++ x :: post) ys = match cpB x (cpY ys at_) with
      | none => none
      | some b => (cmpS post (ys.drop (at_ + nP (ys.drop at_) + 1))).map ((T ++ (ys.drop at_).take (nP (ys.drop at_)) ++ b) ++ ·) := by
  obtain ⟨hn, e, hy⟩ := cp_next h hx hle
  have hs := drop_split hn
  rw [h.all]
  have hc : cmpS (x :: post) (ys.drop at_) = (cmpS (x :: post) (cpY ys at_ :: ys.drop (at_ + nP (ys.drop at_) + 1))).map ((ys.drop at_).take (nP (ys.drop at_)) ++ ·) := by
    conv => lhs; rw [hs]
    rw [puts_sP, cmp_put (fun z r hz => by cases hz; exact hx), ← puts_sP, e]
  rw [hc, map_app, cmpS_xy, if_neg hx, if_neg hy]
  unfold cpB
  by_cases h1 : x.k = 1
  · rw [if_pos h1, if_pos h1]
    have ee : (fun r : List St => cpY ys at_ :: r) = ([cpY ys at_] ++ ·) := rfl
    rw [ee, map_app]
  · rw [if_neg h1, if_neg h1]
    by_cases h2 : (cpY ys at_).k = 1
    · rw [if_pos h2, if_pos h2]
      have ee : (fun r : List St => x :: r) = ([x] ++ ·) := rfl
      rw [ee, map_app]
    · rw [if_neg h2, if_neg h2]
      by_cases h3 : x.c = (cpY ys at_).c
      · rw [if_pos h3, if_pos h3]
        simp
      · rw [if_neg h3, if_neg h3]; rfl
theorem cpI_meet {ys pre T : List St} {at_ : Nat} (h : CpI ys pre T at_) {x : St} (hx : x.k ≠ 3) (hle : cmk (pre ++ [x]) ≤ ctk ys) {b : List St} (hb : cpB x (cpY ys at_) = some b) :
    CpI ys (pre ++ [x]) (T ++ (ys.drop at_).take (nP (ys.drop at_)) ++ b) (at_ + nP (ys.drop at_) + 1) := by
  obtain ⟨hn, e, hy⟩ := cp_next h hx hle
  refine ⟨by omega, ?_, ?_, fun post => ?_⟩
  · have e1 : cmk (pre ++ [x]) = cmk pre + 1 := by rw [cmk_app]; simp [cmk, hx]
    rw [e1, ← h.ct]
    have hs := drop_split hn
    have e2 : ys.take (at_ + nP (ys.drop at_) + 1) = ys.take at_ ++ ((ys.drop at_).take (nP (ys.drop at_)) ++ [ys[at_ + nP (ys.drop at_)]]) := by
      rw [List.take_succ_eq_append_getElem hn, List.take_add, List.append_assoc]
    rw [e2, ctk_app, ctk_app, ctk_puts]
    rw [e] at hy
    simp [ctk, hy]
  · have h1 : b.length ≤ 1 := by
      unfold cpB at hb
      split at hb
      · cases hb; simp
      · split at hb
        · cases hb; simp
        · split at hb
          · cases hb; simp
          · cases hb
    have := h.sz
    have h2 := List.length_take_le (nP (ys.drop at_)) (ys.drop at_)
    simp only [List.length_append, List.length_cons, List.length_nil]
    omega
  · rw [List.append_assoc]
    show cmpS (pre ++ x :: post) ys = _
    rw [cp_meet h hx hle, hb]
/-- What is left of the second change is put. -/
theorem puts_cmp : ∀ (zs : List St), ctk zs = 0 → cmpS [] zs = some zs
  | [], _ => cmpS_nil
  | z :: zs, h => by
    have hz : z.k = 2 := by
      by_cases c : z.k = 2
      · exact c
      · exfalso
        have : ctk (z :: zs) = ctk zs + 1 := by simp [ctk, c]
        omega
    have h' : ctk zs = 0 := by
      have : ctk (z :: zs) = ctk zs := by simp [ctk, hz]
      omega
    rw [cmpS_y, if_pos hz, puts_cmp zs h']; rfl
theorem cp_end {ys xs T : List St} {at_ : Nat} (h : CpI ys xs T at_) (he : cmk xs = ctk ys) : cmpS xs ys = some (T ++ ys.drop at_) := by
  have hz : ctk (ys.drop at_) = 0 := by
    have e2 : ctk ys = ctk (ys.take at_) + ctk (ys.drop at_) := by rw [← ctk_app, List.take_append_drop]
    have := h.ct; omega
  have := h.all []
  rw [List.append_nil, puts_cmp _ hz] at this
  exact this
end Go.Proofs.YtkjioadmebkaoabDoor.Doc1

namespace Go.Proofs.YtkjioadmebkaoabDoor
open Doc1
/-- What ComposeOps answers. -/
def cmpO (a b : List Pt) : List Pt × Bool := if goodO a = true ∧ goodO b = true then (match cmpS (stL a) (stL b) with
  | none => ([], false)
  | some T => if goodO (gath g0 T).out = true then ((gath g0 T).out, true) else ([], false)) else ([], false)
theorem cmpO_eq {a b : List Pt} (ha : goodO a = true) (hb : goodO b = true) : (∀ T, cmpS (stL a) (stL b) = some T → cmpO a b = (if goodO (gath g0 T).out then (gath g0 T).out else [], goodO (gath g0 T).out)) ∧ (cmpS (stL a) (stL b) = none → cmpO a b = ([], false)) := by
  refine ⟨fun T h => ?_, fun h => ?_⟩
  · unfold cmpO
    rw [if_pos ⟨ha, hb⟩, h]
    cases hg : goodO (gath g0 T).out <;> simp [hg]
  · unfold cmpO
    rw [if_pos ⟨ha, hb⟩, h]
theorem cmpO_no {a b : List Pt} (h : ¬ (goodO a = true ∧ goodO b = true ∧ mkL a = tkL b)) : cmpO a b = ([], false) := by
  unfold cmpO
  by_cases hg : goodO a = true ∧ goodO b = true
  · rw [if_pos hg]
    cases hc : cmpS (stL a) (stL b) with
    | none => rfl
    | some T =>
      exfalso
      have hpa := goodO_pk hg.1
      have hpb := goodO_pk hg.2
      have hf := cmp_fit _ _ _ T rfl (fun x hx => (stL_so hpa x hx).1) (fun y hy => (stL_so hpb y hy).1) hc
      have h1 := (stL_sums a hpa).2
      have h2 := (stL_sums b hpb).1
      exact h ⟨hg.1, hg.2, by omega⟩
  · rw [if_neg hg]
end Go.Proofs.YtkjioadmebkaoabDoor
