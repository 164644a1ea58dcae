/- The plain mathematics of two changes put together, as the program reads them: the first step by step, the second as far as each wants. -/
import Derived.Test.YtknilofnelhgmaaDoorCompM
import Derived.Test.YtknilofnelhgmaaDoorPairs1
namespace Go.Proofs.YtknilofnelhgmaaDoor.Doc1

/-- The step of the second change that meets a step of the first one. -/
def cpY (ys : List St) (at_ : Nat) : St := (ys.drop at_).getD (nP (ys.drop at_)) z0s
/-- What is told of both, and whether they fit. -/
def cpB (x y : St) : Option (List St) := if x.k = 1 then some [y] else if y.k = 1 then some [x] else if x.c = y.c then some [] else none
structure CpI (ys pre T : List St) (at_ : Nat) : Prop where
  le : at_ ≤ ys.length
  ct : ctk (ys.take at_) = cmk pre
  sz : T.length ≤ pre.length + at_
  all : ∀ post, cmpS (pre ++ post) ys = (cmpS post (ys.drop at_)).map (T ++ ·)
theorem cpI_start (ys : List St) : CpI ys [] [] 0 := ⟨by simp, by simp [ctk, cmk], by simp, fun post => by cases h : cmpS post ys <;> simp [h]⟩
theorem map_app (o : Option (List St)) (T U : List St) : (o.map (U ++ ·)).map (T ++ ·) = o.map ((T ++ U) ++ ·) := by cases o <;> simp
theorem cmk_app (a b : List St) : cmk (a ++ b) = cmk a + cmk b := by simp [cmk]
theorem cpI_drop {ys pre T : List St} {at_ : Nat} (h : CpI ys pre T at_) {x : St} (hx : x.k = 3) : CpI ys (pre ++ [x]) (T ++ [x]) at_ := by
  refine ⟨h.le, ?_, ?_, fun post => ?_⟩
  · rw [h.ct, cmk_app]; simp [cmk, hx]
  · have := h.sz; simp; omega
  · rw [List.append_assoc, h.all]
    show (cmpS (x :: post) _).map _ = _
    rw [cmpS_drop hx]
    have e : (fun r : List St => x :: r) = ([x] ++ ·) := rfl
    rw [e, map_app]
theorem puts_sP (r : List St) : r.take (nP r) = sP ((r.take (nP r)).map (·.c)) := by
  unfold sP
  rw [List.map_map]
  have : ∀ y ∈ r.take (nP r), ((fun c => (⟨2, c⟩ : St)) ∘ (·.c)) y = y := by
    intro y hy
    obtain ⟨j, hj, rfl⟩ := List.getElem_of_mem hy
    rw [List.length_take] at hj
    obtain ⟨h1, h2⟩ := nP_at r j (by omega)
    rw [List.getElem_take]
    show (⟨2, r[j].c⟩ : St) = r[j]
    rw [← h2]
  conv => lhs; rw [← List.map_id (r.take (nP r))]
  exact (List.map_congr_left this).symm
/-- There is a step that meets. -/
theorem cp_next {ys pre T : List St} {at_ : Nat} (h : CpI ys pre T at_) {x : St} (hx : x.k ≠ 3) (hle : cmk (pre ++ [x]) ≤ ctk ys) :
    ∃ hn : at_ + nP (ys.drop at_) < ys.length, cpY ys at_ = ys[at_ + nP (ys.drop at_)] ∧ (cpY ys at_).k ≠ 2 := by
  have e1 : cmk (pre ++ [x]) = cmk pre + 1 := by rw [cmk_app]; simp [cmk, hx]
  have e2 : ctk ys = ctk (ys.take at_) + ctk (ys.drop at_) := by rw [← ctk_app, List.take_append_drop]
  have hpos : 0 < ctk (ys.drop at_) := by have := h.ct; omega
  obtain ⟨h1, h2⟩ := nP_end _ (ctk_some hpos)
  rw [List.length_drop] at h1
  have hn : at_ + nP (ys.drop at_) < ys.length := by omega
  have e : cpY ys at_ = ys[at_ + nP (ys.drop at_)] := by
    unfold cpY
    rw [List.getD_eq_getElem?_getD, List.getElem?_drop, List.getElem?_eq_getElem hn]; rfl
  refine ⟨hn, e, ?_⟩
  rw [e]
  rw [List.getElem_drop] at h2
  exact h2
theorem drop_split {ys : List St} {at_ : Nat} (hn : at_ + nP (ys.drop at_) < ys.length) : ys.drop at_ = (ys.drop at_).take (nP (ys.drop at_)) ++ ys[at_ + nP (ys.drop at_)] :: ys.drop (at_ + nP (ys.drop at_) + 1) := by
  have h := (List.take_append_drop (nP (ys.drop at_)) (ys.drop at_)).symm
  rw [List.drop_drop] at h
  rw [List.drop_eq_getElem_cons hn] at h
  exact h
theorem cp_meet {ys pre T : List St} {at_ : Nat} (h : CpI ys pre T at_) {x : St} (hx : x.k ≠ 3) (hle : cmk (pre ++ [x]) ≤ ctk ys) (post : List St) :
    cmpS (pre ++ x :: post) ys = match cpB x (cpY ys at_) with
      | none => none
      | some b => (cmpS post (ys.drop (at_ + nP (ys.drop at_) + 1))).map ((T ++ (ys.drop at_).take (nP (ys.drop at_)) ++ b) ++ ·) := by
  obtain ⟨hn, e, hy⟩ := cp_next h hx hle
  have hs := drop_split hn
  rw [h.all]
  have hc : cmpS (x :: post) (ys.drop at_) = (cmpS (x :: post) (cpY ys at_ :: ys.drop (at_ + nP (ys.drop at_) + 1))).map ((ys.drop at_).take (nP (ys.drop at_)) ++ ·) := by
    conv => lhs; rw [hs]
    rw [puts_sP, cmp_put (fun z r hz => by cases hz; exact hx), ← puts_sP, e]
  rw [hc, map_app, cmpS_xy, if_neg hx, if_neg hy]
  unfold cpB
  by_cases h1 : x.k = 1
  · rw [if_pos h1, if_pos h1]
    have ee : (fun r : List St => cpY ys at_ :: r) = ([cpY ys at_] ++ ·) := rfl
    rw [ee, map_app]
  · rw [if_neg h1, if_neg h1]
    by_cases h2 : (cpY ys at_).k = 1
    · rw [if_pos h2, if_pos h2]
      have ee : (fun r : List St => x :: r) = ([x] ++ ·) := rfl
      rw [ee, map_app]
    · rw [if_neg h2, if_neg h2]
      by_cases h3 : x.c = (cpY ys at_).c
      · rw [if_pos h3, if_pos h3]
        simp
      · rw [if_neg h3, if_neg h3]; rfl
theorem cpI_meet {ys pre T : List St} {at_ : Nat} (h : CpI ys pre T at_) {x : St} (hx : x.k ≠ 3) (hle : cmk (pre ++ [x]) ≤ ctk ys) {b : List St} (hb : cpB x (cpY ys at_) = some b) :
    CpI ys (pre ++ [x]) (T ++ (ys.drop at_).take (nP (ys.drop at_)) ++ b) (at_ + nP (ys.drop at_) + 1) := by
  obtain ⟨hn, e, hy⟩ := cp_next h hx hle
  refine ⟨by omega, ?_, ?_, fun post => ?_⟩
  · have e1 : cmk (pre ++ [x]) = cmk pre + 1 := by rw [cmk_app]; simp [cmk, hx]
    rw [e1, ← h.ct]
    have hs := drop_split hn
    have e2 : ys.take (at_ + nP (ys.drop at_) + 1) = ys.take at_ ++ ((ys.drop at_).take (nP (ys.drop at_)) ++ [ys[at_ + nP (ys.drop at_)]]) := by
      rw [List.take_succ_eq_append_getElem hn, List.take_add, List.append_assoc]
    rw [e2, ctk_app, ctk_app, ctk_puts]
    rw [e] at hy
    simp [ctk, hy]
  · have h1 : b.length ≤ 1 := by
      unfold cpB at hb
      split at hb
      · cases hb; simp
      · split at hb
        · cases hb; simp
        · split at hb
          · cases hb; simp
          · cases hb
    have := h.sz
    have h2 := List.length_take_le (nP (ys.drop at_)) (ys.drop at_)
    simp only [List.length_append, List.length_cons, List.length_nil]
    omega
  · rw [List.append_assoc]
    show cmpS (pre ++ x :: post) ys = _
    rw [cp_meet h hx hle, hb]
/-- What is left of the second change is put. -/
theorem puts_cmp : ∀ (zs : List St), ctk zs = 0 → cmpS [] zs = some zs
  | [], _ => cmpS_nil
  | z :: zs, h => by
    have hz : z.k = 2 := by
      by_cases c : z.k = 2
      · exact c
      · exfalso
        have : ctk (z :: zs) = ctk zs + 1 := by simp [ctk, c]
        omega
    have h' : ctk zs = 0 := by
      have : ctk (z :: zs) = ctk zs := by simp [ctk, hz]
      omega
    rw [cmpS_y, if_pos hz, puts_cmp zs h']; rfl
theorem cp_end {ys xs T : List St} {at_ : Nat} (h : CpI ys xs T at_) (he : cmk xs = ctk ys) : cmpS xs ys = some (T ++ ys.drop at_) := by
  have hz : ctk (ys.drop at_) = 0 := by
    have e2 : ctk ys = ctk (ys.take at_) + ctk (ys.drop at_) := by rw [← ctk_app, List.take_append_drop]
    have := h.ct; omega
  have := h.all []
  rw [List.append_nil, puts_cmp _ hz] at this
  exact this
end Go.Proofs.YtknilofnelhgmaaDoor.Doc1

namespace Go.Proofs.YtknilofnelhgmaaDoor
open Doc1
/-- What ComposeOps answers. -/
def cmpO (a b : List Pt) : List Pt × Bool := if goodO a = true ∧ goodO b = true then (match cmpS (stL a) (stL b) with
  | none => ([], false)
  | some T => if goodO (gath g0 T).out = true then ((gath g0 T).out, true) else ([], false)) else ([], false)
theorem cmpO_eq {a b : List Pt} (ha : goodO a = true) (hb : goodO b = true) : (∀ T, cmpS (stL a) (stL b) = some T → cmpO a b = (if goodO (gath g0 T).out then (gath g0 T).out else [], goodO (gath g0 T).out)) ∧ (cmpS (stL a) (stL b) = none → cmpO a b = ([], false)) := by
  refine ⟨fun T h => ?_, fun h => ?_⟩
  · unfold cmpO
    rw [if_pos ⟨ha, hb⟩, h]
    cases hg : goodO (gath g0 T).out <;> simp [hg]
  · unfold cmpO
    rw [if_pos ⟨ha, hb⟩, h]
theorem cmpO_no {a b : List Pt} (h : ¬ (goodO a = true ∧ goodO b = true ∧ mkL a = tkL b)) : cmpO a b = ([], false) := by
  unfold cmpO
  by_cases hg : goodO a = true ∧ goodO b = true
  · rw [if_pos hg]
    cases hc : cmpS (stL a) (stL b) with
    | none => rfl
    | some T =>
      exfalso
      have hpa := goodO_pk hg.1
      have hpb := goodO_pk hg.2
      have hf := cmp_fit _ _ _ T rfl (fun x hx => (stL_so hpa x hx).1) (fun y hy => (stL_so hpb y hy).1) hc
      have h1 := (stL_sums a hpa).2
      have h2 := (stL_sums b hpb).1
      exact h ⟨hg.1, hg.2, by omega⟩
  · rw [if_neg hg]
end Go.Proofs.YtknilofnelhgmaaDoor
