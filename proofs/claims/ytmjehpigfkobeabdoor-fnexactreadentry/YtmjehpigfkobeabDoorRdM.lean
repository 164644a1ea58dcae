/- The plain mathematics of reading a change. -/
import Derived.Test.YtmjehpigfkobeabDoorByt1
namespace Go.Proofs.YtmjehpigfkobeabDoor.Doc1

/-- A text's segments, each with 59 behind it, and what is left. -/
def sgA : List UInt8 → List UInt8 → List (List UInt8) × List UInt8
  | cur, [] => ([], cur)
  | cur, c :: l => if c = 59 then (cur :: (sgA [] l).1, (sgA [] l).2) else sgA (cur ++ [c]) l
theorem sgA_skip : ∀ (x cur l : List UInt8), (∀ c ∈ x, c ≠ 59) → sgA cur (x ++ l) = sgA (cur ++ x) l
  | [], cur, l, _ => by simp
  | c :: x, cur, l, h => by
    have hc : ¬ c = 59 := h c (by simp)
    show sgA cur (c :: (x ++ l)) = _
    rw [sgA, if_neg hc, sgA_skip x (cur ++ [c]) l (fun d hd => h d (by simp [hd]))]
    simp
theorem sgA_end (cur l : List UInt8) : sgA cur (59 :: l) = (cur :: (sgA [] l).1, (sgA [] l).2) := by rw [sgA, if_pos rfl]
theorem sgA_none (x cur : List UInt8) (h : ∀ c ∈ x, c ≠ 59) : sgA cur x = ([], cur ++ x) := by
  have := sgA_skip x cur [] h
  rw [List.append_nil] at this
  rw [this, sgA]
theorem sgA_seg (x l : List UInt8) (h : ∀ c ∈ x, c ≠ 59) : sgA [] (x ++ 59 :: l) = (x :: (sgA [] l).1, (sgA [] l).2) := by
  rw [sgA_skip x [] _ h, List.nil_append, sgA_end]

/-- A segment as the program and as the model take it; and the good part that it is. -/
def pP : List UInt8 → Option Pt
  | [] => none
  | c :: t => if c = 61 then (if (numI 300 t).2 = true then some (kp (numI 300 t).1) else none) else if c = 43 then some (pp t) else if c = 45 then some (dp t) else none
def pM : List UInt8 → Option Pt
  | [] => none
  | c :: t => if t = [] then none else if c = 61 then (if numS t = 0 then none else some ⟨numS t, ba [], ba []⟩) else if c = 43 then some (pp t) else if c = 45 then some (dp t) else none
def gS (x : List UInt8) : Option Pt := (pP x).filter gp
theorem ba_nil : (ba []).data.toList = [] := rfl
theorem pp_nil : gp (pp []) = false := by unfold gp pp; simp [ba]
theorem dp_nil : gp (dp []) = false := by unfold gp dp; simp [ba]
theorem gS_M (x : List UInt8) : (pM x).filter gp = gS x := by
  unfold gS
  cases x with
  | nil => rfl
  | cons c t =>
    show Option.filter gp (if t = [] then none else if c = 61 then (if numS t = 0 then none else some ⟨numS t, ba [], ba []⟩) else if c = 43 then some (pp t) else if c = 45 then some (dp t) else none) = Option.filter gp (if c = 61 then (if (numI 300 t).2 = true then some (kp (numI 300 t).1) else none) else if c = 43 then some (pp t) else if c = 45 then some (dp t) else none)
    by_cases ht : t = []
    · subst ht
      rw [if_pos rfl]
      by_cases h1 : c = 61
      · rw [if_pos h1]
        have : (numI 300 []).2 = false := by decide
        rw [this]; rfl
      · rw [if_neg h1]
        by_cases h2 : c = 43
        · rw [if_pos h2]; simp [Option.filter, pp_nil]
        · rw [if_neg h2]
          by_cases h3 : c = 45
          · rw [if_pos h3]; simp [Option.filter, dp_nil]
          · rw [if_neg h3]
    · rw [if_neg ht]
      by_cases h1 : c = 61
      · rw [if_pos h1, if_pos h1]
        have hb := num_both (most := 300) (by decide) t
        by_cases hn : (numI 300 t).2 = true
        · rw [if_pos hn]
          have e := hb.2 hn
          rw [e]
          by_cases h0 : ((numI 300 t).1 : Int) = 0
          · rw [if_pos h0]
            have : gp (kp (numI 300 t).1) = false := by
              have : (numI 300 t).1 = 0 := by omega
              rw [this]; decide
            simp [Option.filter, this]
          · rw [if_neg h0]; rfl
        · rw [if_neg hn]
          rw [hb.1, decide_eq_true_eq] at hn
          by_cases h0 : numS t = 0
          · rw [if_pos h0]
          · rw [if_neg h0]
            have : gp ⟨numS t, ba [], ba []⟩ = false := by
              unfold gp
              rw [if_pos h0]
              have : decide (1 ≤ numS t ∧ numS t ≤ 300) = false := by rw [decide_eq_false_iff_not]; omega
              rw [show (⟨numS t, ba [], ba []⟩ : Pt).keep = numS t from rfl, this]; rfl
            simp [Option.filter, this]
      · rw [if_neg h1, if_neg h1]

/-- The change that a text is; and whether it is one. -/
def rdO (s : List UInt8) : List Pt × Bool :=
  if (sgA [] s).2 = [] then
    match (sgA [] s).1.mapM gS with
    | some l => if goodO l then (l, true) else ([], false)
    | none => ([], false)
  else ([], false)
theorem mapM_len {α β : Type} (f : α → Option β) : ∀ (l : List α) (r : List β), l.mapM f = some r → r.length = l.length
  | [], r, h => by
    rw [List.mapM_nil] at h
    have : r = [] := by injection h with h; exact h.symm
    rw [this]; rfl
  | x :: l, r, h => by
    rw [List.mapM_cons] at h
    cases hx : f x with
    | none => rw [hx] at h; cases h
    | some y =>
      rw [hx] at h
      cases hl : l.mapM f with
      | none => rw [hl] at h; cases h
      | some z =>
        rw [hl] at h
        have : r = y :: z := by injection h with h; exact h.symm
        rw [this, List.length_cons, List.length_cons, mapM_len f l z hl]
theorem mapM_snoc {α β : Type} (f : α → Option β) (l : List α) (x : α) (r : List β) (y : β) (h : l.mapM f = some r) (hx : f x = some y) : (l ++ [x]).mapM f = some (r ++ [y]) := by
  rw [List.mapM_append, h]
  show (do let b ← [x].mapM f; some (r ++ b)) = _
  rw [List.mapM_cons, hx]
  rfl
theorem mapM_fail {α β : Type} (f : α → Option β) (a b : List α) (x : α) (hx : f x = none) : (a ++ x :: b).mapM f = none := by
  induction a with
  | nil => rw [List.nil_append, List.mapM_cons, hx]; rfl
  | cons y a ih =>
    rw [List.cons_append, List.mapM_cons, ih]
    cases f y <;> rfl
/-- What is read by a looser reading is read, if it is good. -/
theorem mapM_good {f : List UInt8 → Option Pt} (hf : ∀ x, (f x).filter gp = gS x) : ∀ (l : List (List UInt8)) (r : List Pt), l.mapM f = some r → l.mapM gS = if r.all gp then some r else none
  | [], r, h => by
    rw [List.mapM_nil] at h
    have : r = [] := by injection h with h; exact h.symm
    rw [this]; rfl
  | x :: l, r, h => by
    rw [List.mapM_cons] at h
    cases hx : f x with
    | none => rw [hx] at h; cases h
    | some y =>
      rw [hx] at h
      cases hl : l.mapM f with
      | none => rw [hl] at h; cases h
      | some z =>
        rw [hl] at h
        have e : r = y :: z := by injection h with h; exact h.symm
        rw [e, List.mapM_cons, mapM_good hf l z hl, ← hf x, hx]
        by_cases hy : gp y = true
        · simp only [Option.filter, hy, if_true, List.all_cons, Bool.true_and]
          by_cases hz : z.all gp = true
          · rw [if_pos hz]; rw [if_pos hz]; rfl
          · rw [if_neg hz]; rw [if_neg hz]; rfl
        · have hy : gp y = false := by simpa using hy
          simp [Option.filter, hy]
theorem rd_rest {s : List UInt8} (h : (sgA [] s).2 ≠ []) : rdO s = ([], false) := by unfold rdO; rw [if_neg h]
theorem rd_fail {s : List UInt8} {a b : List (List UInt8)} {x : List UInt8} (h : (sgA [] s).1 = a ++ x :: b) (hx : gS x = none) : rdO s = ([], false) := by
  unfold rdO
  rw [h, mapM_fail gS a b x hx]
  split <;> rfl
theorem goodO_few {l : List Pt} (h : goodO l = true) : l.length ≤ 60 := by unfold goodO at h; simp only [Bool.and_eq_true, decide_eq_true_eq] at h; exact h.1
theorem rd_long {s : List UInt8} (h : 60 < (sgA [] s).1.length) : rdO s = ([], false) := by
  unfold rdO
  split
  · cases hm : (sgA [] s).1.mapM gS with
    | none => rfl
    | some l =>
      have := mapM_len gS _ _ hm
      have hg : goodO l = false := by
        cases hg : goodO l with
        | false => rfl
        | true => have := goodO_few hg; omega
      simp only [hg]; rfl
  · rfl
theorem rd_done {s : List UInt8} {f : List UInt8 → Option Pt} (hf : ∀ x, (f x).filter gp = gS x) {o : List Pt} (h : (sgA [] s).2 = []) (hm : (sgA [] s).1.mapM f = some o) : rdO s = if goodO o then (o, true) else ([], false) := by
  unfold rdO
  rw [if_pos h, mapM_good hf _ _ hm]
  by_cases ha : o.all gp = true
  · rw [if_pos ha]
  · have hg : goodO o = false := by unfold goodO; rw [show o.all gp = false by simpa using ha]; simp
    rw [if_neg ha, hg]; rfl

/-- How far the program has read: what it has read is these parts, from place b on nothing is read yet, up to k there is no end. -/
structure PRd (s : ByteArray) (b k : Nat) (o : List Pt) : Prop where
  hb : b ≤ k
  hk : k ≤ s.size
  pre : ∃ q, sgA [] s.data.toList = (q ++ (sgA ((s.data.toList.take k).drop b) (s.data.toList.drop k)).1, (sgA ((s.data.toList.take k).drop b) (s.data.toList.drop k)).2) ∧ q.mapM pP = some o

theorem PRd.start (s : ByteArray) : PRd s 0 0 [] := ⟨Nat.le_refl _, Nat.zero_le _, [], by simp, rfl⟩
theorem bdrop_add (s : ByteArray) (k n : Nat) : s.data.toList.drop k = (s.data.toList.drop k).take n ++ s.data.toList.drop (k + n) := by
  rw [← List.drop_drop, List.take_append_drop]
theorem tkdr (l : List UInt8) (b k n : Nat) (hb : b ≤ k) (hk : k ≤ l.length) : (l.take (k + n)).drop b = (l.take k).drop b ++ (l.drop k).take n := by
  rw [List.take_add, List.drop_append_of_le_length (by rw [List.length_take]; omega)]
theorem PRd.skip {s : ByteArray} {b k : Nat} {o : List Pt} (h : PRd s b k o) (n : Nat) (hn : k + n ≤ s.size) (hx : ∀ j (hj : j < s.size), k ≤ j → j < k + n → s[j] ≠ 59) : PRd s b (k + n) o := by
  obtain ⟨hb, hk, q, e, hm⟩ := h
  refine ⟨by omega, hn, q, ?_, hm⟩
  have e2 := bdrop_add s k n
  have hsk : ∀ c ∈ (s.data.toList.drop k).take n, c ≠ 59 := by
    intro c hc
    obtain ⟨j, hj, rfl⟩ := List.getElem_of_mem hc
    rw [List.length_take, List.length_drop, ← sz_list] at hj
    rw [List.getElem_take, List.getElem_drop]
    have := hx (k + j) (by omega) (by omega) (by omega)
    exact this
  have e3 := sgA_skip _ ((s.data.toList.take k).drop b) (s.data.toList.drop (k + n)) hsk
  rw [← e2, ← tkdr _ b k n hb (by rw [← sz_list]; exact hk)] at e3
  rw [e3] at e
  exact e
theorem PRd.at_end {s : ByteArray} {b k : Nat} {o : List Pt} (h : PRd s b k o) (hk : k < s.size) (hc : s[k] = 59) : ∃ q, sgA [] s.data.toList = (q ++ (s.data.toList.take k).drop b :: (sgA [] (s.data.toList.drop (k + 1))).1, (sgA [] (s.data.toList.drop (k + 1))).2) ∧ q.mapM pP = some o := by
  obtain ⟨hb, _, q, e, hm⟩ := h
  refine ⟨q, ?_, hm⟩
  rw [e, drop_cons s k hk, hc, sgA_end]
theorem PRd.fail {s : ByteArray} {b k : Nat} {o : List Pt} (h : PRd s b k o) (hk : k < s.size) (hc : s[k] = 59) (hx : pP ((s.data.toList.take k).drop b) = none) : rdO s.data.toList = ([], false) := by
  obtain ⟨q, e, hm⟩ := h.at_end hk hc
  exact rd_fail (a := q) (b := (sgA [] (s.data.toList.drop (k + 1))).1) (x := (s.data.toList.take k).drop b) (by rw [e]) (by unfold gS; rw [hx]; rfl)
theorem PRd.long {s : ByteArray} {b k : Nat} {o : List Pt} (h : PRd s b k o) (hk : k < s.size) (hc : s[k] = 59) (ho : o.length = 60) : rdO s.data.toList = ([], false) := by
  obtain ⟨q, e, hm⟩ := h.at_end hk hc
  have := mapM_len _ _ _ hm
  refine rd_long ?_
  rw [e]
  simp only [List.length_append, List.length_cons]
  omega
theorem PRd.step {s : ByteArray} {b k : Nat} {o : List Pt} (h : PRd s b k o) (hk : k < s.size) (hc : s[k] = 59) {p : Pt} (hx : pP ((s.data.toList.take k).drop b) = some p) : PRd s (k + 1) (k + 1) (o ++ [p]) := by
  obtain ⟨q, e, hm⟩ := h.at_end hk hc
  refine ⟨Nat.le_refl _, hk, q ++ [(s.data.toList.take k).drop b], ?_, mapM_snoc _ _ _ _ _ hm hx⟩
  have hd : (s.data.toList.take (k + 1)).drop (k + 1) = [] := List.drop_eq_nil_of_le (by rw [List.length_take]; omega)
  rw [e, hd]
  simp
theorem PRd.tail {s : ByteArray} {b : Nat} {o : List Pt} (h : PRd s b s.size o) : ∃ q, sgA [] s.data.toList = (q, s.data.toList.drop b) ∧ q.mapM pP = some o := by
  obtain ⟨hb, _, q, e, hm⟩ := h
  refine ⟨q, ?_, hm⟩
  have ed : s.data.toList.drop s.size = [] := List.drop_eq_nil_of_le (by rw [← sz_list]; exact Nat.le_refl _)
  rw [ed, sgA, show s.data.toList.take s.size = s.data.toList from List.take_of_length_le (by rw [← sz_list]; exact Nat.le_refl _)] at e
  rw [e]; simp
theorem PRd.rest {s : ByteArray} {b : Nat} {o : List Pt} (h : PRd s b s.size o) (hb : b < s.size) : rdO s.data.toList = ([], false) := by
  obtain ⟨q, e, hm⟩ := h.tail
  refine rd_rest ?_
  rw [e]
  intro c
  have := congrArg List.length c
  rw [List.length_drop, ← sz_list] at this
  simp at this
  omega
theorem PRd.done {s : ByteArray} {o : List Pt} (h : PRd s s.size s.size o) : rdO s.data.toList = if goodO o then (o, true) else ([], false) := by
  obtain ⟨q, e, hm⟩ := h.tail
  refine rd_done (f := pP) (fun _ => rfl) ?_ ?_
  · rw [e]; exact List.drop_eq_nil_of_le (by rw [← sz_list]; exact Nat.le_refl _)
  · rw [e]; exact hm
/-- The part that the program answers with, where it is none too. -/
def pQ (x : List UInt8) : Pt := (pP x).getD ⟨0, ba [], ba []⟩
theorem ba_szl (l : List UInt8) : (ba l).size = l.length := by rw [sz_list]; rfl
theorem pP_cons (c : UInt8) (t : List UInt8) : pP (c :: t) = if c = 61 then (if (numI 300 t).2 = true then some (kp (numI 300 t).1) else none) else if c = 43 then some (pp t) else if c = 45 then some (dp t) else none := rfl
theorem pQ_size (x : List UInt8) : (pQ x).put.size ≤ x.length ∧ (pQ x).drop.size ≤ x.length := by
  unfold pQ
  cases x with
  | nil => exact ⟨Nat.le_of_eq (ba_szl []), Nat.le_of_eq (ba_szl [])⟩
  | cons c t =>
    have e0 := ba_szl []
    have e1 := ba_szl t
    rw [List.length_nil] at e0
    rw [pP_cons, List.length_cons]
    split
    · split
      · show (ba []).size ≤ _ ∧ (ba []).size ≤ _
        omega
      · show (ba []).size ≤ _ ∧ (ba []).size ≤ _
        omega
    · split
      · show (ba t).size ≤ _ ∧ (ba []).size ≤ _
        omega
      · split
        · show (ba []).size ≤ _ ∧ (ba t).size ≤ _
          omega
        · show (ba []).size ≤ _ ∧ (ba []).size ≤ _
          omega

end Go.Proofs.YtmjehpigfkobeabDoor.Doc1
