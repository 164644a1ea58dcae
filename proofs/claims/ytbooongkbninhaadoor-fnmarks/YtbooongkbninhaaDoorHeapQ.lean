/- The plain mathematics of a heap by hand: what rises and what sinks leaves one, with the same in it, the least at its top. The ends of marks, and the order in which they are told. The stretches in which a mark is open, told end by end. The mathematics of a cut: the ends of the pieces, told in order, give the pieces. The mathematics of a mark that is put to marks: the ends of all of them, told in order, give the marks with it. The mathematics of marks that are put to one another, one behind the other. -/
import Derived.Test.YtbooongkbninhaaDoorPlain2
import Derived.Test.YtbooongkbninhaaDoorMark1
import Derived.Laws.Strings
namespace Go.Proofs.YtbooongkbninhaaDoor.Doc1

section
variable {α : Type} (d : α) (lt : α → α → Bool)
/-- A strict order of all. -/
structure Ord (lt : α → α → Bool) : Prop where
  ir : ∀ a, lt a a = false
  tr : ∀ a b c, lt a b = true → lt b c = true → lt a c = true
  tt : ∀ a b, a ≠ b → lt a b = true ∨ lt b a = true
def gt (l : List α) (i : Nat) : α := l.getD i d
def sw (l : List α) (i j : Nat) : List α := (l.set i (gt d l j)).set j (gt d l i)
variable {d lt}
theorem sw_len (l : List α) (i j : Nat) : (sw d l i j).length = l.length := by simp [sw]
theorem gt_at {l : List α} {i : Nat} (h : i < l.length) : gt d l i = l[i] := by simp [gt, h]
theorem gt_out {l : List α} {k : Nat} (h : l.length ≤ k) : gt d l k = d := by simp [gt, h]
theorem gt_sw {l : List α} {i j : Nat} (hi : i < l.length) (hj : j < l.length) (k : Nat) : gt d (sw d l i j) k = if k = j then gt d l i else if k = i then gt d l j else gt d l k := by
  unfold sw
  by_cases h : k < l.length
  · rw [gt_at (by simpa using h), List.getElem_set]
    by_cases e : j = k
    · rw [if_pos e, if_pos e.symm]
    · rw [if_neg e, if_neg (Ne.symm e), List.getElem_set]
      by_cases e2 : i = k
      · rw [if_pos e2, if_pos e2.symm]
      · rw [if_neg e2, if_neg (Ne.symm e2), gt_at h]
  · rw [if_neg (by omega), if_neg (by omega)]
    rw [gt_out (by simp; omega), gt_out (by omega)]
def le (lt : α → α → Bool) (a b : α) : Prop := lt b a = false
theorem Ord.le_of_lt {a b : α} (o : Ord lt) (h : lt a b = true) : le lt a b := by
  unfold le
  cases e : lt b a with
  | false => rfl
  | true => have := o.tr _ _ _ h e; rw [o.ir] at this; cases this
theorem Ord.trans {a b c : α} (o : Ord lt) (h1 : le lt a b) (h2 : le lt b c) : le lt a c := by
  unfold le at *
  cases e : lt c a with
  | false => rfl
  | true =>
    by_cases hab : a = b
    · subst hab; rw [h2] at e; cases e
    · rcases o.tt a b hab with h | h
      · have := o.tr _ _ _ e h; rw [h2] at this; cases this
      · rw [h1] at h; cases h
theorem Ord.anti {a b : α} (o : Ord lt) (h1 : le lt a b) (h2 : le lt b a) : a = b := by
  by_cases hab : a = b
  · exact hab
  · unfold le at *
    rcases o.tt a b hab with h | h
    · rw [h2] at h; cases h
    · rw [h1] at h; cases h
theorem Ord.refl (o : Ord lt) (a : α) : le lt a a := o.ir a
/-- A heap. -/
def Hp (d : α) (lt : α → α → Bool) (l : List α) : Prop := ∀ k, 0 < k → k < l.length → le lt (gt d l ((k - 1) / 2)) (gt d l k)
/-- A heap but for what rises at i. -/
def HpX (d : α) (lt : α → α → Bool) (l : List α) (i : Nat) : Prop := ∀ k, 0 < k → k < l.length → (k ≠ i → le lt (gt d l ((k - 1) / 2)) (gt d l k)) ∧ ((k - 1) / 2 = i → 0 < i → le lt (gt d l ((i - 1) / 2)) (gt d l k))
/-- A heap but for what sinks at i. -/
def HpS (d : α) (lt : α → α → Bool) (l : List α) (i : Nat) : Prop := ∀ k, 0 < k → k < l.length → ((k - 1) / 2 ≠ i → le lt (gt d l ((k - 1) / 2)) (gt d l k)) ∧ ((k - 1) / 2 = i → 0 < i → le lt (gt d l ((i - 1) / 2)) (gt d l k))
theorem hpx_swap (o : Ord lt) {l : List α} {i : Nat} (h : HpX d lt l i) (hi : i < l.length) (h0 : 0 < i) (hl : lt (gt d l i) (gt d l ((i - 1) / 2)) = true) : HpX d lt (sw d l i ((i - 1) / 2)) ((i - 1) / 2) := by
  obtain ⟨p, hp⟩ : ∃ p, p = (i - 1) / 2 := ⟨_, rfl⟩
  rw [← hp] at hl ⊢
  have hpl : p < l.length := by omega
  have hpi : p < i := by omega
  intro k hk hkl
  rw [sw_len] at hkl
  have G := fun x => gt_sw (d := d) hi hpl x
  refine ⟨fun hkp => ?_, fun hkp h0p => ?_⟩
  · by_cases e : k = i
    · subst e
      rw [← hp, G p, if_pos rfl, G k, if_neg (by omega), if_pos rfl]
      exact o.le_of_lt hl
    · rw [G k, if_neg hkp, if_neg e]
      by_cases e1 : (k - 1) / 2 = i
      · rw [e1, G i, if_neg (by omega), if_pos rfl]
        have := (h k hk hkl).2 e1 h0
        rw [← hp] at this
        exact this
      · by_cases e2 : (k - 1) / 2 = p
        · rw [e2, G p, if_pos rfl]
          have := (h k hk hkl).1 e
          rw [e2] at this
          exact o.trans (o.le_of_lt hl) this
        · rw [G, if_neg e2, if_neg e1]
          exact (h k hk hkl).1 e
  · have h1 := (h p h0p hpl).1 (by omega)
    rw [G ((p - 1) / 2), if_neg (by omega), if_neg (by omega)]
    by_cases e : k = i
    · subst e
      rw [G k, if_neg (by omega), if_pos rfl]
      exact h1
    · rw [G k, if_neg (by omega), if_neg e]
      have := (h k hk hkl).1 e
      rw [hkp] at this
      exact o.trans h1 this
theorem hpx_done {l : List α} {i : Nat} (h : HpX d lt l i) (hd : i = 0 ∨ le lt (gt d l ((i - 1) / 2)) (gt d l i)) : Hp d lt l := by
  intro k hk hkl
  by_cases e : k = i
  · subst e
    rcases hd with c | c
    · omega
    · exact c
  · exact (h k hk hkl).1 e
theorem hps_swap (o : Ord lt) {l : List α} {i q : Nat} (h : HpS d lt l i) (hi : i < l.length) (hq : q < l.length) (hqi : (q - 1) / 2 = i) (h0 : 0 < q) (hl : lt (gt d l q) (gt d l i) = true) (hm : ∀ k, 0 < k → k < l.length → (k - 1) / 2 = i → le lt (gt d l q) (gt d l k)) : HpS d lt (sw d l i q) q := by
  intro k hk hkl
  rw [sw_len] at hkl
  have hiq : i < q := by omega
  have G := fun x => gt_sw (d := d) hi hq x
  refine ⟨fun hkp => ?_, fun hkp h0q => ?_⟩
  · by_cases e : k = q
    · subst e
      rw [hqi, G k, if_pos rfl, G i, if_neg (by omega), if_pos rfl]
      exact o.le_of_lt hl
    · by_cases e1 : (k - 1) / 2 = i
      · rw [e1, G i, if_neg (by omega), if_pos rfl, G k, if_neg e, if_neg (by omega)]
        exact hm k hk hkl e1
      · rw [G ((k - 1) / 2), if_neg hkp, if_neg e1]
        by_cases e2 : k = i
        · subst e2
          rw [G k, if_neg (by omega), if_pos rfl]
          exact (h q h0 hq).2 hqi hk
        · rw [G k, if_neg e, if_neg e2]
          exact (h k hk hkl).1 e1
  · have e1 : (q - 1) / 2 = i := hqi
    rw [e1, G i, if_neg (by omega), if_pos rfl, G k, if_neg (by omega), if_neg (by omega)]
    have := (h k hk hkl).1 (by omega)
    rw [hkp] at this
    exact this
theorem hps_done {l : List α} {i : Nat} (h : HpS d lt l i) (hm : ∀ k, 0 < k → k < l.length → (k - 1) / 2 = i → le lt (gt d l i) (gt d l k)) : Hp d lt l := by
  intro k hk hkl
  by_cases e : (k - 1) / 2 = i
  · rw [e]; exact hm k hk hkl e
  · exact (h k hk hkl).1 e
theorem hp_push {l : List α} (h : Hp d lt l) (e : α) : HpX d lt (l ++ [e]) l.length := by
  intro k hk hkl
  rw [List.length_append] at hkl
  simp only [List.length_cons, List.length_nil] at hkl
  have G : ∀ x, x < l.length → gt d (l ++ [e]) x = gt d l x := fun x hx => by
    rw [gt_at (by simp; omega), gt_at hx, List.getElem_append_left hx]
  refine ⟨fun hne => ?_, fun c => by omega⟩
  rw [G _ (by omega), G _ (by omega)]
  exact h k hk (by omega)
theorem hp_pop {l : List α} (h : Hp d lt l) (hl : 0 < l.length) : HpS d lt ((sw d l 0 (l.length - 1)).take (l.length - 1)) 0 := by
  intro k hk hkl
  rw [List.length_take, sw_len] at hkl
  have T : ∀ x, x < l.length - 1 → gt d ((sw d l 0 (l.length - 1)).take (l.length - 1)) x = gt d (sw d l 0 (l.length - 1)) x := fun x hx => by
    rw [gt_at (by rw [List.length_take, sw_len]; omega), gt_at (by rw [sw_len]; omega), List.getElem_take]
  have G := fun x => gt_sw (d := d) (l := l) (i := 0) (j := l.length - 1) (by omega) (by omega) x
  refine ⟨fun hne => ?_, fun _ c => by omega⟩
  rw [T _ (by omega), T _ (by omega), G, if_neg (by omega), if_neg hne, G, if_neg (by omega), if_neg (by omega)]
  exact h k hk (by omega)
theorem hp_min (o : Ord lt) {l : List α} (h : Hp d lt l) : ∀ (n k : Nat), k ≤ n → k < l.length → le lt (gt d l 0) (gt d l k)
  | 0, k, hn, _ => by obtain rfl : k = 0 := by omega
                      exact o.refl _
  | n + 1, k, hn, hk => by
    by_cases h0 : k = 0
    · subst h0; exact o.refl _
    · exact o.trans (hp_min o h n ((k - 1) / 2) (by omega) (by omega)) (h k (by omega) hk)
theorem sw_count [DecidableEq α] (x : α) {l : List α} {i j : Nat} (hi : i < l.length) (hj : j < l.length) : (sw d l i j).count x = l.count x := by
  unfold sw
  rw [gt_at hi, gt_at hj]
  by_cases e : i = j
  · subst e; simp
  · have key : ∀ (m : List α) (a : Nat) (y : α) (ha : a < m.length), (m.set a y).count x + (if m[a] = x then 1 else 0) = m.count x + (if y = x then 1 else 0) := by
      intro m a y ha
      induction m generalizing a with
      | nil => simp at ha
      | cons z m ih =>
        cases a with
        | zero =>
          simp only [List.set_cons_zero, List.count_cons, List.getElem_cons_zero, beq_iff_eq]
          omega
        | succ a =>
          have := ih a (by simpa using ha)
          simp only [List.set_cons_succ, List.count_cons, List.getElem_cons_succ]
          omega
    have h1 := key l i l[j] hi
    have hj' : j < (l.set i l[j]).length := by simpa using hj
    have h2 := key (l.set i l[j]) j l[i] hj'
    rw [List.getElem_set_ne e] at h2
    omega
/-- In order. -/
def Srt (lt : α → α → Bool) (l : List α) : Prop := l.Pairwise (le lt)
theorem srt_one [DecidableEq α] (o : Ord lt) : ∀ {a b : List α}, Srt lt a → Srt lt b → (∀ x, a.count x = b.count x) → a = b
  | [], [], _, _, _ => rfl
  | [], y :: b, _, _, h => by have := h y; simp at this
  | x :: a, [], _, _, h => by have := h x; simp at this
  | x :: a, y :: b, ha, hb, h => by
    have e : x = y := by
      by_cases c : x = y
      · exact c
      · have h1 := h x
        have h2 := h y
        have m1 : x ∈ b := by
          rw [List.count_cons_self, List.count_cons_of_ne (Ne.symm c)] at h1
          exact List.count_pos_iff.1 (by omega)
        have m2 : y ∈ a := by
          rw [List.count_cons_self, List.count_cons_of_ne c] at h2
          exact List.count_pos_iff.1 (by omega)
        exact o.anti ((List.pairwise_cons.1 ha).1 y m2) ((List.pairwise_cons.1 hb).1 x m1)
    subst e
    rw [srt_one o (List.pairwise_cons.1 ha).2 (List.pairwise_cons.1 hb).2 (fun z => by
      have := h z
      simp only [List.count_cons] at this
      omega)]
end
end Go.Proofs.YtbooongkbninhaaDoor.Doc1

namespace Go.Proofs.YtbooongkbninhaaDoor.Doc1

/-- An end of a mark: where one opens (1) or closes (-1). -/
structure En where
  st : ByteArray
  at' : Int
  op : Int
  deriving DecidableEq
def ahE (a b : En) : Bool := if a.st.toList == b.st.toList then (if a.at' = b.at' then decide (b.op < a.op) else decide (a.at' < b.at')) else Op.bytesLess a.st.toList b.st.toList

theorem bl_ir : ∀ x : List UInt8, Op.bytesLess x x = false
  | [] => rfl
  | a :: x => by simp [Op.bytesLess, bl_ir x]
theorem bl_tr : ∀ x y z : List UInt8, Op.bytesLess x y = true → Op.bytesLess y z = true → Op.bytesLess x z = true
  | _, [], _, h, _ => by simp [Op.bytesLess] at h
  | _, b :: y, [], _, h => by simp [Op.bytesLess] at h
  | [], b :: y, c :: z, _, _ => by simp [Op.bytesLess]
  | a :: x, b :: y, c :: z, h1, h2 => by
    simp only [Op.bytesLess, Bool.or_eq_true, decide_eq_true_eq, Bool.and_eq_true, beq_iff_eq] at h1 h2 ⊢
    rcases h1 with h1 | ⟨rfl, h1⟩
    · rcases h2 with h2 | ⟨rfl, h2⟩
      · left; exact UInt8.lt_trans h1 h2
      · left; exact h1
    · rcases h2 with h2 | ⟨rfl, h2⟩
      · left; exact h2
      · right; exact ⟨rfl, bl_tr _ _ _ h1 h2⟩
theorem bl_tt : ∀ x y : List UInt8, x ≠ y → Op.bytesLess x y = true ∨ Op.bytesLess y x = true
  | [], [], h => absurd rfl h
  | [], b :: y, _ => by simp [Op.bytesLess]
  | a :: x, [], _ => by simp [Op.bytesLess]
  | a :: x, b :: y, h => by
    simp only [Op.bytesLess, Bool.or_eq_true, decide_eq_true_eq, Bool.and_eq_true, beq_iff_eq]
    by_cases e : a = b
    · subst e
      rcases bl_tt x y (fun c => h (by rw [c])) with c | c
      · left; right; exact ⟨rfl, c⟩
      · right; right; exact ⟨rfl, c⟩
    · rcases Nat.lt_or_gt_of_ne (fun c : a.toNat = b.toNat => e (UInt8.toNat_inj.1 c)) with c | c
      · left; left; exact UInt8.lt_iff_toNat_lt.2 c
      · right; left; exact UInt8.lt_iff_toNat_lt.2 c
theorem toL (s : ByteArray) : s.toList = s.data.toList := ByteArray.toList_eq s
theorem toL_inj {s t : ByteArray} (h : s.toList = t.toList) : s = t := by
  rw [toL, toL] at h
  cases s; cases t
  congr 1
  exact Array.toList_inj.1 h
theorem ahE_ord : Ord ahE where
  ir := fun a => by unfold ahE; simp
  tr := fun a b c h1 h2 => by
    unfold ahE at *
    by_cases e1 : a.st.toList = b.st.toList
    · rw [if_pos (by simp [e1])] at h1
      by_cases e2 : b.st.toList = c.st.toList
      · rw [if_pos (by simp [e2])] at h2
        rw [if_pos (by simp [e1, e2])]
        split at h1 <;> split at h2 <;> rw [decide_eq_true_eq] at h1 h2 <;> split <;> rw [decide_eq_true_eq] <;> omega
      · rw [if_neg (by simpa using e2)] at h2
        rw [if_neg (by rw [e1]; simpa using e2), e1]; exact h2
    · rw [if_neg (by simpa using e1)] at h1
      by_cases e2 : b.st.toList = c.st.toList
      · rw [← e2, if_neg (by simpa using e1)]; exact h1
      · rw [if_neg (by simpa using e2)] at h2
        have := bl_tr _ _ _ h1 h2
        have hne : a.st.toList ≠ c.st.toList := fun e => by rw [e, bl_ir] at this; cases this
        rw [if_neg (by simpa using hne)]; exact this
  tt := fun a b h => by
    unfold ahE
    by_cases e : a.st.toList = b.st.toList
    · have p1 : (a.st.toList == b.st.toList) = true := by rw [e]; exact beq_self_eq_true _
      have p2 : (b.st.toList == a.st.toList) = true := by rw [e]; exact beq_self_eq_true _
      rw [if_pos p1, if_pos p2]
      have es := toL_inj e
      by_cases x : a.at' = b.at'
      · rw [if_pos x, if_pos x.symm]
        rw [decide_eq_true_eq, decide_eq_true_eq]
        by_cases y : a.op = b.op
        · exact absurd (by cases a; cases b; simp_all) h
        · omega
      · rw [if_neg x, if_neg (Ne.symm x)]
        rw [decide_eq_true_eq, decide_eq_true_eq]; omega
    · rw [if_neg (by simpa using e), if_neg (by simpa using (Ne.symm e))]
      exact bl_tt _ _ e
end Go.Proofs.YtbooongkbninhaaDoor.Doc1

namespace Go.Proofs.YtbooongkbninhaaDoor.Doc1

def opnE (out : List Mk) (o : Int) (e : En) : List Mk := if o = 0 then out ++ [⟨e.at', 0, e.st⟩] else out
def setTo (out : List Mk) (t : Int) : List Mk := match out.getLast? with
  | none => out
  | some m => out.set (out.length - 1) ⟨m.frm, t, m.style⟩
def stE (s : List Mk × Int) (e : En) : List Mk × Int := if s.2 + e.op = 0 then (setTo (opnE s.1 s.2 e) e.at', s.2 + e.op) else (opnE s.1 s.2 e, s.2 + e.op)
def mkF (S : List En) : List Mk × Int := S.foldl stE ([], 0)
theorem mkF_snoc (S : List En) (e : En) : mkF (S ++ [e]) = stE (mkF S) e := by simp [mkF]
theorem setTo_len (out : List Mk) (t : Int) : (setTo out t).length = out.length := by unfold setTo; split <;> simp
theorem opnE_len (out : List Mk) (o : Int) (e : En) : (opnE out o e).length ≤ out.length + 1 := by unfold opnE; split <;> simp
theorem stE_len (s : List Mk × Int) (e : En) : (stE s e).1.length ≤ s.1.length + 1 := by
  unfold stE; split
  · show (setTo _ _).length ≤ _; rw [setTo_len]; exact opnE_len _ _ _
  · exact opnE_len _ _ _
theorem stE_ne (s : List Mk × Int) (e : En) (h : s.2 ≠ 0 → s.1 ≠ []) : (stE s e).1 ≠ [] := by
  have h1 : opnE s.1 s.2 e ≠ [] := by
    unfold opnE
    split
    · simp
    · rename_i c; exact h c
  unfold stE; split
  · show setTo _ _ ≠ []
    intro c
    have := congrArg List.length c
    rw [setTo_len] at this
    exact h1 (List.length_eq_zero_iff.1 this)
  · exact h1
/-- So many ends: as many marks at most, and the count of open ones no greater. -/
theorem mkF_bd (S : List En) (h : ∀ e ∈ S, e.op = 1 ∨ e.op = -1) : (mkF S).1.length ≤ S.length ∧ -(S.length : Int) ≤ (mkF S).2 ∧ (mkF S).2 ≤ S.length ∧ ((mkF S).2 ≠ 0 → (mkF S).1 ≠ []) := by
  generalize hn : S.length = n
  induction n generalizing S with
  | zero =>
    have : S = [] := List.length_eq_zero_iff.1 hn
    subst this
    simp [mkF]
  | succ n ih =>
    obtain ⟨S', e, rfl⟩ : ∃ S' e, S = S' ++ [e] := ⟨S.dropLast, S.getLast (by intro c; rw [c] at hn; cases hn), (List.dropLast_concat_getLast _).symm⟩
    have hl : S'.length = n := by simpa using hn
    obtain ⟨a, b, c, d⟩ := ih S' (fun x hx => h x (by simp [hx])) hl
    have he := h e (by simp)
    rw [mkF_snoc]
    have e2 : (stE (mkF S') e).2 = (mkF S').2 + e.op := by unfold stE; split <;> rfl
    refine ⟨?_, ?_, ?_, fun _ => stE_ne _ _ d⟩
    · have := stE_len (mkF S') e; omega
    · rw [e2]; omega
    · rw [e2]; omega
end Go.Proofs.YtbooongkbninhaaDoor.Doc1

namespace Go.Proofs.YtbooongkbninhaaDoor.Doc1

def opE (m : Mk) : En := ⟨m.style, m.frm, 1⟩
def clE (m : Mk) : En := ⟨m.style, m.to, -1⟩
def endsOf (m : Mk) : List En := if m.frm < m.to then [opE m, clE m] else []
/-- A mark's pieces, of the model. -/
def cut1 (fr to : Int) (st : ByteArray) (m : Mk) : List Mk :=
  if (m.style.toList == st.toList) = false ∨ m.to ≤ fr ∨ to ≤ m.frm ∨ fr = to then [m]
  else (if m.frm < fr then [⟨m.frm, fr, st⟩] else []) ++ (if to < m.to then [⟨to, m.to, st⟩] else [])
def cutL (l : List Mk) (fr to : Int) (st : ByteArray) : List Mk := l.flatMap (cut1 fr to st)
/-- The ends that the program pushes for a mark. -/
def pu (fr to : Int) (st : ByteArray) (m : Mk) : List En :=
  if (m.style.toList == st.toList) = false then endsOf m
  else endsOf ⟨m.frm, min m.to fr, st⟩ ++ endsOf ⟨max m.frm to, m.to, st⟩
/-- They in their order. -/
def sE (fr to : Int) (st : ByteArray) (m : Mk) : List En :=
  if (m.style.toList == st.toList) = true ∧ fr = to ∧ m.frm < fr ∧ fr < m.to then [⟨st, m.frm, 1⟩, ⟨st, fr, 1⟩, ⟨st, fr, -1⟩, ⟨st, m.to, -1⟩]
  else pu fr to st m
def foldE (s : List Mk × Int) (S : List En) : List Mk × Int := S.foldl stE s
theorem foldE_app (s : List Mk × Int) (a b : List En) : foldE s (a ++ b) = foldE (foldE s a) b := by simp [foldE]
theorem setTo_snoc (out : List Mk) (m : Mk) (t : Int) : setTo (out ++ [m]) t = out ++ [⟨m.frm, t, m.style⟩] := by
  unfold setTo
  simp
theorem fold_ends (out : List Mk) (m : Mk) (h : m.frm < m.to) : foldE (out, 0) (endsOf m) = (out ++ [m], 0) := by
  unfold endsOf
  rw [if_pos h]
  simp only [foldE, List.foldl_cons, List.foldl_nil, opE, clE]
  have e1 : stE (out, 0) ⟨m.style, m.frm, 1⟩ = (out ++ [⟨m.frm, 0, m.style⟩], 1) := by unfold stE opnE; simp
  have e2 : stE (out ++ [⟨m.frm, 0, m.style⟩], 1) ⟨m.style, m.to, -1⟩ = (out ++ [m], 0) := by
    unfold stE opnE
    simp [setTo_snoc]
  rw [e1, e2]
theorem fold_none (s : List Mk × Int) (m : Mk) (h : ¬ m.frm < m.to) : foldE s (endsOf m) = s := by
  unfold endsOf; rw [if_neg h]; rfl
theorem fold_sE (fr to : Int) (st : ByteArray) (m : Mk) (hm : m.frm < m.to) (hft : fr ≤ to) (out : List Mk) : foldE (out, 0) (sE fr to st m) = (out ++ cut1 fr to st m, 0) := by
  unfold sE
  by_cases hs : m.style.toList = st.toList
  · have hb : (m.style.toList == st.toList) = true := by rw [hs]; exact beq_self_eq_true _
    have he := toL_inj hs
    by_cases hc : fr = to ∧ m.frm < fr ∧ fr < m.to
    · rw [if_pos ⟨hb, hc⟩]
      have e0 : cut1 fr to st m = [m] := if_pos (.inr (.inr (.inr hc.1)))
      rw [e0]
      simp only [foldE, List.foldl_cons, List.foldl_nil]
      have e1 : stE (out, 0) ⟨st, m.frm, 1⟩ = (out ++ [⟨m.frm, 0, st⟩], 1) := by unfold stE opnE; simp
      have e2 : stE (out ++ [⟨m.frm, 0, st⟩], 1) ⟨st, fr, 1⟩ = (out ++ [⟨m.frm, 0, st⟩], 2) := by unfold stE opnE; simp
      have e3 : stE (out ++ [⟨m.frm, 0, st⟩], 2) ⟨st, fr, -1⟩ = (out ++ [⟨m.frm, 0, st⟩], 1) := by unfold stE opnE; simp
      have e4 : stE (out ++ [⟨m.frm, 0, st⟩], 1) ⟨st, m.to, -1⟩ = (out ++ [m], 0) := by
        unfold stE opnE
        simp [setTo_snoc, ← he]
      rw [e1, e2, e3, e4]
    · rw [if_neg (fun c => hc c.2)]
      unfold pu
      rw [if_neg (by rw [hb]; simp), foldE_app]
      unfold cut1
      by_cases h1 : m.to ≤ fr
      · rw [if_pos (.inr (.inl h1)), fold_ends _ ⟨m.frm, min m.to fr, st⟩ (by show m.frm < min m.to fr; omega), fold_none _ ⟨max m.frm to, m.to, st⟩ (by show ¬ max m.frm to < m.to; omega)]
        rw [Int.min_eq_left h1, ← he]
      · by_cases h2 : to ≤ m.frm
        · rw [if_pos (.inr (.inr (.inl h2))), fold_none _ ⟨m.frm, min m.to fr, st⟩ (by show ¬ m.frm < min m.to fr; omega), fold_ends _ ⟨max m.frm to, m.to, st⟩ (by show max m.frm to < m.to; omega)]
          rw [Int.max_eq_left h2, ← he]
        · rw [if_neg (by rw [hb]; intro c; rcases c with c | c | c | c; cases c; omega; omega; omega)]
          rw [Int.min_eq_right (by omega), Int.max_eq_right (by omega)]
          by_cases h3 : m.frm < fr
          · rw [fold_ends _ ⟨m.frm, fr, st⟩ (by show m.frm < fr; exact h3), if_pos h3]
            by_cases h4 : to < m.to
            · rw [fold_ends _ ⟨to, m.to, st⟩ (by show to < m.to; exact h4), if_pos h4, List.append_assoc]
            · rw [fold_none _ ⟨to, m.to, st⟩ (by show ¬ to < m.to; exact h4), if_neg h4, List.append_nil]
          · rw [fold_none _ ⟨m.frm, fr, st⟩ (by show ¬ m.frm < fr; exact h3), if_neg h3, List.nil_append]
            by_cases h4 : to < m.to
            · rw [fold_ends _ ⟨to, m.to, st⟩ (by show to < m.to; exact h4), if_pos h4]
            · rw [fold_none _ ⟨to, m.to, st⟩ (by show ¬ to < m.to; exact h4), if_neg h4, List.append_nil]
  · have hb : (m.style.toList == st.toList) = false := by simpa using hs
    rw [if_neg (by rw [hb]; intro c; cases c.1)]
    unfold pu cut1
    rw [if_pos hb, if_pos (.inl hb), fold_ends _ _ hm]
theorem fold_all (fr to : Int) (st : ByteArray) (hft : fr ≤ to) : ∀ (l : List Mk) (out : List Mk), (∀ m ∈ l, m.frm < m.to) → foldE (out, 0) (l.flatMap (sE fr to st)) = (out ++ cutL l fr to st, 0)
  | [], out, _ => by simp [foldE, cutL]
  | m :: l, out, h => by
    rw [List.flatMap_cons, foldE_app, fold_sE fr to st m (h m (by simp)) hft, fold_all fr to st hft l _ (fun x hx => h x (by simp [hx])), cutL, cutL, List.flatMap_cons, List.append_assoc]
theorem cut_fold (fr to : Int) (st : ByteArray) (hft : fr ≤ to) (l : List Mk) (h : ∀ m ∈ l, m.frm < m.to) : (mkF (l.flatMap (sE fr to st))).1 = cutL l fr to st := by
  have := fold_all fr to st hft l [] h
  unfold mkF
  unfold foldE at this
  rw [this]; simp
theorem sE_cnt (fr to : Int) (st : ByteArray) (m : Mk) (x : En) : (sE fr to st m).count x = (pu fr to st m).count x ∧ (sE fr to st m).length = (pu fr to st m).length := by
  unfold sE
  by_cases hc : (m.style.toList == st.toList) = true ∧ fr = to ∧ m.frm < fr ∧ fr < m.to
  · rw [if_pos hc]
    obtain ⟨hb, rfl, h1, h2⟩ := hc
    unfold pu
    rw [if_neg (by rw [hb]; simp), Int.min_eq_right (by omega), Int.max_eq_right (by omega)]
    unfold endsOf
    rw [if_pos (by show m.frm < fr; exact h1), if_pos (by show fr < m.to; exact h2)]
    simp only [opE, clE, List.cons_append, List.nil_append, List.count_cons, List.count_nil, List.length_cons, List.length_nil]
    refine ⟨?_, trivial⟩
    ac_rfl
  · rw [if_neg hc]; exact ⟨rfl, rfl⟩
theorem all_cnt (fr to : Int) (st : ByteArray) (x : En) : ∀ l : List Mk, (l.flatMap (sE fr to st)).count x = (l.flatMap (pu fr to st)).count x ∧ (l.flatMap (sE fr to st)).length = (l.flatMap (pu fr to st)).length
  | [] => ⟨rfl, rfl⟩
  | m :: l => by
    have := all_cnt fr to st x l
    have e := sE_cnt fr to st m x
    simp only [List.flatMap_cons, List.count_append, List.length_append]
    omega
/-- An end that lies within a mark. -/
def InE (m : Mk) (e : En) : Prop := e.st = m.style ∧ m.frm ≤ e.at' ∧ e.at' ≤ m.to ∧ (e.op = 1 ∨ e.op = -1)
theorem ends_in (m m' : Mk) (e : En) (he : e ∈ endsOf m') (h1 : m'.style = m.style) (h2 : m.frm ≤ m'.frm) (h3 : m'.to ≤ m.to) : InE m e := by
  unfold endsOf at he
  split at he
  · rename_i c
    rcases List.mem_cons.1 he with rfl | he
    · exact ⟨h1, h2, by show m'.frm ≤ m.to; omega, .inl rfl⟩
    · rw [List.mem_singleton] at he
      subst he
      exact ⟨h1, by show m.frm ≤ m'.to; omega, h3, .inr rfl⟩
  · cases he
theorem sE_in (fr to : Int) (st : ByteArray) (m : Mk) (e : En) (he : e ∈ sE fr to st m) : InE m e := by
  have hcnt := (sE_cnt fr to st m e).1
  have hp : e ∈ pu fr to st m := by rw [← List.count_pos_iff] at he ⊢; omega
  unfold pu at hp
  split at hp
  · exact ends_in m m e hp rfl (Int.le_refl _) (Int.le_refl _)
  · rename_i c
    have hs : st = m.style := (toL_inj (by simpa using c)).symm
    rcases List.mem_append.1 hp with c | c
    · exact ends_in m _ e c hs (Int.le_refl _) (by show min m.to fr ≤ m.to; omega)
    · exact ends_in m _ e c hs (by show m.frm ≤ max m.frm to; omega) (Int.le_refl _)
theorem le_at {a b : En} (hs : a.st = b.st) (h : a.at' < b.at' ∨ (a.at' = b.at' ∧ b.op ≤ a.op)) : le ahE a b := by
  unfold le ahE
  rw [if_pos (by rw [hs]; exact beq_self_eq_true _)]
  rcases h with h | ⟨h, h2⟩
  · rw [if_neg (by omega)]; simp; omega
  · rw [if_pos h.symm]; simp; omega
theorem srt_ends (m : Mk) : Srt ahE (endsOf m) := by
  unfold endsOf
  split
  · exact List.Pairwise.cons (fun b hb => by rw [List.mem_singleton] at hb; subst hb; exact le_at rfl (.inl (by assumption))) (List.pairwise_singleton _ _)
  · exact List.Pairwise.nil
theorem srt_sE (fr to : Int) (st : ByteArray) (m : Mk) (hft : fr ≤ to) : Srt ahE (sE fr to st m) := by
  unfold sE
  by_cases hc : (m.style.toList == st.toList) = true ∧ fr = to ∧ m.frm < fr ∧ fr < m.to
  · rw [if_pos hc]
    obtain ⟨hb, rfl, h1, h2⟩ := hc
    unfold Srt
    simp only [List.pairwise_cons, List.mem_cons, List.not_mem_nil, or_false, forall_eq_or_imp, forall_eq, List.Pairwise.nil, and_true, false_implies, implies_true]
    refine ⟨⟨le_at rfl (.inl h1), le_at rfl (.inl h1), le_at rfl (.inl (by show m.frm < m.to; omega))⟩, ⟨le_at rfl (.inr ⟨rfl, by show (-1 : Int) ≤ 1; omega⟩), le_at rfl (.inl h2)⟩, le_at rfl (.inl h2)⟩
  · rw [if_neg hc]
    unfold pu
    split
    · exact srt_ends m
    · rename_i c
      have hb : (m.style.toList == st.toList) = true := by simpa using c
      unfold Srt
      rw [List.pairwise_append]
      refine ⟨srt_ends _, srt_ends _, fun a ha b hb' => ?_⟩
      unfold endsOf at ha hb'
      split at ha
      · rename_i g1
        split at hb'
        · rename_i g2
          have g1' : m.frm < min m.to fr := g1
          have g2' : max m.frm to < m.to := g2
          have hlt : fr < to := by
            rcases Int.lt_or_eq_of_le hft with c | c
            · exact c
            · exact absurd ⟨hb, c, by omega, by omega⟩ hc
          simp only [List.mem_cons, List.not_mem_nil, or_false, opE, clE] at ha hb'
          rcases ha with rfl | rfl <;> rcases hb' with rfl | rfl <;> exact le_at rfl (.inl (by simp only []; omega))
        · cases hb'
      · cases ha
theorem mkLt_le {a b : Mk} {x y : En} (h : mkLt a b = true) (hx : InE a x) (hy : InE b y) : le ahE x y := by
  unfold mkLt at h
  by_cases e : a.style.toList = b.style.toList
  · rw [if_pos (by rw [e]; exact beq_self_eq_true _)] at h
    have h' : a.to < b.frm := by simpa using h
    exact le_at (by rw [hx.1, hy.1]; exact toL_inj e) (.inl (by have := hx.2.2.1; have := hy.2.1; omega))
  · rw [if_neg (by simpa using e)] at h
    apply ahE_ord.le_of_lt
    unfold ahE
    rw [hx.1, hy.1, if_neg (by simpa using e)]
    exact h
theorem cut_srt (fr to : Int) (st : ByteArray) (hft : fr ≤ to) : ∀ l : List Mk, l.Pairwise (fun a b => mkLt a b = true) → Srt ahE (l.flatMap (sE fr to st))
  | [], _ => List.Pairwise.nil
  | m :: l, h => by
    rw [List.pairwise_cons] at h
    unfold Srt
    rw [List.flatMap_cons, List.pairwise_append]
    refine ⟨srt_sE fr to st m hft, cut_srt fr to st hft l h.2, fun a ha b hb => ?_⟩
    obtain ⟨m', hm', hb⟩ := List.mem_flatMap.1 hb
    exact mkLt_le (h.1 m' hm') (sE_in _ _ _ _ _ ha) (sE_in _ _ _ _ _ hb)
theorem mkLt_tr {a b c : Mk} (hb : b.frm < b.to) (h1 : mkLt a b = true) (h2 : mkLt b c = true) : mkLt a c = true := by
  unfold mkLt at *
  by_cases e1 : a.style.toList = b.style.toList
  · rw [if_pos (by rw [e1]; exact beq_self_eq_true _)] at h1
    by_cases e2 : b.style.toList = c.style.toList
    · rw [if_pos (by rw [e2]; exact beq_self_eq_true _)] at h2
      rw [if_pos (by rw [e1, e2]; exact beq_self_eq_true _)]
      simp only [decide_eq_true_eq] at *
      omega
    · rw [if_neg (by simpa using e2)] at h2
      rw [if_neg (by rw [e1]; simpa using e2), e1]; exact h2
  · rw [if_neg (by simpa using e1)] at h1
    by_cases e2 : b.style.toList = c.style.toList
    · rw [← e2, if_neg (by simpa using e1)]; exact h1
    · rw [if_neg (by simpa using e2)] at h2
      have := bl_tr _ _ _ h1 h2
      have hne : a.style.toList ≠ c.style.toList := fun e => by rw [e, bl_ir] at this; cases this
      rw [if_neg (by simpa using hne)]; exact this
theorem good_at {l : List Mk} {size : Int} (h : goodM l size = true) : ∀ i (hi : i < l.length), mkOk size l[i] = true ∧ ∀ j, j + 1 = i → ∀ hj : j < l.length, mkLt l[j] l[i] = true := by
  intro i hi
  unfold goodM at h
  simp only [Bool.and_eq_true] at h
  have h2 := mkTo_le l size (i + 1) l.length hi h.2.2
  rw [mkTo_succ, Bool.and_eq_true] at h2
  cases i with
  | zero => rw [mkAt_zero hi] at h2; exact ⟨h2.2, fun j hj => by omega⟩
  | succ k =>
    rw [mkAt_succ hi, Bool.and_eq_true] at h2
    refine ⟨h2.2.1, fun j hj hjl => ?_⟩
    obtain rfl : j = k := by omega
    exact h2.2.2
theorem mkOk_lt {size : Int} {m : Mk} (h : mkOk size m = true) : m.frm < m.to ∧ m.style.size ≤ 8 ∧ 0 ≤ m.frm ∧ m.to ≤ size := by
  unfold mkOk isSt at h
  simp only [Bool.and_eq_true, decide_eq_true_eq] at h
  exact ⟨h.2.2.1, h.1.1.2, h.2.1, h.2.2.2⟩
theorem good_pw {l : List Mk} {size : Int} (h : goodM l size = true) : l.Pairwise (fun a b => mkLt a b = true) ∧ ∀ m ∈ l, mkOk size m = true := by
  have ha := good_at h
  refine ⟨?_, fun m hm => by obtain ⟨i, hi, rfl⟩ := List.getElem_of_mem hm; exact (ha i hi).1⟩
  rw [List.pairwise_iff_getElem]
  intro i j hi hj hij
  induction j with
  | zero => omega
  | succ j ih =>
    by_cases e : i = j
    · subst e; exact (ha (i + 1) hj).2 i rfl hi
    · exact mkLt_tr (mkOk_lt (ha j (by omega)).1).1 (ih (by omega) (by omega)) ((ha (j + 1) hj).2 j rfl (by omega))
end Go.Proofs.YtbooongkbninhaaDoor.Doc1

namespace Go.Proofs.YtbooongkbninhaaDoor.Doc1

/-- How many are open just behind a place. -/
def opn : List En → Int → Int
  | [], _ => 0
  | e :: G, p => (if e.at' ≤ p then e.op else 0) + opn G p
theorem opn_cons (e : En) (G : List En) (p : Int) : opn (e :: G) p = (if e.at' ≤ p then e.op else 0) + opn G p := rfl
theorem opn_app (p : Int) (B : List En) : ∀ A : List En, opn (A ++ B) p = opn A p + opn B p
  | [] => by rw [List.nil_append]; show _ = 0 + _; omega
  | e :: A => by rw [List.cons_append, opn_cons, opn_cons, opn_app p B A]; omega
theorem opn_perm (p : Int) {A B : List En} (h : A.Perm B) : opn A p = opn B p := by
  induction h with
  | nil => rfl
  | cons x _ ih => rw [opn_cons, opn_cons, ih]
  | swap x y l => rw [opn_cons, opn_cons, opn_cons, opn_cons]; omega
  | trans _ _ i1 i2 => exact i1.trans i2
theorem opn_up {p : Int} : ∀ {A : List En}, (∀ x ∈ A, x.at' = p → x.op = 1) → opn A (p - 1) ≤ opn A p
  | [], _ => Int.le_refl _
  | e :: A, h => by
    have := opn_up (A := A) (fun x hx => h x (by simp [hx]))
    have he := h e (by simp)
    rw [opn_cons, opn_cons]
    by_cases c : e.at' = p
    · rw [if_neg (by omega), if_pos (by omega), he c]; omega
    · by_cases d : e.at' ≤ p
      · rw [if_pos (by omega), if_pos d]; omega
      · rw [if_neg (by omega), if_neg d]; omega
theorem opn_out {p : Int} : ∀ {A : List En}, (∀ x ∈ A, p < x.at') → opn A p = 0
  | [], _ => rfl
  | e :: A, h => by
    have := opn_out (A := A) (fun x hx => h x (by simp [hx]))
    have he := h e (by simp)
    rw [opn_cons, if_neg (by omega)]; omega
theorem opn_neg {p : Int} : ∀ {A : List En}, (∀ x ∈ A, p ≤ x.at' ∧ (x.at' = p → x.op = -1)) → opn A p ≤ 0
  | [], _ => Int.le_refl _
  | e :: A, h => by
    have := opn_neg (A := A) (fun x hx => h x (by simp [hx]))
    have he := h e (by simp)
    rw [opn_cons]
    by_cases c : e.at' = p
    · rw [if_pos (by omega), he.2 c]; omega
    · rw [if_neg (by omega)]; omega
theorem opn_all {p q : Int} : ∀ {A : List En}, (∀ x ∈ A, x.at' ≤ p ∧ x.at' ≤ q) → opn A p = opn A q
  | [], _ => rfl
  | e :: A, h => by
    have := opn_all (A := A) (fun x hx => h x (by simp [hx]))
    have he := h e (by simp)
    rw [opn_cons, opn_cons, if_pos he.1, if_pos he.2]; omega
theorem opn_ones {p : Int} : ∀ {A : List En}, (∀ x ∈ A, x.at' ≤ p ∧ x.op = 1) → opn A p = A.length
  | [], _ => rfl
  | e :: A, h => by
    have := opn_ones (A := A) (fun x hx => h x (by simp [hx]))
    have he := h e (by simp)
    rw [opn_cons, if_pos he.1, he.2, this, List.length_cons]; omega
theorem le_inv {a b : En} (hs : a.st = b.st) (h : le ahE a b) : a.at' < b.at' ∨ (a.at' = b.at' ∧ b.op ≤ a.op) := by
  unfold le ahE at h
  rw [if_pos (by rw [hs]; exact beq_self_eq_true _)] at h
  split at h
  · rw [decide_eq_false_iff_not] at h; omega
  · rw [decide_eq_false_iff_not] at h; omega

/-- Ends in order that are one mark together. -/
structure Grp (m : Mk) (G : List En) : Prop where
  lt : m.frm < m.to
  srt : Srt ahE G
  inn : ∀ e ∈ G, InE m e
  pos : ∀ p, m.frm ≤ p → p < m.to → 1 ≤ opn G p
  zer : ∀ p, m.to ≤ p → opn G p = 0
theorem Grp.low {m : Mk} {G : List En} (h : Grp m G) {p : Int} (hp : p < m.frm) : opn G p = 0 := opn_out (fun x hx => by have := (h.inn x hx).2.1; omega)
theorem Grp.nn {m : Mk} {G : List En} (h : Grp m G) (p : Int) : 0 ≤ opn G p := by
  by_cases c : p < m.frm
  · rw [h.low c]; exact Int.le_refl _
  · by_cases d : p < m.to
    · have := h.pos p (by omega) d; omega
    · rw [h.zer p (by omega)]; exact Int.le_refl _
theorem Grp.pre {m : Mk} {A B : List En} {e : En} (h : Grp m (A ++ e :: B)) (hA : A ≠ []) : 1 ≤ opn A m.to := by
  have hs := h.srt
  unfold Srt at hs
  rw [List.pairwise_append] at hs
  obtain ⟨_, s2, s3⟩ := hs
  rw [List.pairwise_cons] at s2
  have ie := h.inn e (by simp)
  have iA : ∀ x ∈ A, InE m x := fun x hx => h.inn x (by simp [hx])
  have iB : ∀ x ∈ B, InE m x := fun x hx => h.inn x (by simp [hx])
  have cA : ∀ x ∈ A, x.at' < e.at' ∨ (x.at' = e.at' ∧ e.op ≤ x.op) := fun x hx => le_inv ((iA x hx).1.trans ie.1.symm) (s3 x hx e (by simp))
  have cB : ∀ x ∈ B, e.at' < x.at' ∨ (e.at' = x.at' ∧ x.op ≤ e.op) := fun x hx => le_inv (ie.1.trans (iB x hx).1.symm) (s2.1 x hx)
  have e1 : opn A m.to = opn A e.at' := opn_all (fun x hx => ⟨(iA x hx).2.2.1, by rcases cA x hx with c | c <;> omega⟩)
  rw [e1]
  have hG : ∀ p, opn (A ++ e :: B) p = opn A p + ((if e.at' ≤ p then e.op else 0) + opn B p) := fun p => by rw [opn_app, opn_cons]
  rcases ie.2.2.2 with ho | ho
  · have hup : opn A (e.at' - 1) ≤ opn A e.at' := opn_up (fun x hx hxe => by
      rcases cA x hx with c | c
      · omega
      · rcases (iA x hx).2.2.2 with d | d
        · exact d
        · omega)
    by_cases c : m.frm ≤ e.at' - 1
    · have h1 := h.pos (e.at' - 1) c (by have := ie.2.2.1; omega)
      rw [hG, if_neg (by omega), opn_out (A := B) (fun x hx => by rcases cB x hx with d | d <;> omega)] at h1
      omega
    · have h2 : opn A e.at' = A.length := opn_ones (fun x hx => by
        have a1 := (iA x hx).2.1
        rcases cA x hx with d | d
        · omega
        · rcases (iA x hx).2.2.2 with f | f
          · exact ⟨by omega, f⟩
          · omega)
      have : 0 < A.length := List.length_pos_iff.2 hA
      omega
  · have h1 := h.nn e.at'
    rw [hG, if_pos (Int.le_refl _), ho] at h1
    have h2 : opn B e.at' ≤ 0 := opn_neg (fun x hx => by
      rcases cB x hx with d | d
      · exact ⟨by omega, fun c => by omega⟩
      · exact ⟨by omega, fun _ => by rcases (iB x hx).2.2.2 with f | f <;> omega⟩)
    omega
theorem Grp.head {m : Mk} {B : List En} {e : En} (h : Grp m (e :: B)) : e = ⟨m.style, m.frm, 1⟩ := by
  have hs := h.srt
  unfold Srt at hs
  rw [List.pairwise_cons] at hs
  have ie := h.inn e (by simp)
  have iB : ∀ x ∈ B, InE m x := fun x hx => h.inn x (by simp [hx])
  have cB : ∀ x ∈ B, e.at' < x.at' ∨ (e.at' = x.at' ∧ x.op ≤ e.op) := fun x hx => le_inv (ie.1.trans (iB x hx).1.symm) (hs.1 x hx)
  have h1 := h.pos m.frm (Int.le_refl _) h.lt
  have e1 : e.at' = m.frm := by
    by_cases c : e.at' = m.frm
    · exact c
    · rw [opn_out (fun x hx => by
        have := ie.2.1
        rcases List.mem_cons.1 hx with rfl | hx
        · omega
        · rcases cB x hx with d | d <;> omega)] at h1
      omega
  have e2 : e.op = 1 := by
    rcases ie.2.2.2 with c | c
    · exact c
    · have := opn_neg (p := m.frm) (A := e :: B) (fun x hx => by
        rcases List.mem_cons.1 hx with rfl | hx
        · exact ⟨by omega, fun _ => c⟩
        · have := iB x hx
          refine ⟨this.2.1, fun hx2 => ?_⟩
          rcases cB x hx with d | d
          · omega
          · rcases this.2.2.2 with f | f <;> omega)
      omega
  obtain ⟨s, a, o⟩ := e
  have e3 : s = m.style := ie.1
  have e1' : a = m.frm := e1
  have e2' : o = 1 := e2
  rw [e3, e1', e2']
theorem Grp.last {m : Mk} {A : List En} {e : En} (h : Grp m (A ++ [e])) : e.at' = m.to ∧ opn A m.to + e.op = 0 ∧ A ≠ [] := by
  have hs := h.srt
  unfold Srt at hs
  rw [List.pairwise_append] at hs
  have ie := h.inn e (by simp)
  have iA : ∀ x ∈ A, InE m x := fun x hx => h.inn x (by simp [hx])
  have cA : ∀ x ∈ A, x.at' < e.at' ∨ (x.at' = e.at' ∧ e.op ≤ x.op) := fun x hx => le_inv ((iA x hx).1.trans ie.1.symm) (hs.2.2 x hx e (by simp))
  have hz := h.zer m.to (Int.le_refl _)
  have e1 : e.at' = m.to := by
    by_cases c : e.at' = m.to
    · exact c
    · have h1 := h.pos (m.to - 1) (by have := h.lt; omega) (by omega)
      have := ie.2.2.1
      rw [opn_all (q := m.to) (fun x hx => by
        rcases List.mem_append.1 hx with hx | hx
        · have := cA x hx; omega
        · rw [List.mem_singleton] at hx; subst hx; omega)] at h1
      omega
  rw [opn_app, opn_cons, if_pos (by omega)] at hz
  have hn : opn ([] : List En) m.to = 0 := rfl
  refine ⟨e1, by omega, fun c => ?_⟩
  subst c
  have := (Grp.head h)
  rw [this] at hz
  have hn2 : opn ([] : List En) m.to = 0 := rfl
  simp only [] at hz
  omega
theorem fold_pre {m : Mk} (out : List Mk) : ∀ (n : Nat) (A B : List En), A.length = n → A ≠ [] → B ≠ [] → Grp m (A ++ B) → foldE (out, 0) A = (out ++ [⟨m.frm, 0, m.style⟩], opn A m.to)
  | 0, A, B, hn, hA, _, _ => absurd (List.length_eq_zero_iff.1 hn) hA
  | n + 1, A, B, hn, hA, hB, h => by
    obtain ⟨A', e, rfl⟩ : ∃ A' e, A = A' ++ [e] := ⟨A.dropLast, A.getLast hA, (List.dropLast_concat_getLast _).symm⟩
    obtain ⟨b, B', rfl⟩ : ∃ b B', B = b :: B' := by
      cases B with
      | nil => exact absurd rfl hB
      | cons b B' => exact ⟨b, B', rfl⟩
    have hp := h.pre (by simp)
    by_cases c : A' = []
    · subst c
      have he := Grp.head (B := b :: B') (e := e) (by simpa using h)
      subst he
      have := h.lt
      rw [List.nil_append, opn_cons, if_pos (by show m.frm ≤ m.to; omega)]
      simp only [foldE, List.foldl_cons, List.foldl_nil]
      unfold stE opnE
      simp [opn]
    · have ih := fold_pre out n A' (e :: b :: B') (by simpa using hn) c (by simp) (by simpa using h)
      have hp' := Grp.pre (A := A') (e := e) (B := b :: B') (by simpa using h) c
      have ie := h.inn e (by simp)
      have es : opn (A' ++ [e]) m.to = opn A' m.to + e.op := by
        rw [opn_app, opn_cons, if_pos ie.2.2.1]
        show _ + (_ + 0) = _; omega
      rw [foldE_app, ih, es]
      show stE _ e = _
      unfold stE opnE
      rw [if_neg (by show ¬ opn A' m.to + e.op = 0; omega), if_neg (by show ¬ opn A' m.to = 0; omega)]
theorem fold_grp {m : Mk} {G : List En} (h : Grp m G) (out : List Mk) : foldE (out, 0) G = (out ++ [m], 0) := by
  have hG : G ≠ [] := by
    intro c; subst c
    have := h.pos m.frm (Int.le_refl _) h.lt
    have e0 : opn ([] : List En) m.frm = 0 := rfl
    omega
  obtain ⟨A, e, rfl⟩ : ∃ A e, G = A ++ [e] := ⟨G.dropLast, G.getLast hG, (List.dropLast_concat_getLast _).symm⟩
  obtain ⟨h1, h2, h3⟩ := h.last
  have hp := h.pre h3
  rw [foldE_app, fold_pre out A.length A [e] rfl h3 (by simp) h]
  show stE _ e = _
  unfold stE opnE
  rw [if_pos (by show opn A m.to + e.op = 0; omega), if_neg (by show ¬ opn A m.to = 0; omega), setTo_snoc]
  show (_, opn A m.to + e.op) = _
  rw [h2, h1]
theorem grp_ends {m : Mk} (h : m.frm < m.to) : Grp m (endsOf m) where
  lt := h
  srt := srt_ends m
  inn := fun e he => ends_in m m e he rfl (Int.le_refl _) (Int.le_refl _)
  pos := fun p h1 h2 => by
    unfold endsOf; rw [if_pos h]
    show 1 ≤ (if m.frm ≤ p then (1 : Int) else 0) + ((if m.to ≤ p then (-1 : Int) else 0) + 0)
    rw [if_pos h1, if_neg (by omega)]; omega
  zer := fun p h1 => by
    unfold endsOf; rw [if_pos h]
    show (if m.frm ≤ p then (1 : Int) else 0) + ((if m.to ≤ p then (-1 : Int) else 0) + 0) = 0
    rw [if_pos (by omega), if_pos h1]; omega
/-- Of ends there is a row in order. -/
theorem sorted_ex (G : List En) : ∃ K : List En, K.Perm G ∧ Srt ahE K := by
  refine ⟨G.mergeSort (fun a b => !ahE b a), List.mergeSort_perm _ _, ?_⟩
  have := List.pairwise_mergeSort (le := fun a b => !ahE b a) (fun a b c h1 h2 => by
    simp only [Bool.not_eq_true'] at h1 h2 ⊢
    exact ahE_ord.trans h1 h2) (fun a b => by
    simp only [Bool.or_eq_true, Bool.not_eq_true']
    cases e : ahE b a with
    | false => exact .inl rfl
    | true => exact .inr (ahE_ord.le_of_lt e)) G
  unfold Srt
  refine this.imp (fun h => ?_)
  simpa [le] using h
theorem grp_merge {m x : Mk} {G H : List En} (hm : Grp m G) (hx : Grp x H) (hs : m.style = x.style) (h1 : x.frm ≤ m.to) (h2 : m.frm ≤ x.to) : ∃ K, K.Perm (G ++ H) ∧ Grp ⟨min m.frm x.frm, max m.to x.to, m.style⟩ K := by
  obtain ⟨K, hK, hsrt⟩ := sorted_ex (G ++ H)
  have l1 := hm.lt
  have l2 := hx.lt
  refine ⟨K, hK, ?_, hsrt, fun e he => ?_, fun p p1 p2 => ?_, fun p p1 => ?_⟩
  · show min m.frm x.frm < max m.to x.to; omega
  · rcases List.mem_append.1 (hK.mem_iff.1 he) with c | c
    · have := hm.inn e c
      exact ⟨this.1, by show min m.frm x.frm ≤ _; have := this.2.1; omega, by show _ ≤ max m.to x.to; have := this.2.2.1; omega, this.2.2.2⟩
    · have := hx.inn e c
      exact ⟨this.1.trans hs.symm, by show min m.frm x.frm ≤ _; have := this.2.1; omega, by show _ ≤ max m.to x.to; have := this.2.2.1; omega, this.2.2.2⟩
  · rw [opn_perm p hK, opn_app]
    have p1' : min m.frm x.frm ≤ p := p1
    have p2' : p < max m.to x.to := p2
    have n1 := hm.nn p
    have n2 := hx.nn p
    by_cases c : m.frm ≤ p ∧ p < m.to
    · have := hm.pos p c.1 c.2; omega
    · have := hx.pos p (by omega) (by omega); omega
  · have p1' : max m.to x.to ≤ p := p1
    rw [opn_perm p hK, opn_app, hm.zer p (by omega), hx.zer p (by omega)]; rfl

/-- Marks, and ends in order that are they. -/
inductive Rp : List Mk → List En → Prop
  | nil : Rp [] []
  | cons {m : Mk} {G : List En} {L : List Mk} {E : List En} : Grp m G → Rp L E → Rp (m :: L) (G ++ E)
theorem Rp.fold {L : List Mk} {E : List En} (h : Rp L E) : ∀ out, foldE (out, 0) E = (out ++ L, 0) := by
  induction h with
  | nil => intro out; simp [foldE]
  | cons g _ ih => intro out; rw [foldE_app, fold_grp g, ih, List.append_assoc]; rfl
theorem Rp.mkF {L : List Mk} {E : List En} (h : Rp L E) : (mkF E).1 = L := by
  have := h.fold []
  unfold Doc1.mkF
  unfold foldE at this
  rw [this]; rfl
theorem Rp.inn {L : List Mk} {E : List En} (h : Rp L E) : ∀ e ∈ E, ∃ m ∈ L, InE m e := by
  induction h with
  | nil => intro e he; cases he
  | cons g _ ih =>
    intro e he
    rcases List.mem_append.1 he with c | c
    · exact ⟨_, by simp, g.inn e c⟩
    · obtain ⟨m, hm, hi⟩ := ih e c
      exact ⟨m, by simp [hm], hi⟩
theorem Rp.srt {L : List Mk} {E : List En} (h : Rp L E) : L.Pairwise (fun a b => mkLt a b = true) → Srt ahE E := by
  induction h with
  | nil => intro _; exact List.Pairwise.nil
  | cons g r ih =>
    intro hp
    rw [List.pairwise_cons] at hp
    unfold Srt
    rw [List.pairwise_append]
    refine ⟨g.srt, ih hp.2, fun a ha b hb => ?_⟩
    obtain ⟨m', hm', hi⟩ := r.inn b hb
    exact mkLt_le (hp.1 m' hm') (g.inn a ha) hi
theorem Rp.lts {L : List Mk} {E : List En} (h : Rp L E) : ∀ m ∈ L, m.frm < m.to := by
  induction h with
  | nil => intro m hm; cases hm
  | cons g _ ih =>
    intro m hm
    rcases List.mem_cons.1 hm with rfl | hm
    · exact g.lt
    · exact ih m hm
theorem rp_good : ∀ {L : List Mk}, (∀ m ∈ L, m.frm < m.to) → Rp L (L.flatMap endsOf)
  | [], _ => .nil
  | m :: L, h => by
    rw [List.flatMap_cons]
    exact .cons (grp_ends (h m (by simp))) (rp_good (fun x hx => h x (by simp [hx])))

/-- A mark put to marks, as one with all that it touches. -/
def mgM (m x : Mk) : Mk := ⟨min m.frm x.frm, max m.to x.to, m.style⟩
def addL : List Mk → Mk → List Mk
  | [], m => [m]
  | x :: l, m => if mkLt x m = true then x :: addL l m else if mkLt m x = true then m :: x :: l else addL l (mgM m x)
theorem touch {m x : Mk} (h1 : mkLt x m = false) (h2 : mkLt m x = false) : m.style = x.style ∧ x.frm ≤ m.to ∧ m.frm ≤ x.to := by
  unfold mkLt at h1 h2
  by_cases e : x.style.toList = m.style.toList
  · rw [if_pos (by rw [e]; exact beq_self_eq_true _)] at h1 h2
    rw [decide_eq_false_iff_not] at h1 h2
    exact ⟨(toL_inj e).symm, by omega, by omega⟩
  · rw [if_neg (by simpa using e)] at h1
    rw [if_neg (by simpa using Ne.symm e)] at h2
    rcases bl_tt _ _ e with c | c
    · rw [c] at h1; cases h1
    · rw [c] at h2; cases h2
theorem mkLt_mg {a m x : Mk} (hs : m.style = x.style) (h1 : mkLt a m = true) (h2 : mkLt a x = true) : mkLt a (mgM m x) = true := by
  unfold mkLt mgM at *
  rw [← hs] at h2
  by_cases e : a.style.toList = m.style.toList
  · have b := (show (a.style.toList == m.style.toList) = true by rw [e]; exact beq_self_eq_true _)
    rw [if_pos b] at h1 h2 ⊢
    rw [decide_eq_true_eq] at *
    show a.to < min m.frm x.frm
    omega
  · rw [if_neg (by simpa using e)] at h1 ⊢; exact h1
theorem addL_behind (a : Mk) : ∀ (L : List Mk) (m : Mk), mkLt a m = true → (∀ y ∈ L, mkLt a y = true) → ∀ z ∈ addL L m, mkLt a z = true
  | [], m, hm, _, z, hz => by rw [addL, List.mem_singleton] at hz; rw [hz]; exact hm
  | x :: L, m, hm, hL, z, hz => by
    have hx := hL x (by simp)
    have hL' : ∀ y ∈ L, mkLt a y = true := fun y hy => hL y (by simp [hy])
    rw [addL] at hz
    split at hz
    · rcases List.mem_cons.1 hz with rfl | hz
      · exact hx
      · exact addL_behind a L m hm hL' z hz
    · rename_i c1
      split at hz
      · rcases List.mem_cons.1 hz with rfl | hz
        · exact hm
        · exact hL z hz
      · rename_i c2
        exact addL_behind a L _ (mkLt_mg (touch (by simpa using c1) (by simpa using c2)).1 hm hx) hL' z hz
theorem addL_pw : ∀ (L : List Mk) (m : Mk), L.Pairwise (fun a b => mkLt a b = true) → (∀ x ∈ L, x.frm < x.to) → (addL L m).Pairwise (fun a b => mkLt a b = true)
  | [], m, _, _ => List.pairwise_singleton _ _
  | x :: L, m, hp, hl => by
    have hp' := hp
    rw [List.pairwise_cons] at hp
    have hl' : ∀ y ∈ L, y.frm < y.to := fun y hy => hl y (by simp [hy])
    rw [addL]
    split
    · rename_i c1
      exact List.Pairwise.cons (addL_behind x L m c1 hp.1) (addL_pw L m hp.2 hl')
    · rename_i c1
      split
      · rename_i c2
        refine List.Pairwise.cons (fun b hb => ?_) hp'
        rcases List.mem_cons.1 hb with rfl | hb
        · exact c2
        · exact mkLt_tr (hl x (by simp)) c2 (hp.1 b hb)
      · exact addL_pw L _ hp.2 hl'
theorem rp_add : ∀ {L : List Mk} {E : List En}, Rp L E → ∀ {m : Mk} {G : List En}, Grp m G → ∃ E', Rp (addL L m) E' ∧ E'.Perm (G ++ E) := by
  intro L E h
  induction h with
  | nil => intro m G g; exact ⟨G ++ [], .cons g .nil, List.Perm.refl _⟩
  | @cons x H L E gx r ih =>
    intro m G g
    rw [addL]
    by_cases c1 : mkLt x m = true
    · rw [if_pos c1]
      obtain ⟨E', h1, h2⟩ := ih g
      refine ⟨H ++ E', .cons gx h1, (h2.append_left H).trans ?_⟩
      rw [← List.append_assoc, ← List.append_assoc]
      exact List.perm_append_comm.append_right E
    · rw [if_neg c1]
      by_cases c2 : mkLt m x = true
      · rw [if_pos c2]
        exact ⟨G ++ (H ++ E), .cons g (.cons gx r), List.Perm.refl _⟩
      · rw [if_neg c2]
        obtain ⟨t1, t2, t3⟩ := touch (by simpa using c1) (by simpa using c2)
        obtain ⟨K, k1, k2⟩ := grp_merge g gx t1 t2 t3
        obtain ⟨E', h1, h2⟩ := ih k2
        refine ⟨E', h1, h2.trans ?_⟩
        rw [← List.append_assoc]
        exact k1.append_right E
theorem addL_len : ∀ (L : List Mk) (m : Mk), (addL L m).length ≤ L.length + 1
  | [], m => by simp [addL]
  | x :: L, m => by
    rw [addL]
    split
    · have := addL_len L m; simp; omega
    · split
      · simp
      · have := addL_len L (mgM m x); simp; omega
theorem addL_styles (s : ByteArray → Prop) : ∀ (L : List Mk) (m : Mk), s m.style → (∀ x ∈ L, s x.style) → ∀ z ∈ addL L m, s z.style
  | [], m, hm, _, z, hz => by rw [addL, List.mem_singleton] at hz; rw [hz]; exact hm
  | x :: L, m, hm, hL, z, hz => by
    have hL' : ∀ y ∈ L, s y.style := fun y hy => hL y (by simp [hy])
    rw [addL] at hz
    split at hz
    · rcases List.mem_cons.1 hz with rfl | hz
      · exact hL z (by simp)
      · exact addL_styles s L m hm hL' z hz
    · split at hz
      · rcases List.mem_cons.1 hz with rfl | hz
        · exact hm
        · exact hL z hz
      · exact addL_styles s L (mgM m x) hm hL' z hz
end Go.Proofs.YtbooongkbninhaaDoor.Doc1

namespace Go.Proofs.YtbooongkbninhaaDoor.Doc1

/-- A mark is put to marks where it is one. -/
def stepM (acc : List Mk) (m : Mk) : List Mk := if m.frm < m.to then addL acc m else acc
def addMs (ms : List Mk) : List Mk := ms.foldl stepM []
theorem addMs_snoc (ms : List Mk) (m : Mk) : addMs (ms ++ [m]) = stepM (addMs ms) m := by unfold addMs; rw [List.foldl_append]; rfl
theorem rp_all : ∀ (n : Nat) (ms : List Mk), ms.length = n → ∃ E', Rp (addMs ms) E' ∧ E'.Perm (ms.flatMap endsOf) ∧ (addMs ms).Pairwise (fun a b => mkLt a b = true) ∧ (addMs ms).length ≤ ms.length
  | 0, ms, h => by
    obtain rfl := List.length_eq_zero_iff.1 h
    exact ⟨[], .nil, List.Perm.refl _, List.Pairwise.nil, Nat.le_refl _⟩
  | n + 1, ms, h => by
    obtain ⟨ms', m, rfl⟩ : ∃ ms' m, ms = ms' ++ [m] := ⟨ms.dropLast, ms.getLast (by intro c; rw [c] at h; cases h), (List.dropLast_concat_getLast _).symm⟩
    obtain ⟨E, r, p, w, ln⟩ := rp_all n ms' (by simpa using h)
    rw [addMs_snoc, List.flatMap_append, List.flatMap_singleton, List.length_append]
    unfold stepM
    by_cases c : m.frm < m.to
    · rw [if_pos c]
      obtain ⟨E', r', p'⟩ := rp_add r (grp_ends c)
      refine ⟨E', r', p'.trans ?_, addL_pw _ _ w r.lts, ?_⟩
      · exact List.perm_append_comm.trans (p.append_right _)
      · have := addL_len (addMs ms') m; simp; omega
    · rw [if_neg c]
      refine ⟨E, r, ?_, w, by simp; omega⟩
      rw [show endsOf m = [] from if_neg c, List.append_nil]; exact p
theorem addMs_style (s : ByteArray → Prop) : ∀ (n : Nat) (ms : List Mk), ms.length = n → (∀ x ∈ ms, s x.style) → ∀ z ∈ addMs ms, s z.style
  | 0, ms, h, _, z, hz => by
    obtain rfl := List.length_eq_zero_iff.1 h
    cases hz
  | n + 1, ms, h, hs, z, hz => by
    obtain ⟨ms', m, rfl⟩ : ∃ ms' m, ms = ms' ++ [m] := ⟨ms.dropLast, ms.getLast (by intro c; rw [c] at h; cases h), (List.dropLast_concat_getLast _).symm⟩
    have ih := addMs_style s n ms' (by simpa using h) (fun x hx => hs x (by simp [hx]))
    rw [addMs_snoc] at hz
    unfold stepM at hz
    split at hz
    · exact addL_styles s _ m (hs m (by simp)) ih z hz
    · exact ih z hz
end Go.Proofs.YtbooongkbninhaaDoor.Doc1
