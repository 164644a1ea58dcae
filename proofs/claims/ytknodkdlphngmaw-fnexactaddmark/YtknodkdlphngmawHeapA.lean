/- The mathematics of a mark that is put to marks: the ends of all of them, told in order, give the marks with it. -/
import Derived.Test.YtknodkdlphngmawHeapC
namespace Go.Proofs.Ytknodkdlphngmaw.Doc1

/-- How many are open just behind a place. -/
def opn : List En → Int → Int
  | [], _ => 0
  | e :: G, p => (if e.at' ≤ p then e.op else 0) + opn G p
theorem opn_cons (e : En) (G : List En) (p : Int) : opn (e :: G) p = (if e.at' ≤ p then e.op else 0) + opn G p := rfl
theorem opn_app (p : Int) (B : List En) : ∀ A : List En, opn (A ++ B) p = opn A p + opn B p
  | [] => by rw [List.nil_append]; show _ = 0 + _; omega
  | e :: A => by rw [List.cons_append, opn_cons, opn_cons, opn_app p B A]; omega
theorem opn_perm (p : Int) {A B : List En} (h : A.Perm B) : opn A p = opn B p := by
  induction h with
  | nil => rfl
  | cons x _ ih => rw [opn_cons, opn_cons, ih]
  | swap x y l => rw [opn_cons, opn_cons, opn_cons, opn_cons]; omega
  | trans _ _ i1 i2 => exact i1.trans i2
theorem opn_up {p : Int} : ∀ {A : List En}, (∀ x ∈ A, x.at' = p → x.op = 1) → opn A (p - 1) ≤ opn A p
  | [], _ => Int.le_refl _
  | e :: A, h => by
    have := opn_up (A := A) (fun x hx => h x (by simp [hx]))
    have he := h e (by simp)
    rw [opn_cons, opn_cons]
    by_cases c : e.at' = p
    · rw [if_neg (by omega), if_pos (by omega), he c]; omega
    · by_cases d : e.at' ≤ p
      · rw [if_pos (by omega), if_pos d]; omega
      · rw [if_neg (by omega), if_neg d]; omega
theorem opn_out {p : Int} : ∀ {A : List En}, (∀ x ∈ A, p < x.at') → opn A p = 0
  | [], _ => rfl
  | e :: A, h => by
    have := opn_out (A := A) (fun x hx => h x (by simp [hx]))
    have he := h e (by simp)
    rw [opn_cons, if_neg (by omega)]; omega
theorem opn_neg {p : Int} : ∀ {A : List En}, (∀ x ∈ A, p ≤ x.at' ∧ (x.at' = p → x.op = -1)) → opn A p ≤ 0
  | [], _ => Int.le_refl _
  | e :: A, h => by
    have := opn_neg (A := A) (fun x hx => h x (by simp [hx]))
    have he := h e (by simp)
    rw [opn_cons]
    by_cases c : e.at' = p
    · rw [if_pos (by omega), he.2 c]; omega
    · rw [if_neg (by omega)]; omega
theorem opn_all {p q : Int} : ∀ {A : List En}, (∀ x ∈ A, x.at' ≤ p ∧ x.at' ≤ q) → opn A p = opn A q
  | [], _ => rfl
  | e :: A, h => by
    have := opn_all (A := A) (fun x hx => h x (by simp [hx]))
    have he := h e (by simp)
    rw [opn_cons, opn_cons, if_pos he.1, if_pos he.2]; omega
theorem opn_ones {p : Int} : ∀ {A : List En}, (∀ x ∈ A, x.at' ≤ p ∧ x.op = 1) → opn A p = A.length
  | [], _ => rfl
  | e :: A, h => by
    have := opn_ones (A := A) (fun x hx => h x (by simp [hx]))
    have he := h e (by simp)
    rw [opn_cons, if_pos he.1, he.2, this, List.length_cons]; omega
theorem le_inv {a b : En} (hs : a.st = b.st) (h : le ahE a b) : a.at' < b.at' ∨ (a.at' = b.at' ∧ b.op ≤ a.op) := by
  unfold le ahE at h
  rw [if_pos (by rw [hs]; exact beq_self_eq_true _)] at h
  split at h
  · rw [decide_eq_false_iff_not] at h; omega
  · rw [decide_eq_false_iff_not] at h; omega

/-- Ends in order that are one mark together. -/
structure Grp (m : Mk) (G : List En) : Prop where
  lt : m.frm < m.to
  srt : Srt ahE G
  inn : ∀ e ∈ G, InE m e
  pos : ∀ p, m.frm ≤ p → p < m.to → 1 ≤ opn G p
  zer : ∀ p, m.to ≤ p → opn G p = 0
theorem Grp.low {m : Mk} {G : List En} (h : Grp m G) {p : Int} (hp : p < m.frm) : opn G p = 0 := opn_out (fun x hx => by have := (h.inn x hx).2.1; omega)
theorem Grp.nn {m : Mk} {G : List En} (h : Grp m G) (p : Int) : 0 ≤ opn G p := by
  by_cases c : p < m.frm
  · rw [h.low c]; exact Int.le_refl _
  · by_cases d : p < m.to
    · have := h.pos p (by omega) d; omega
    · rw [h.zer p (by omega)]; exact Int.le_refl _
theorem Grp.pre {m : Mk} {A B : List En} {e : En} (h : Grp m (A ++ e :: B)) (hA : A ≠ []) : 1 ≤ opn A m.to := by
  have hs := h.srt
  unfold Srt at hs
  rw [List.pairwise_append] at hs
  obtain ⟨_, s2, s3⟩ := hs
  rw [List.pairwise_cons] at s2
  have ie := h.inn e (by simp)
  have iA : ∀ x ∈ A, InE m x := fun x hx => h.inn x (by simp [hx])
  have iB : ∀ x ∈ B, InE m x := fun x hx => h.inn x (by simp [hx])
  have cA : ∀ x ∈ A, x.at' < e.at' ∨ (x.at' = e.at' ∧ e.op ≤ x.op) := fun x hx => le_inv ((iA x hx).1.trans ie.1.symm) (s3 x hx e (by simp))
  have cB : ∀ x ∈ B, e.at' < x.at' ∨ (e.at' = x.at' ∧ x.op ≤ e.op) := fun x hx => le_inv (ie.1.trans (iB x hx).1.symm) (s2.1 x hx)
  have e1 : opn A m.to = opn A e.at' := opn_all (fun x hx => ⟨(iA x hx).2.2.1, by rcases cA x hx with c | c <;> omega⟩)
  rw [e1]
  have hG : ∀ p, opn (A ++ e :: B) p = opn A p + ((if e.at' ≤ p then e.op else 0) + opn B p) := fun p => by rw [opn_app, opn_cons]
  rcases ie.2.2.2 with ho | ho
  · have hup : opn A (e.at' - 1) ≤ opn A e.at' := opn_up (fun x hx hxe => by
      rcases cA x hx with c | c
      · omega
      · rcases (iA x hx).2.2.2 with d | d
        · exact d
        · omega)
    by_cases c : m.frm ≤ e.at' - 1
    · have h1 := h.pos (e.at' - 1) c (by have := ie.2.2.1; omega)
      rw [hG, if_neg (by omega), opn_out (A := B) (fun x hx => by rcases cB x hx with d | d <;> omega)] at h1
      omega
    · have h2 : opn A e.at' = A.length := opn_ones (fun x hx => by
        have a1 := (iA x hx).2.1
        rcases cA x hx with d | d
        · omega
        · rcases (iA x hx).2.2.2 with f | f
          · exact ⟨by omega, f⟩
          · omega)
      have : 0 < A.length := List.length_pos_iff.2 hA
      omega
  · have h1 := h.nn e.at'
    rw [hG, if_pos (Int.le_refl _), ho] at h1
    have h2 : opn B e.at' ≤ 0 := opn_neg (fun x hx => by
      rcases cB x hx with d | d
      · exact ⟨by omega, fun c => by omega⟩
      · exact ⟨by omega, fun _ => by rcases (iB x hx).2.2.2 with f | f <;> omega⟩)
    omega
theorem Grp.head {m : Mk} {B : List En} {e : En} (h : Grp m (e :: B)) : e = ⟨m.style, m.frm, 1⟩ := by
  have hs := h.srt
  unfold Srt at hs
  rw [List.pairwise_cons] at hs
  have ie := h.inn e (by simp)
  have iB : ∀ x ∈ B, InE m x := fun x hx => h.inn x (by simp [hx])
  have cB : ∀ x ∈ B, e.at' < x.at' ∨ (e.at' = x.at' ∧ x.op ≤ e.op) := fun x hx => le_inv (ie.1.trans (iB x hx).1.symm) (hs.1 x hx)
  have h1 := h.pos m.frm (Int.le_refl _) h.lt
  have e1 : e.at' = m.frm := by
    by_cases c : e.at' = m.frm
    · exact c
    · rw [opn_out (fun x hx => by
        have := ie.2.1
        rcases List.mem_cons.1 hx with rfl | hx
        · omega
        · rcases cB x hx with d | d <;> omega)] at h1
      omega
  have e2 : e.op = 1 := by
    rcases ie.2.2.2 with c | c
    · exact c
    · have := opn_neg (p := m.frm) (A := e :: B) (fun x hx => by
        rcases List.mem_cons.1 hx with rfl | hx
        · exact ⟨by omega, fun _ => c⟩
        · have := iB x hx
          refine ⟨this.2.1, fun hx2 => ?_⟩
          rcases cB x hx with d | d
          · omega
          · rcases this.2.2.2 with f | f <;> omega)
      omega
  obtain ⟨s, a, o⟩ := e
  have e3 : s = m.style := ie.1
  have e1' : a = m.frm := e1
  have e2' : o = 1 := e2
  rw [e3, e1', e2']
theorem Grp.last {m : Mk} {A : List En} {e : En} (h : Grp m (A ++ [e])) : e.at' = m.to ∧ opn A m.to + e.op = 0 ∧ A ≠ [] := by
  have hs := h.srt
  unfold Srt at hs
  rw [List.pairwise_append] at hs
  have ie := h.inn e (by simp)
  have iA : ∀ x ∈ A, InE m x := fun x hx => h.inn x (by simp [hx])
  have cA : ∀ x ∈ A, x.at' < e.at' ∨ (x.at' = e.at' ∧ e.op ≤ x.op) := fun x hx => le_inv ((iA x hx).1.trans ie.1.symm) (hs.2.2 x hx e (by simp))
  have hz := h.zer m.to (Int.le_refl _)
  have e1 : e.at' = m.to := by
    by_cases c : e.at' = m.to
    · exact c
    · have h1 := h.pos (m.to - 1) (by have := h.lt; omega) (by omega)
      have := ie.2.2.1
      rw [opn_all (q := m.to) (fun x hx => by
        rcases List.mem_append.1 hx with hx | hx
        · have := cA x hx; omega
        · rw [List.mem_singleton] at hx; subst hx; omega)] at h1
      omega
  rw [opn_app, opn_cons, if_pos (by omega)] at hz
  have hn : opn ([] : List En) m.to = 0 := rfl
  refine ⟨e1, by omega, fun c => ?_⟩
  subst c
  have := (Grp.head h)
  rw [this] at hz
  have hn2 : opn ([] : List En) m.to = 0 := rfl
  simp only [] at hz
  omega
theorem fold_pre {m : Mk} (out : List Mk) : ∀ (n : Nat) (A B : List En), A.length = n → A ≠ [] → B ≠ [] → Grp m (A ++ B) → foldE (out, 0) A = (out ++ [⟨m.frm, 0, m.style⟩], opn A m.to)
  | 0, A, B, hn, hA, _, _ => absurd (List.length_eq_zero_iff.1 hn) hA
  | n + 1, A, B, hn, hA, hB, h => by
    obtain ⟨A', e, rfl⟩ : ∃ A' e, A = A' ++ [e] := ⟨A.dropLast, A.getLast hA, (List.dropLast_concat_getLast _).symm⟩
    obtain ⟨b, B', rfl⟩ : ∃ b B', B = b :: B' := by
      cases B with
      | nil => exact absurd rfl hB
      | cons b B' => exact ⟨b, B', rfl⟩
    have hp := h.pre (by simp)
    by_cases c : A' = []
    · subst c
      have he := Grp.head (B := b :: B') (e := e) (by simpa using h)
      subst he
      have := h.lt
      rw [List.nil_append, opn_cons, if_pos (by show m.frm ≤ m.to; omega)]
      simp only [foldE, List.foldl_cons, List.foldl_nil]
      unfold stE opnE
      simp [opn]
    · have ih := fold_pre out n A' (e :: b :: B') (by simpa using hn) c (by simp) (by simpa using h)
      have hp' := Grp.pre (A := A') (e := e) (B := b :: B') (by simpa using h) c
      have ie := h.inn e (by simp)
      have es : opn (A' ++ [e]) m.to = opn A' m.to + e.op := by
        rw [opn_app, opn_cons, if_pos ie.2.2.1]
        show _ + (_ + 0) = _; omega
      rw [foldE_app, ih, es]
      show stE _ e = _
      unfold stE opnE
      rw [if_neg (by show ¬ opn A' m.to + e.op = 0; omega), if_neg (by show ¬ opn A' m.to = 0; omega)]
theorem fold_grp {m : Mk} {G : List En} (h : Grp m G) (out : List Mk) : foldE (out, 0) G = (out ++ [m], 0) := by
  have hG : G ≠ [] := by
    intro c; subst c
    have := h.pos m.frm (Int.le_refl _) h.lt
    have e0 : opn ([] : List En) m.frm = 0 := rfl
    omega
  obtain ⟨A, e, rfl⟩ : ∃ A e, G = A ++ [e] := ⟨G.dropLast, G.getLast hG, (List.dropLast_concat_getLast _).symm⟩
  obtain ⟨h1, h2, h3⟩ := h.last
  have hp := h.pre h3
  rw [foldE_app, fold_pre out A.length A [e] rfl h3 (by simp) h]
  show stE _ e = _
  unfold stE opnE
  rw [if_pos (by show opn A m.to + e.op = 0; omega), if_neg (by show ¬ opn A m.to = 0; omega), setTo_snoc]
  show (_, opn A m.to + e.op) = _
  rw [h2, h1]
theorem grp_ends {m : Mk} (h : m.frm < m.to) : Grp m (endsOf m) where
  lt := h
  srt := srt_ends m
  inn := fun e he => ends_in m m e he rfl (Int.le_refl _) (Int.le_refl _)
  pos := fun p h1 h2 => by
    unfold endsOf; rw [if_pos h]
    show 1 ≤ (if m.frm ≤ p then (1 : Int) else 0) + ((if m.to ≤ p then (-1 : Int) else 0) + 0)
    rw [if_pos h1, if_neg (by omega)]; omega
  zer := fun p h1 => by
    unfold endsOf; rw [if_pos h]
    show (if m.frm ≤ p then (1 : Int) else 0) + ((if m.to ≤ p then (-1 : Int) else 0) + 0) = 0
    rw [if_pos (by omega), if_pos h1]; omega
/-- Of ends there is a row in order. -/
theorem sorted_ex (G : List En) : ∃ K : List En, K.Perm G ∧ Srt ahE K := by
  refine ⟨G.mergeSort (fun a b => !ahE b a), List.mergeSort_perm _ _, ?_⟩
  have := List.pairwise_mergeSort (le := fun a b => !ahE b a) (fun a b c h1 h2 => by
    simp only [Bool.not_eq_true'] at h1 h2 ⊢
    exact ahE_ord.trans h1 h2) (fun a b => by
    simp only [Bool.or_eq_true, Bool.not_eq_true']
    cases e : ahE b a with
    | false => exact .inl rfl
    | true => exact .inr (ahE_ord.le_of_lt e)) G
  unfold Srt
  refine this.imp (fun h => ?_)
  simpa [le] using h
theorem grp_merge {m x : Mk} {G H : List En} (hm : Grp m G) (hx : Grp x H) (hs : m.style = x.style) (h1 : x.frm ≤ m.to) (h2 : m.frm ≤ x.to) : ∃ K, K.Perm (G ++ H) ∧ Grp ⟨min m.frm x.frm, max m.to x.to, m.style⟩ K := by
  obtain ⟨K, hK, hsrt⟩ := sorted_ex (G ++ H)
  have l1 := hm.lt
  have l2 := hx.lt
  refine ⟨K, hK, ?_, hsrt, fun e he => ?_, fun p p1 p2 => ?_, fun p p1 => ?_⟩
  · show min m.frm x.frm < max m.to x.to; omega
  · rcases List.mem_append.1 (hK.mem_iff.1 he) with c | c
    · have := hm.inn e c
      exact ⟨this.1, by show min m.frm x.frm ≤ _; have := this.2.1; omega, by show _ ≤ max m.to x.to; have := this.2.2.1; omega, this.2.2.2⟩
    · have := hx.inn e c
      exact ⟨this.1.trans hs.symm, by show min m.frm x.frm ≤ _; have := this.2.1; omega, by show _ ≤ max m.to x.to; have := this.2.2.1; omega, this.2.2.2⟩
  · rw [opn_perm p hK, opn_app]
    have p1' : min m.frm x.frm ≤ p := p1
    have p2' : p < max m.to x.to := p2
    have n1 := hm.nn p
    have n2 := hx.nn p
    by_cases c : m.frm ≤ p ∧ p < m.to
    · have := hm.pos p c.1 c.2; omega
    · have := hx.pos p (by omega) (by omega); omega
  · have p1' : max m.to x.to ≤ p := p1
    rw [opn_perm p hK, opn_app, hm.zer p (by omega), hx.zer p (by omega)]; rfl

/-- Marks, and ends in order that are they. -/
inductive Rp : List Mk → List En → Prop
  | nil : Rp [] []
  | cons {m : Mk} {G : List En} {L : List Mk} {E : List En} : Grp m G → Rp L E → Rp (m :: L) (G ++ E)
theorem Rp.fold {L : List Mk} {E : List En} (h : Rp L E) : ∀ out, foldE (out, 0) E = (out ++ L, 0) := by
  induction h with
  | nil => intro out; simp [foldE]
  | cons g _ ih => intro out; rw [foldE_app, fold_grp g, ih, List.append_assoc]; rfl
theorem Rp.mkF {L : List Mk} {E : List En} (h : Rp L E) : (mkF E).1 = L := by
  have := h.fold []
  unfold Doc1.mkF
  unfold foldE at this
  rw [this]; rfl
theorem Rp.inn {L : List Mk} {E : List En} (h : Rp L E) : ∀ e ∈ E, ∃ m ∈ L, InE m e := by
  induction h with
  | nil => intro e he; cases he
  | cons g _ ih =>
    intro e he
    rcases List.mem_append.1 he with c | c
    · exact ⟨_, by simp, g.inn e c⟩
    · obtain ⟨m, hm, hi⟩ := ih e c
      exact ⟨m, by simp [hm], hi⟩
theorem Rp.srt {L : List Mk} {E : List En} (h : Rp L E) : L.Pairwise (fun a b => mkLt a b = true) → Srt ahE E := by
  induction h with
  | nil => intro _; exact List.Pairwise.nil
  | cons g r ih =>
    intro hp
    rw [List.pairwise_cons] at hp
    unfold Srt
    rw [List.pairwise_append]
    refine ⟨g.srt, ih hp.2, fun a ha b hb => ?_⟩
    obtain ⟨m', hm', hi⟩ := r.inn b hb
    exact mkLt_le (hp.1 m' hm') (g.inn a ha) hi
theorem Rp.lts {L : List Mk} {E : List En} (h : Rp L E) : ∀ m ∈ L, m.frm < m.to := by
  induction h with
  | nil => intro m hm; cases hm
  | cons g _ ih =>
    intro m hm
    rcases List.mem_cons.1 hm with rfl | hm
    · exact g.lt
    · exact ih m hm
theorem rp_good : ∀ {L : List Mk}, (∀ m ∈ L, m.frm < m.to) → Rp L (L.flatMap endsOf)
  | [], _ => .nil
  | m :: L, h => by
    rw [List.flatMap_cons]
    exact .cons (grp_ends (h m (by simp))) (rp_good (fun x hx => h x (by simp [hx])))

/-- A mark put to marks, as one with all that it touches. -/
def mgM (m x : Mk) : Mk := ⟨min m.frm x.frm, max m.to x.to, m.style⟩
def addL : List Mk → Mk → List Mk
  | [], m => [m]
  | x :: l, m => if mkLt x m = true then x :: addL l m else if mkLt m x = true then m :: x :: l else addL l (mgM m x)
theorem touch {m x : Mk} (h1 : mkLt x m = false) (h2 : mkLt m x = false) : m.style = x.style ∧ x.frm ≤ m.to ∧ m.frm ≤ x.to := by
  unfold mkLt at h1 h2
  by_cases e : x.style.toList = m.style.toList
  · rw [if_pos (by rw [e]; exact beq_self_eq_true _)] at h1 h2
    rw [decide_eq_false_iff_not] at h1 h2
    exact ⟨(toL_inj e).symm, by omega, by omega⟩
  · rw [if_neg (by simpa using e)] at h1
    rw [if_neg (by simpa using Ne.symm e)] at h2
    rcases bl_tt _ _ e with c | c
    · rw [c] at h1; cases h1
    · rw [c] at h2; cases h2
theorem mkLt_mg {a m x : Mk} (hs : m.style = x.style) (h1 : mkLt a m = true) (h2 : mkLt a x = true) : mkLt a (mgM m x) = true := by
  unfold mkLt mgM at *
  rw [← hs] at h2
  by_cases e : a.style.toList = m.style.toList
  · have b := (show (a.style.toList == m.style.toList) = true by rw [e]; exact beq_self_eq_true _)
    rw [if_pos b] at h1 h2 ⊢
    rw [decide_eq_true_eq] at *
    show a.to < min m.frm x.frm
    omega
  · rw [if_neg (by simpa using e)] at h1 ⊢; exact h1
theorem addL_behind (a : Mk) : ∀ (L : List Mk) (m : Mk), mkLt a m = true → (∀ y ∈ L, mkLt a y = true) → ∀ z ∈ addL L m, mkLt a z = true
  | [], m, hm, _, z, hz => by rw [addL, List.mem_singleton] at hz; rw [hz]; exact hm
  | x :: L, m, hm, hL, z, hz => by
    have hx := hL x (by simp)
    have hL' : ∀ y ∈ L, mkLt a y = true := fun y hy => hL y (by simp [hy])
    rw [addL] at hz
    split at hz
    · rcases List.mem_cons.1 hz with rfl | hz
      · exact hx
      · exact addL_behind a L m hm hL' z hz
    · rename_i c1
      split at hz
      · rcases List.mem_cons.1 hz with rfl | hz
        · exact hm
        · exact hL z hz
      · rename_i c2
        exact addL_behind a L _ (mkLt_mg (touch (by simpa using c1) (by simpa using c2)).1 hm hx) hL' z hz
theorem addL_pw : ∀ (L : List Mk) (m : Mk), L.Pairwise (fun a b => mkLt a b = true) → (∀ x ∈ L, x.frm < x.to) → (addL L m).Pairwise (fun a b => mkLt a b = true)
  | [], m, _, _ => List.pairwise_singleton _ _
  | x :: L, m, hp, hl => by
    have hp' := hp
    rw [List.pairwise_cons] at hp
    have hl' : ∀ y ∈ L, y.frm < y.to := fun y hy => hl y (by simp [hy])
    rw [addL]
    split
    · rename_i c1
      exact List.Pairwise.cons (addL_behind x L m c1 hp.1) (addL_pw L m hp.2 hl')
    · rename_i c1
      split
      · rename_i c2
        refine List.Pairwise.cons (fun b hb => ?_) hp'
        rcases List.mem_cons.1 hb with rfl | hb
        · exact c2
        · exact mkLt_tr (hl x (by simp)) c2 (hp.1 b hb)
      · exact addL_pw L _ hp.2 hl'
theorem rp_add : ∀ {L : List Mk} {E : List En}, Rp L E → ∀ {m : Mk} {G : List En}, Grp m G → ∃ E', Rp (addL L m) E' ∧ E'.Perm (G ++ E) := by
  intro L E h
  induction h with
  | nil => intro m G g; exact ⟨G ++ [], .cons g .nil, List.Perm.refl _⟩
  | @cons x H L E gx r ih =>
    intro m G g
    rw [addL]
    by_cases c1 : mkLt x m = true
    · rw [if_pos c1]
      obtain ⟨E', h1, h2⟩ := ih g
      refine ⟨H ++ E', .cons gx h1, (h2.append_left H).trans ?_⟩
      rw [← List.append_assoc, ← List.append_assoc]
      exact List.perm_append_comm.append_right E
    · rw [if_neg c1]
      by_cases c2 : mkLt m x = true
      · rw [if_pos c2]
        exact ⟨G ++ (H ++ E), .cons g (.cons gx r), List.Perm.refl _⟩
      · rw [if_neg c2]
        obtain ⟨t1, t2, t3⟩ := touch (by simpa using c1) (by simpa using c2)
        obtain ⟨K, k1, k2⟩ := grp_merge g gx t1 t2 t3
        obtain ⟨E', h1, h2⟩ := ih k2
        refine ⟨E', h1, h2.trans ?_⟩
        rw [← List.append_assoc]
        exact k1.append_right E
theorem addL_len : ∀ (L : List Mk) (m : Mk), (addL L m).length ≤ L.length + 1
  | [], m => by simp [addL]
  | x :: L, m => by
    rw [addL]
    split
    · have := addL_len L m; simp; omega
    · split
      · simp
      · have := addL_len L (mgM m x); simp; omega
theorem addL_styles (s : ByteArray → Prop) : ∀ (L : List Mk) (m : Mk), s m.style → (∀ x ∈ L, s x.style) → ∀ z ∈ addL L m, s z.style
  | [], m, hm, _, z, hz => by rw [addL, List.mem_singleton] at hz; rw [hz]; exact hm
  | x :: L, m, hm, hL, z, hz => by
    have hL' : ∀ y ∈ L, s y.style := fun y hy => hL y (by simp [hy])
    rw [addL] at hz
    split at hz
    · rcases List.mem_cons.1 hz with rfl | hz
      · exact hL z (by simp)
      · exact addL_styles s L m hm hL' z hz
    · split at hz
      · rcases List.mem_cons.1 hz with rfl | hz
        · exact hm
        · exact hL z hz
      · exact addL_styles s L (mgM m x) hm hL' z hz
end Go.Proofs.Ytknodkdlphngmaw.Doc1
