/- The plain mathematics of chapter 12: ropes as trees of pieces, how their boughs are laid, how they are read. -/
import Derived.Test.YtkjioadmebkaoaaDoorOpsM
namespace Go.Proofs.YtkjioadmebkaoaaDoor.Doc1

/-- A bough. -/
structure Bg where
  left : Int
  right : Int
  text : ByteArray
  size : Int
  deep : Int
  deriving DecidableEq
def eT : ByteArray := ⟨#[]⟩
/-- A rope as a tree. -/
inductive Lm where
  | pc (s : ByteArray)
  | jn (a b : Lm)
  deriving DecidableEq
namespace Lm
def sz : Lm → Nat
  | pc s => s.size
  | jn a b => a.sz + b.sz
def dp : Lm → Nat
  | pc _ => 0
  | jn a b => max a.dp b.dp + 1
def nb : Lm → Nat
  | pc _ => 1
  | jn a b => a.nb + b.nb + 1
def pcs : Lm → List ByteArray
  | pc s => [s]
  | jn a b => a.pcs ++ b.pcs
/-- The boughs of a tree, laid behind so many others. -/
def pd : Nat → Lm → List Bg
  | _, pc s => [⟨-1, -1, s, (s.size : Nat), 0⟩]
  | o, jn a b => a.pd o ++ (b.pd (o + a.nb) ++ [⟨((o + a.nb : Nat) : Int) - 1, ((o + a.nb + b.nb : Nat) : Int) - 1, eT, ((a.sz + b.sz : Nat) : Int), ((max a.dp b.dp + 1 : Nat) : Int)⟩])
theorem nb_pos (t : Lm) : 0 < t.nb := by cases t <;> simp [nb]
theorem pd_len (t : Lm) : ∀ o, (t.pd o).length = t.nb := by
  induction t with
  | pc s => intro o; rfl
  | jn a b iha ihb => intro o; simp only [pd, nb, List.length_append, iha, ihb, List.length_singleton]; omega
/-- The root's bough. -/
def rb : Nat → Lm → Bg
  | _, pc s => ⟨-1, -1, s, (s.size : Nat), 0⟩
  | o, jn a b => ⟨((o + a.nb : Nat) : Int) - 1, ((o + a.nb + b.nb : Nat) : Int) - 1, eT, ((a.sz + b.sz : Nat) : Int), ((max a.dp b.dp + 1 : Nat) : Int)⟩
theorem rb_is (t : Lm) (o : Nat) : (t.rb o).size = (t.sz : Int) ∧ (t.rb o).deep = (t.dp : Int) := by cases t <;> exact ⟨rfl, rfl⟩
theorem pd_root (t : Lm) (o : Nat) : ∃ i, t.pd o = i ++ [t.rb o] ∧ i.length + 1 = t.nb := by
  cases t with
  | pc s => exact ⟨[], rfl, rfl⟩
  | jn a b => exact ⟨a.pd o ++ b.pd (o + a.nb), by simp [pd, rb], by rw [List.length_append, pd_len, pd_len]; rfl⟩
theorem nb_pcs (t : Lm) : t.nb + 1 = 2 * t.pcs.length := by
  induction t with
  | pc s => rfl
  | jn a b iha ihb => simp only [nb, pcs, List.length_append]; omega
theorem dp_lt (t : Lm) : t.dp < t.nb := by
  induction t with
  | pc s => simp [dp, nb]
  | jn a b iha ihb => simp only [dp, nb]; omega
end Lm
open Lm
/-- A good piece. -/
def gpc (s : ByteArray) : Bool := decide (0 < s.size) && (decide (s.size ≤ 8) && good s.data.toList)
theorem gpc_bd {s : ByteArray} (h : gpc s = true) : 0 < s.size ∧ s.size ≤ 8 := by
  unfold gpc at h
  simp only [Bool.and_eq_true, decide_eq_true_eq] at h
  exact ⟨h.1, h.2.1⟩
theorem gpc_good {s : ByteArray} (h : gpc s = true) : good s.data.toList = true := by
  unfold gpc at h
  simp only [Bool.and_eq_true, decide_eq_true_eq] at h
  exact h.2.2
theorem gpc_e : gpc eT = false := rfl
def Lm.gd (t : Lm) : Prop := ∀ s ∈ t.pcs, gpc s = true
theorem gd_pc {s : ByteArray} : (pc s).gd ↔ gpc s = true := ⟨fun h => h s (by simp [pcs]), fun h x hx => by simp only [pcs, List.mem_singleton] at hx; rw [hx]; exact h⟩
theorem gd_jn {a b : Lm} : (jn a b).gd ↔ a.gd ∧ b.gd := by
  unfold gd
  simp only [pcs, List.mem_append]
  exact ⟨fun h => ⟨fun s hs => h s (.inl hs), fun s hs => h s (.inr hs)⟩, fun h s hs => hs.elim (h.1 s) (h.2 s)⟩
theorem gd_sz {t : Lm} (h : t.gd) : 0 < t.sz ∧ t.sz ≤ 8 * t.nb := by
  induction t with
  | pc s => have := gpc_bd (gd_pc.1 h); exact ⟨this.1, by simp only [sz, nb]; omega⟩
  | jn a b iha ihb =>
    have h1 := iha (gd_jn.1 h).1
    have h2 := ihb (gd_jn.1 h).2
    simp only [sz, nb]
    omega
/-- How a bough is read: a piece, or what joins the last two. -/
def rdS (st : List Lm) (b : Bg) : Option (List Lm) :=
  if gpc b.text then some (st ++ [pc b.text]) else if st.length < 2 then none else some (st.take (st.length - 2) ++ [jn (st.getD (st.length - 2) (pc eT)) (st.getD (st.length - 1) (pc eT))])
def rdL : List Lm → List Bg → Option (List Lm)
  | st, [] => some st
  | st, b :: l => (rdS st b).bind fun st' => rdL st' l
theorem rdL_app (l m : List Bg) : ∀ st, rdL st (l ++ m) = (rdL st l).bind fun st' => rdL st' m := by
  induction l with
  | nil => intro st; rfl
  | cons b l ih =>
    intro st
    simp only [List.cons_append, rdL]
    cases rdS st b with
    | none => rfl
    | some s => exact ih s
theorem last_two (x : List Lm) (a c : Lm) : (x ++ [a] ++ [c]).take ((x ++ [a] ++ [c]).length - 2) = x ∧ (x ++ [a] ++ [c]).getD ((x ++ [a] ++ [c]).length - 2) (pc eT) = a ∧ (x ++ [a] ++ [c]).getD ((x ++ [a] ++ [c]).length - 1) (pc eT) = c := by
  have e : (x ++ [a] ++ [c]).length - 2 = x.length := by simp
  have e1 : (x ++ [a] ++ [c]).length - 1 = x.length + 1 := by simp
  rw [e, e1, List.append_assoc x [a] [c]]
  refine ⟨List.take_left, ?_, ?_⟩
  · rw [List.getD_eq_getElem?_getD, List.getElem?_append_right (Nat.le_refl _), Nat.sub_self]; rfl
  · rw [List.getD_eq_getElem?_getD, List.getElem?_append_right (by omega : x.length ≤ x.length + 1), Nat.add_sub_cancel_left]; rfl
theorem rd_pd (t : Lm) : ∀ o st, t.gd → rdL st (t.pd o) = some (st ++ [t]) := by
  induction t with
  | pc s => intro o st h; simp only [pd, rdL, rdS, gd_pc.1 h, if_true]; rfl
  | jn a b iha ihb =>
    intro o st h
    simp only [pd]
    rw [rdL_app, iha o st (gd_jn.1 h).1, Option.bind_some, rdL_app, ihb _ _ (gd_jn.1 h).2, Option.bind_some]
    have hl : ¬ (st ++ [a] ++ [b]).length < 2 := by simp
    simp only [rdL, rdS, gpc_e, Bool.false_eq_true, if_false, if_neg hl, Option.bind_some]
    rw [(last_two st a b).1, (last_two st a b).2.1, (last_two st a b).2.2]
/-- What a row of trees holds together. -/
def nbs (st : List Lm) : Nat := (st.map nb).sum
theorem nbs_app (a b : List Lm) : nbs (a ++ b) = nbs a + nbs b := by simp [nbs]
theorem two_last {st : List Lm} (h : 2 ≤ st.length) : ∃ x a b, st = x ++ [a] ++ [b] ∧ x.length = st.length - 2 := by
  rcases List.eq_nil_or_concat st with rfl | ⟨y, b, rfl⟩
  · simp at h
  · rcases List.eq_nil_or_concat y with rfl | ⟨x, a, rfl⟩
    · simp at h
    · exact ⟨x, a, b, by simp, by simp⟩
theorem rdS_ok {st st' : List Lm} {b : Bg} (h : rdS st b = some st') (hg : ∀ t ∈ st, t.gd) : (∀ t ∈ st', t.gd) ∧ nbs st' = nbs st + 1 ∧ st' ≠ [] ∧ st'.length ≤ st.length + 1 := by
  unfold rdS at h
  split at h
  · rename_i hp
    cases h
    refine ⟨fun t ht => ?_, ?_, by simp, by simp⟩
    · rcases List.mem_append.1 ht with c | c
      · exact hg t c
      · rw [List.mem_singleton] at c; rw [c]; exact gd_pc.2 hp
    · rw [nbs_app]; rfl
  · split at h
    · cases h
    · rename_i hl
      obtain ⟨x, a, c, rfl, hx⟩ := two_last (st := st) (by omega)
      rw [(last_two x a c).1, (last_two x a c).2.1, (last_two x a c).2.2, Option.some.injEq] at h
      subst h
      refine ⟨fun t ht => ?_, ?_, by simp, by simp⟩
      · rcases List.mem_append.1 ht with d | d
        · exact hg t (by simp [d])
        · rw [List.mem_singleton] at d; rw [d]; exact gd_jn.2 ⟨hg a (by simp), hg c (by simp)⟩
      · rw [nbs_app, nbs_app, nbs_app]
        simp only [nbs, nb, List.map_cons, List.map_nil, List.sum_cons, List.sum_nil]
        omega
theorem rdL_ok (l : List Bg) : ∀ {st st' : List Lm}, rdL st l = some st' → (∀ t ∈ st, t.gd) → (∀ t ∈ st', t.gd) ∧ nbs st' = nbs st + l.length ∧ (l ≠ [] → st' ≠ []) := by
  induction l with
  | nil => intro st st' h hg; cases h; exact ⟨hg, rfl, fun c => absurd rfl c⟩
  | cons b l ih =>
    intro st st' h hg
    simp only [rdL] at h
    cases hs : rdS st b with
    | none => rw [hs] at h; cases h
    | some s =>
      rw [hs, Option.bind_some] at h
      have h1 := rdS_ok hs hg
      have h2 := ih h h1.1
      refine ⟨h2.1, by rw [h2.2.1, h1.2.1, List.length_cons]; omega, fun _ => ?_⟩
      by_cases hl : l = []
      · subst hl; cases h; exact h1.2.2.1
      · exact h2.2.2 hl
/-- A good rope: its tree. -/
def RP (l : List Bg) (t : Lm) : Prop := l = t.pd 0 ∧ t.gd ∧ t.nb ≤ 200 ∧ t.sz ≤ 300
/-- A good rope or none: its tree, or nothing. -/
def RO (l : List Bg) : Option Lm → Prop
  | none => l = []
  | some t => RP l t
theorem RP_uniq {l : List Bg} {t u : Lm} (h : RP l t) (k : RP l u) : t = u := by
  have h1 := rd_pd t 0 [] h.2.1
  have h2 := rd_pd u 0 [] k.2.1
  rw [← h.1] at h1
  rw [← k.1, h1] at h2
  simpa using h2
theorem pd_ne (t : Lm) (o : Nat) : t.pd o ≠ [] := fun c => by have := pd_len t o; rw [c] at this; have := nb_pos t; simp at *; omega
theorem RO_uniq {l : List Bg} : ∀ {o q : Option Lm}, RO l o → RO l q → o = q
  | none, none, _, _ => rfl
  | none, some t, h, k => by have h : l = [] := h; exact absurd (h ▸ k.1).symm (pd_ne t 0)
  | some t, none, h, k => by have k : l = [] := k; exact absurd (k ▸ h.1).symm (pd_ne t 0)
  | some t, some u, h, k => by rw [RP_uniq h k]
open Classical in
/-- What a rope is read as: none where it is not good. -/
noncomputable def dc (l : List Bg) : Option (Option Lm) := if h : ∃ o, RO l o then some h.choose else none
theorem dc_some {l : List Bg} {o : Option Lm} (h : RO l o) : dc l = some o := by
  unfold dc
  have hx : ∃ o, RO l o := ⟨o, h⟩
  rw [dif_pos hx, RO_uniq hx.choose_spec h]
theorem dc_ro {l : List Bg} {o : Option Lm} (h : dc l = some o) : RO l o := by
  unfold dc at h
  split at h
  · rename_i hx; cases h; exact hx.choose_spec
  · cases h
theorem dc_none {l : List Bg} (h : ∀ o, ¬ RO l o) : dc l = none := by
  unfold dc
  rw [dif_neg (fun ⟨o, ho⟩ => h o ho)]
/-- The boughs of a rope or none. -/
def bo : Option Lm → List Bg
  | none => []
  | some t => t.pd 0
def szO : Option Lm → Nat
  | none => 0
  | some t => t.sz
def nbO : Option Lm → Nat
  | none => 0
  | some t => t.nb
def pcO : Option Lm → List ByteArray
  | none => []
  | some t => t.pcs
def gdO (o : Option Lm) : Prop := ∀ s ∈ pcO o, gpc s = true
theorem RO_bo {l : List Bg} : ∀ {o : Option Lm}, RO l o → l = bo o ∧ gdO o ∧ nbO o ≤ 200 ∧ szO o ≤ 300
  | none, h => ⟨h, (fun s hs => by cases hs), (by simp [nbO]), (by simp [szO])⟩
  | some _, h => ⟨h.1, h.2.1, h.2.2.1, h.2.2.2⟩
theorem bo_RO : ∀ {o : Option Lm}, gdO o → nbO o ≤ 200 → szO o ≤ 300 → RO (bo o) o
  | none, _, _, _ => rfl
  | some _, h, k, m => ⟨rfl, h, k, m⟩
/-- The program's way to read a rope. -/
theorem dc_rd {l : List Bg} {st : List Lm} (h0 : l ≠ []) (h : rdL [] l = some st) : ∃ t r, st = t :: r ∧ t.gd ∧ t.nb ≤ l.length ∧ (dc l = some (some t) ↔ (t.nb ≤ 200 ∧ t.sz ≤ 300) ∧ t.pd 0 = l) ∧ (¬ ((t.nb ≤ 200 ∧ t.sz ≤ 300) ∧ t.pd 0 = l) → dc l = none) := by
  obtain ⟨h1, h2, h3⟩ := rdL_ok l h (fun t ht => by cases ht)
  cases st with
  | nil => exact absurd rfl (h3 h0)
  | cons t r =>
    have hg := h1 t (by simp)
    refine ⟨t, r, rfl, hg, ?_, ⟨fun k => ?_, fun k => dc_some (o := some t) ⟨k.2.symm, hg, k.1.1, k.1.2⟩⟩, fun k => dc_none (fun o ho => ?_)⟩
    · simp [nbs] at h2; omega
    · have := dc_ro k
      exact ⟨⟨this.2.2.1, this.2.2.2⟩, this.1.symm⟩
    · cases o with
      | none => exact h0 ho
      | some u =>
        have hu : RP l u := ho
        have := rd_pd u 0 [] hu.2.1
        rw [← hu.1, h] at this
        simp only [List.nil_append, Option.some.injEq, List.cons.injEq] at this
        obtain ⟨rfl, -⟩ := this
        exact k ⟨⟨hu.2.2.1, hu.2.2.2⟩, hu.1.symm⟩
theorem dc_bad {l : List Bg} (h : rdL [] l = none) : dc l = none := dc_none (fun o ho => by
  cases o with
  | none => have ho : l = [] := ho; rw [ho] at h; cases h
  | some u =>
    have hu : RP l u := ho
    have := rd_pd u 0 [] hu.2.1
    rw [← hu.1, h] at this
    cases this)
theorem dc_long {l : List Bg} (h : 200 < l.length) : dc l = none := dc_none (fun o ho => by
  cases o with
  | none => have ho : l = [] := ho; rw [ho] at h; simp at h
  | some u => have hu : RP l u := ho; rw [hu.1, pd_len] at h; have := hu.2.2.1; omega)
/-- Two ropes joined. -/
def jo : Option Lm → Option Lm → Option Lm
  | none, b => b
  | a, none => a
  | some a, some b => some (jn a b)
theorem jo_none (a : Option Lm) : jo a none = a := by cases a <;> rfl
theorem jo_pc (a b : Option Lm) : pcO (jo a b) = pcO a ++ pcO b := by
  cases a <;> cases b <;> simp [jo, pcO, pcs]
theorem jo_sz (a b : Option Lm) : szO (jo a b) = szO a + szO b := by
  cases a <;> cases b <;> simp [jo, szO, sz]
theorem jo_gd {a b : Option Lm} (ha : gdO a) (hb : gdO b) : gdO (jo a b) := fun s hs => by
  rw [jo_pc] at hs
  exact (List.mem_append.1 hs).elim (ha s) (hb s)
theorem nbO_pc (o : Option Lm) : nbO o = 2 * (pcO o).length - 1 := by
  cases o with
  | none => rfl
  | some t => have := nb_pcs t; simp only [nbO, pcO]; omega
theorem szO_pc (o : Option Lm) : szO o = ((pcO o).map ByteArray.size).sum := by
  cases o with
  | none => rfl
  | some t =>
    show t.sz = (t.pcs.map _).sum
    induction t with
    | pc s => simp [sz, pcs]
    | jn a b iha ihb => simp only [sz, pcs, List.map_append, List.sum_append, iha, ihb]
/-- Pieces joined each with all ahead. -/
def inRow (l : List ByteArray) : Option Lm := l.foldl (fun a s => jo a (some (pc s))) none
theorem inRow_snoc (l : List ByteArray) (s : ByteArray) : inRow (l ++ [s]) = jo (inRow l) (some (pc s)) := by simp [inRow]
theorem inRow_pc (l : List ByteArray) : pcO (inRow l) = l := by
  have key : ∀ (l : List ByteArray) (a : Option Lm), pcO (l.foldl (fun a s => jo a (some (pc s))) a) = pcO a ++ l := by
    intro l
    induction l with
    | nil => intro a; simp
    | cons s l ih => intro a; rw [List.foldl_cons, ih, jo_pc]; simp [pcO, pcs]
  exact (key l none).trans (List.nil_append _)
/-- Pieces joined evenly. -/
def evn (l : List ByteArray) : Option Lm :=
  if h0 : l.length = 0 then none
  else if h1 : l.length = 1 then some (pc (l.getD 0 eT))
  else jo (evn (l.take ((l.length + 1) / 2))) (evn (l.drop ((l.length + 1) / 2)))
termination_by l.length
decreasing_by
  · rw [List.length_take]; omega
  · rw [List.length_drop]; omega
theorem evn_pc : ∀ (n : Nat) (l : List ByteArray), l.length = n → pcO (evn l) = l := by
  intro n
  induction n using Nat.strongRecOn with
  | ind n ih =>
    intro l hl
    rw [evn]
    split
    · rename_i h; simp [pcO, List.eq_nil_of_length_eq_zero h]
    · split
      · rename_i h h1
        obtain ⟨s, rfl⟩ := List.length_eq_one_iff.1 h1
        simp [pcO, pcs]
      · rename_i h h1
        rw [jo_pc, ih _ (by omega) _ (List.length_take (i := (l.length + 1) / 2) (l := l)), ih _ (by omega) _ (List.length_drop (i := (l.length + 1) / 2) (l := l)), List.take_append_drop]
/-- A tree cut at a place. -/
def spl : Lm → Nat → Option Lm × Option Lm
  | pc s, n => if n = 0 then (none, some (pc s)) else if n = s.size then (some (pc s), none) else (some (pc (s.extract 0 n)), some (pc (s.extract n s.size)))
  | jn a b, n => if n = 0 then (none, some (jn a b)) else if n = a.sz + b.sz then (some (jn a b), none) else if n ≤ a.sz then ((spl a n).1, jo (spl a n).2 (some b)) else (jo (some a) (spl b (n - a.sz)).1, (spl b (n - a.sz)).2)
def splO : Option Lm → Nat → Option Lm × Option Lm
  | none, _ => (none, none)
  | some t, n => spl t n
theorem spl_zero (t : Lm) : spl t 0 = (none, some t) := by cases t <;> simp [spl]
theorem spl_all (t : Lm) (h : 0 < t.sz) : spl t t.sz = (some t, none) := by
  cases t with
  | pc s => simp only [sz] at h; simp only [spl, sz, if_true]; rw [if_neg (by omega)]
  | jn a b => simp only [sz] at h; simp only [spl, sz, if_true]; rw [if_neg (by omega)]
theorem spl_in (a b : Lm) {n : Nat} (h0 : n ≠ 0) (h1 : n ≠ a.sz + b.sz) (ha : 0 < a.sz) : spl (jn a b) n = if n < a.sz then ((spl a n).1, jo (spl a n).2 (some b)) else (jo (some a) (spl b (n - a.sz)).1, (spl b (n - a.sz)).2) := by
  simp only [spl, if_neg h0, if_neg h1]
  by_cases h : n < a.sz
  · rw [if_pos h, if_pos (by omega)]
  · rw [if_neg h]
    by_cases h2 : n = a.sz
    · subst h2
      rw [if_pos (Nat.le_refl _), spl_all a ha, Nat.sub_self, spl_zero]
      rfl
    · rw [if_neg (by omega)]
end Go.Proofs.YtkjioadmebkaoaaDoor.Doc1
