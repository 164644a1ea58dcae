/- Where a bough's own boughs begin: the model's l12First, and its GoodRope. -/
import Derived.Test.YtgacajnljplmiabDoorRpt3
set_option linter.unusedVariables false
namespace Go.Proofs.YtgacajnljplmiabDoor
open Go.RowKit
open Doc1

/-- A tree's boughs stand in a row of boughs, from a place up to another. -/
inductive SG (l : List Bg) : Nat → Nat → Lm → Prop
  | pc {f : Nat} {s : ByteArray} : l[f]? = some ⟨-1, -1, s, (s.size : Nat), 0⟩ → gpc s = true → SG l f (f + 1) (.pc s)
  | jn {f m e : Nat} {a b : Lm} : SG l f m a → SG l m e b → l[e]? = some ⟨(m : Int) - 1, (e : Int) - 1, eT, ((a.sz + b.sz : Nat) : Int), ((max a.dp b.dp + 1 : Nat) : Int)⟩ → SG l f (e + 1) (.jn a b)

theorem SG.lt {l : List Bg} {f e : Nat} {t : Lm} (h : SG l f e t) : e = f + t.nb ∧ e ≤ l.length ∧ t.gd := by
  induction h with
  | pc h1 h2 => exact ⟨rfl, (List.getElem?_eq_some_iff.1 h1).1, gd_pc.2 h2⟩
  | jn h1 h2 h3 i1 i2 => exact ⟨by rw [i2.1, i1.1]; simp only [Lm.nb]; omega, (List.getElem?_eq_some_iff.1 h3).1, gd_jn.2 ⟨i1.2.2, i2.2.2⟩⟩

theorem SG.root {l : List Bg} {f e : Nat} {t : Lm} (h : SG l f e t) : ∃ b, l[e - 1]? = some b ∧ b.size = (t.sz : Int) ∧ b.deep = (t.dp : Int) := by
  cases h with
  | pc h1 h2 => exact ⟨_, h1, rfl, rfl⟩
  | jn h1 h2 h3 => exact ⟨_, h3, rfl, rfl⟩

theorem SG.uniq {l : List Bg} : ∀ {e f f' : Nat} {t t' : Lm}, SG l f e t → SG l f' e t' → f = f' ∧ t = t' := by
  intro e
  induction e using Nat.strongRecOn with
  | ind e ih =>
    intro f f' t t' h h'
    cases h with
    | @pc _ s h1 h2 =>
      cases h' with
      | @pc _ s2 k1 k2 => rw [h1] at k1; cases k1; exact ⟨rfl, rfl⟩
      | @jn _ m2 e2 a2 b2 k1 k2 k3 =>
        rw [h1] at k3
        have q1 := k1.lt.1
        have q2 := Lm.nb_pos a2
        simp only [Option.some.injEq, Bg.mk.injEq] at k3
        have q3 := k3.1
        omega
    | @jn _ m e1 a b h1 h2 h3 =>
      cases h' with
      | @pc _ s2 k1 k2 =>
        rw [h3] at k1
        have q1 := h1.lt.1
        have q2 := Lm.nb_pos a
        simp only [Option.some.injEq, Bg.mk.injEq] at k1
        have q3 := k1.1
        omega
      | @jn _ m2 e2 a2 b2 k1 k2 k3 =>
        rw [h3] at k3
        simp only [Option.some.injEq, Bg.mk.injEq] at k3
        have q3 := k3.1
        have em : m = m2 := by omega
        subst em
        have q1 := h2.lt.1
        have q2 := Lm.nb_pos b
        obtain ⟨-, rfl⟩ := ih e1 (by omega) h2 k2
        obtain ⟨rfl, rfl⟩ := ih m (by omega) h1 k1
        exact ⟨rfl, rfl⟩

/-- The boughs of a tree, laid among others. -/
theorem SG.of_pd (t : Lm) : ∀ (pre suf : List Bg), t.gd → SG (pre ++ t.pd pre.length ++ suf) pre.length (pre.length + t.nb) t := by
  induction t with
  | pc s =>
    intro pre suf h
    refine .pc ?_ (gd_pc.1 h)
    rw [List.append_assoc, List.getElem?_append_right (Nat.le_refl _), Nat.sub_self]
    rfl
  | jn a b iha ihb =>
    intro pre suf h
    obtain ⟨ga, gb⟩ := gd_jn.1 h
    simp only [Lm.pd, Lm.nb]
    obtain ⟨r, hr⟩ : ∃ r : Bg, r = ⟨((pre.length + a.nb : Nat) : Int) - 1, ((pre.length + a.nb + b.nb : Nat) : Int) - 1, eT, ((a.sz + b.sz : Nat) : Int), ((max a.dp b.dp + 1 : Nat) : Int)⟩ := ⟨_, rfl⟩
    rw [← hr]
    have h1 := iha pre (b.pd (pre.length + a.nb) ++ [r] ++ suf) ga
    have h2 := ihb (pre ++ a.pd pre.length) ([r] ++ suf) gb
    have e1 : (pre ++ a.pd pre.length).length = pre.length + a.nb := by rw [List.length_append, Lm.pd_len]
    rw [e1] at h2
    have x1 : pre ++ a.pd pre.length ++ (b.pd (pre.length + a.nb) ++ [r] ++ suf) = pre ++ (a.pd pre.length ++ (b.pd (pre.length + a.nb) ++ [r])) ++ suf := by simp
    have x2 : pre ++ a.pd pre.length ++ b.pd (pre.length + a.nb) ++ ([r] ++ suf) = pre ++ (a.pd pre.length ++ (b.pd (pre.length + a.nb) ++ [r])) ++ suf := by simp
    rw [x1] at h1
    rw [x2] at h2
    rw [show pre.length + (a.nb + b.nb + 1) = pre.length + a.nb + b.nb + 1 by omega]
    refine .jn h1 h2 ?_
    rw [← x2, List.getElem?_append_right (by rw [List.length_append, e1, Lm.pd_len]; omega), List.length_append, e1, Lm.pd_len, Nat.sub_self, hr]
    rfl

theorem SG.seg {l : List Bg} {f e : Nat} {t : Lm} (h : SG l f e t) : (l.take e).drop f = t.pd f := by
  induction h with
  | @pc f s h1 h2 =>
    have hl := (List.getElem?_eq_some_iff.1 h1)
    rw [List.take_succ_eq_append_getElem hl.1, List.drop_left' (by rw [List.length_take]; have := hl.1; omega), hl.2]
    rfl
  | @jn f m e a b h1 h2 h3 i1 i2 =>
    have hl := (List.getElem?_eq_some_iff.1 h3)
    have q1 := h1.lt
    have q2 := h2.lt
    have hle : (l.take e).length = e := by rw [List.length_take]; have := hl.1; omega
    rw [List.take_succ_eq_append_getElem hl.1, List.drop_append_of_le_length (by omega), hl.2]
    have hm : l.take m = (l.take e).take m := by rw [List.take_take, Nat.min_eq_left (by omega)]
    have hsp : (l.take e).drop f = (l.take m).drop f ++ (l.take e).drop m := by
      rw [hm]
      have h5 : l.take e = (l.take e).take m ++ (l.take e).drop m := (List.take_append_drop _ _).symm
      have h6 : ((l.take e).take m).length = m := by rw [List.length_take, hle]; omega
      conv => lhs; rw [h5]
      rw [List.drop_append_of_le_length (by omega)]
    rw [hsp, i1, i2]
    simp only [Lm.pd]
    rw [← q1.1, ← q2.1, List.append_assoc]

/-- A good rope is a tree that stands in all of it. -/
theorem SG.rp {l : List Bg} {t : Lm} : SG l 0 l.length t ↔ l = t.pd 0 ∧ t.gd := by
  constructor
  · intro h
    have := h.seg
    rw [List.take_length, List.drop_zero] at this
    exact ⟨this, h.lt.2.2⟩
  · rintro ⟨h, hg⟩
    have := SG.of_pd t [] [] hg
    simp only [List.nil_append, List.append_nil, List.length_nil, Nat.zero_add] at this
    rw [h, Lm.pd_len]
    exact this

open Classical in
/-- Where a bough's own boughs begin. -/
noncomputable def frs (l : List Bg) (k : Nat) : Int := if h : ∃ f : Nat, ∃ t, SG l f (k + 1) t then (h.choose : Int) else -1

theorem frs_some {l : List Bg} {k f : Nat} {t : Lm} (h : SG l f (k + 1) t) : frs l k = f := by
  unfold frs
  have hx : ∃ f : Nat, ∃ t, SG l f (k + 1) t := ⟨f, t, h⟩
  rw [dif_pos hx]
  obtain ⟨t', h'⟩ := hx.choose_spec
  rw [(SG.uniq h' h).1]

theorem frs_none {l : List Bg} {k : Nat} (h : ∀ f t, ¬ SG l f (k + 1) t) : frs l k = -1 := by
  unfold frs
  rw [dif_neg (fun ⟨f, t, ht⟩ => h f t ht)]

theorem frs_or (l : List Bg) (k : Nat) : (∃ f t, SG l f (k + 1) t ∧ frs l k = (f : Int)) ∨ ((∀ f t, ¬ SG l f (k + 1) t) ∧ frs l k = -1) := by
  by_cases h : ∃ f : Nat, ∃ t, SG l f (k + 1) t
  · obtain ⟨f, t, ht⟩ := h
    exact .inl ⟨f, t, ht, frs_some ht⟩
  · have h2 : ∀ f t, ¬ SG l f (k + 1) t := fun f t ht => h ⟨f, t, ht⟩
    exact .inr ⟨h2, frs_none h2⟩

/-- What stands at a bough that ends a tree. -/
theorem SG.shape {l : List Bg} {k f : Nat} {t : Lm} {b : Bg} (h : SG l f (k + 1) t) (hb : l[k]? = some b) :
    (b.left = -1 ∧ b.right = -1 ∧ t = .pc b.text ∧ f = k ∧ gpc b.text = true ∧ b.size = (b.text.size : Int) ∧ b.deep = 0) ∨
    (0 ≤ b.left ∧ b.text = eT ∧ b.right = (k : Int) - 1 ∧ 2 ≤ k ∧ ∃ m x y, t = .jn x y ∧ SG l f m x ∧ SG l m k y ∧ b.left = (m : Int) - 1 ∧ 1 ≤ m ∧ m < k ∧ b.size = (x.sz : Int) + (y.sz : Int) ∧ b.deep = (max (x.dp : Int) (y.dp : Int)) + 1) := by
  cases h with
  | @pc _ s h1 h2 =>
    rw [hb] at h1
    simp only [Option.some.injEq] at h1
    subst h1
    exact .inl ⟨rfl, rfl, rfl, rfl, h2, rfl, rfl⟩
  | @jn _ m e x y h1 h2 h3 =>
    rw [hb] at h3
    simp only [Option.some.injEq] at h3
    subst h3
    have q1 := h1.lt.1
    have q2 := h2.lt.1
    have p1 := Lm.nb_pos x
    have p2 := Lm.nb_pos y
    exact .inr ⟨by show (0 : Int) ≤ (m : Int) - 1; omega, rfl, rfl, by omega, m, x, y, rfl, h1, h2, rfl, by omega, by omega, by show ((x.sz + y.sz : Nat) : Int) = _; omega, by show ((max x.dp y.dp + 1 : Nat) : Int) = _; omega⟩
end Go.Proofs.YtgacajnljplmiabDoor
