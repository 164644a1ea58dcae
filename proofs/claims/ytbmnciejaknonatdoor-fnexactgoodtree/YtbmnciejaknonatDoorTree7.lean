/- The plain mathematics of chapter 2, on: good trees are those that can be laid out; where a node begins. -/
import Derived.Test.YtbmnciejaknonatDoorTree6
namespace Go.Proofs.YtbmnciejaknonatDoor.Doc1

def shOne (l : List Nd) (i : Nat) : Bool := (decide (i = 0) == decide ((ndAt l i).up = -1)) && decide (-1 ≤ (ndAt l i).up ∧ (ndAt l i).up ≤ (i : Int) - 1)
def shU (l : List Nd) : Nat → Bool
  | 0 => true
  | i + 1 => shU l i && shOne l i
def shapeL (l : List Nd) : Bool := shU l l.length && decide (1 ≤ l.length ∧ l.length ≤ 301)
theorem shU_no {l : List Nd} {i : Nat} (h : shOne l i = false) : ∀ n, i < n → shU l n = false
  | 0, hn => by omega
  | n + 1, hn => by
    unfold shU
    by_cases e : i = n
    · subst e; rw [h]; simp
    · rw [shU_no h n (by omega)]; rfl
theorem shU_all {l : List Nd} : ∀ n, shU l n = true → ∀ i, i < n → shOne l i = true
  | 0, _, i, hi => by omega
  | n + 1, h, i, hi => by
    unfold shU at h
    simp only [Bool.and_eq_true] at h
    by_cases e : i = n
    · subst e; exact h.2
    · exact shU_all n h.1 i (by omega)
theorem shU_of {l : List Nd} : ∀ n, (∀ i, i < n → shOne l i = true) → shU l n = true
  | 0, _ => rfl
  | n + 1, h => by
    unfold shU
    rw [shU_of n (fun i hi => h i (by omega)), h n (by omega)]; rfl

/-- Good trees, as the model has it. -/
def goodT (l : List Nd) : Bool := shapeL l && (doc (fl l 0) && decide (tree (fl l 0) = l))
theorem shape_up {l : List Nd} (h : shapeL l = true) : (∀ i, i < l.length → (ndAt l i).up < (i : Int)) ∧ 1 ≤ l.length ∧ l.length ≤ 301 := by
  unfold shapeL at h
  simp only [Bool.and_eq_true, decide_eq_true_eq] at h
  refine ⟨fun i hi => ?_, h.2⟩
  have := shU_all l.length h.1 i hi
  unfold shOne at this
  simp only [Bool.and_eq_true, decide_eq_true_eq] at this
  omega

/-- The whole layout, as the program makes it. -/
def layL (l : List Nd) : Option LS :=
  if l = [] ∨ 301 < l.length then none else
  (addAll z0 l).bind fun z => (z.endInto 0).bind fun y => if doc y.text then some ⟨y.text, y.fr, y.to.set 0 y.text.length, y.op⟩ else none

theorem endI_last (u : Int) : ∀ (op : List Nat) (text : List UInt8) (fr to : List Nat) (y : LS), endI text fr to op u = some y → y.op.getLast? = op.getLast?
  | [], _, _, _, _, h => by simp [endI] at h
  | o :: r, text, fr, to, y, h => by
    unfold endI at h
    split at h
    · cases h; rfl
    · have := endI_last u r _ _ _ y h
      cases r with
      | nil => simp [endI] at h
      | cons x r => rw [this]; simp
theorem endI_zero : ∀ (op : List Nat) (text : List UInt8) (fr to : List Nat), op.getLast? = some 0 → ∃ y, endI text fr to op 0 = some y
  | [], _, _, _, h => by simp at h
  | o :: r, text, fr, to, h => by
    unfold endI
    by_cases e : (o : Int) = 0
    · rw [if_pos e]; exact ⟨_, rfl⟩
    · rw [if_neg e]
      cases r with
      | nil => simp at h; omega
      | cons x r => exact endI_zero (x :: r) _ _ _ (by simpa using h)
theorem last_cons (a : Nat) {l : List Nat} (h : l.getLast? = some 0) : (a :: l).getLast? = some 0 := by
  cases l with
  | nil => simp at h
  | cons x r => simpa using h
theorem addN_last {z y : LS} {n : Nd} (h : addN z n = some y) (h0 : z.op.getLast? = some 0) : y.op.getLast? = some 0 := by
  unfold addN at h
  split at h
  · split at h
    · cases h; exact last_cons _ h0
    · cases h
  · cases he : z.endInto n.up with
    | none => rw [he] at h; simp at h
    | some x =>
      rw [he] at h
      simp only [Option.map_some, Option.some.injEq] at h
      subst h
      exact last_cons _ ((endI_last n.up _ _ _ _ x he).trans h0)
  · cases he : z.endInto n.up with
    | none => rw [he] at h; simp at h
    | some x =>
      rw [he] at h
      simp only [Option.bind_some] at h
      split at h
      · cases h
      · simp only [Option.some.injEq] at h
        subst h
        exact (endI_last n.up _ _ _ _ x he).trans h0
  · cases h
theorem addAll_last : ∀ (b : List Nd) (z y : LS), z.op.getLast? = some 0 → addAll z b = some y → y.op.getLast? = some 0
  | [], z, y, h0, h => by simp [addAll] at h; subst h; exact h0
  | n :: b, z, y, h0, h => by
    unfold addAll at h
    cases he : addN z n with
    | none => rw [he] at h; simp at h
    | some x => rw [he] at h; exact addAll_last b x y (addN_last he h0) h
/-- What was added can be ended. -/
theorem lay_ends {l : List Nd} {z : LS} (h : addAll z0 l = some z) (hl : l ≠ []) : ∃ y, z.endInto 0 = some y := by
  match l, hl, h with
  | n :: b, _, h =>
    unfold addAll at h
    cases hn : addN z0 n with
    | none => rw [hn] at h; simp at h
    | some x =>
      rw [hn] at h
      have hx := (addN_first hn).2.2
      exact endI_zero _ _ _ _ (addAll_last b x z (by rw [hx]; rfl) h)

/-- What is laid out is a good tree, and its text is the tree's. -/
structure Laid (l : List Nd) (y : LS) : Prop where
  good : goodT l = true
  text : y.text = fl l 0
  nf : y.fr.length = l.length
  nt : y.to.length = l.length
  seg : ∀ k, k < l.length → y.to.getD k 0 = y.fr.getD k 0 + (fl l k).length ∧ y.to.getD k 0 ≤ y.text.length
  is : ∀ k, k < l.length → Doc1.seg y.text (y.fr.getD k 0) (y.to.getD k 0) = fl l k
  up : ∀ i, 0 < i → i < l.length → ∃ u : Nat, (ndAt l i).up = (u : Int) ∧ u < i ∧ (u = 0 ∨ nmL l u ≠ []) ∧ y.fr.getD i 0 = ce l y.fr y.to u i
  zero : y.fr.getD 0 0 = 0
  tx : ∀ i, i < l.length → nmL l i ≠ [] ∨ i = 0 → txL l i = []
theorem addN_up {z y : LS} {n : Nd} (h : addN z n = some y) (h0 : z.fr.length ≠ 0) : ∃ u : Nat, n.up = (u : Int) ∧ u ∈ z.op := by
  have key : ∀ x, z.endInto n.up = some x → ∃ u : Nat, n.up = (u : Int) ∧ u ∈ z.op := fun x hx => by
    obtain ⟨⟨o, ho, hou⟩, _⟩ := endI_mem n.up _ _ _ _ x hx
    exact ⟨o, hou.symm, ho⟩
  unfold addN at h
  split at h
  · rw [if_neg h0] at h; cases h
  · cases he : z.endInto n.up with
    | none => rw [he] at h; simp at h
    | some x => exact key x he
  · cases he : z.endInto n.up with
    | none => rw [he] at h; simp at h
    | some x => exact key x he
  · cases h
theorem addN_tx {z y : LS} {n : Nd} (h : addN z n = some y) : n.name.data.toList ≠ [] → n.text.data.toList = [] := by
  intro hne
  unfold addN at h
  split at h
  · rename_i hsh
    unfold shp at hsh
    split at hsh
    · rename_i hh; exact hh.2.1
    · split at hsh
      · cases hsh
      · split at hsh <;> cases hsh
  · rename_i hsh
    unfold shp at hsh
    split at hsh
    · cases hsh
    · split at hsh
      · rename_i hh; exact hh.2
      · split at hsh <;> cases hsh
  · rename_i hsh
    unfold shp at hsh
    split at hsh
    · cases hsh
    · split at hsh
      · cases hsh
      · split at hsh
        · rename_i hh; exact absurd hh.1 hne
        · cases hsh
  · cases h
/-- A node lies in the whole or in an element, and an element has no text of its own. -/
def Par (l : List Nd) : Prop := (∀ i, 0 < i → i < l.length → ∀ u : Nat, (ndAt l i).up = (u : Int) → u = 0 ∨ nmL l u ≠ []) ∧ ∀ i, i < l.length → nmL l i ≠ [] ∨ i = 0 → txL l i = []
theorem par_all : ∀ (b : List Nd) (l : List Nd) (z y : LS), Tile l z.text z.fr z.to z.op → Par l → l ≠ [] → addAll z b = some y → Par (l ++ b)
  | [], l, z, y, _, hp, _, _ => by simpa using hp
  | n :: b, l, z, y, ht, hp, hl, h => by
    unfold addAll at h
    cases he : addN z n with
    | none => rw [he] at h; simp at h
    | some x =>
      rw [he] at h
      have hlen : 0 < l.length := List.length_pos_iff.2 hl
      obtain ⟨u, hu, hm⟩ := addN_up he (by rw [ht.nf]; omega)
      have hpn : Par (l ++ [n]) := by
        refine ⟨fun i h0 hi v hv => ?_, fun i hi hc => ?_⟩
        · rw [List.length_append, List.length_singleton] at hi
          by_cases e : i = l.length
          · subst e
            rw [ndAt_new, hu] at hv
            obtain rfl : u = v := by omega
            by_cases h0 : u = 0
            · exact Or.inl h0
            · refine Or.inr ?_
              have := ht.nam u hm h0
              unfold nmL at this ⊢
              rwa [ndAt_pre n (ht.lt u hm)]
          · have hi' : i < l.length := by omega
            rw [ndAt_pre n hi'] at hv
            rcases hp.1 i h0 hi' v hv with h1 | h1
            · exact Or.inl h1
            · refine Or.inr ?_
              have hvl : v < l.length := by
                obtain ⟨u', hu', hlt, _⟩ := ht.t1 i h0 hi'
                rw [hu'] at hv; omega
              unfold nmL at h1 ⊢
              rwa [ndAt_pre n hvl]
        · rw [List.length_append, List.length_singleton] at hi
          by_cases e : i = l.length
          · subst e
            unfold txL nmL at *
            rw [ndAt_new] at hc ⊢
            exact addN_tx he (hc.resolve_right (by omega))
          · have hi' : i < l.length := by omega
            have := hp.2 i hi'
            unfold txL nmL at *
            rw [ndAt_pre n hi'] at hc ⊢
            exact this hc
      have := par_all b (l ++ [n]) x y (tile_addN ht hl he) hpn (by simp) h
      simpa using this
theorem par_lay {l : List Nd} {z : LS} (h : addAll z0 l = some z) (hl : l ≠ []) : Par l ∧ ndAt l 0 = ⟨ba [], ba [], -1⟩ := by
  match l, hl, h with
  | n :: b, _, h =>
    unfold addAll at h
    cases hn : addN z0 n with
    | none => rw [hn] at h; simp at h
    | some x =>
      rw [hn] at h
      obtain ⟨_, h1, h2⟩ := addN_first hn
      subst h1 h2
      refine ⟨?_, rfl⟩
      have := par_all b [_] _ z tile_start ⟨fun i h0 hi => by simp at hi; omega, fun i hi _ => by
        obtain rfl : i = 0 := by simp at hi; omega
        rfl⟩ (by simp) h
      simpa using this
theorem ce_set0 {l : List Nd} {fr to : List Nat} {x : Nat} (k i : Nat) : ce l fr (to.set 0 x) k i = ce l fr to k i := ce_set i (fun j _ hk _ => by omega)
theorem laid_of {l : List Nd} {y : LS} (h : layL l = some y) : Laid l y := by
  unfold layL at h
  split at h
  · cases h
  · rename_i hc
    have hl : l ≠ [] := fun e => hc (Or.inl e)
    have hl301 : l.length ≤ 301 := by
      by_cases e : l.length ≤ 301
      · exact e
      · exact absurd (Or.inr (by omega)) hc
    cases ha : addAll z0 l with
    | none => rw [ha] at h; simp at h
    | some z =>
      rw [ha] at h
      simp only [Option.bind_some] at h
      cases he : z.endInto 0 with
      | none => rw [he] at h; simp at h
      | some x =>
        rw [he] at h
        simp only [Option.bind_some] at h
        split at h
        · rename_i hd
          simp only [Option.some.injEq] at h
          obtain ⟨ht, hop⟩ := tile_lay ha hl he
          obtain ⟨hp, hn0⟩ := par_lay ha hl
          have hfz := fr_zero ha hl he
          rw [hop] at ht
          have hlen : 0 < l.length := List.length_pos_iff.2 hl
          have hfl := fl_all ht hlen hfz
          have htr := (lay_tree ha hl he).1
          subst h
          refine ⟨?_, hfl.symm, ht.nf, by simp [ht.nt], ?_, ?_, ?_, hfz, hp.2⟩
          · unfold goodT
            rw [hfl, hd, ← htr, decide_eq_true rfl]
            simp only [Bool.and_true]
            unfold shapeL
            rw [decide_eq_true (by omega), Bool.and_true]
            refine shU_of _ (fun i hi => ?_)
            unfold shOne
            by_cases e : i = 0
            · subst e; rw [hn0]; decide
            · obtain ⟨u, hu, hlt, _⟩ := ht.t1 i (by omega) hi
              rw [hu]
              simp only [Bool.and_eq_true, beq_iff_eq, decide_eq_true_eq]
              refine ⟨?_, by omega, by omega⟩
              rw [decide_eq_false e, decide_eq_false (by omega)]
          · intro k hk
            by_cases e : k = 0
            · subst e
              have : (x.to.set 0 x.text.length).getD 0 0 = x.text.length := by
                rw [List.getD_eq_getElem?_getD, List.getElem?_set_self (by rw [ht.nt]; omega)]; rfl
              simp only
              rw [this, hfz, hfl]; omega
            · have e1 : (x.to.set 0 x.text.length).getD k 0 = x.to.getD k 0 := by
                rw [List.getD_eq_getElem?_getD, List.getElem?_set_ne (by omega), ← List.getD_eq_getElem?_getD]
              simp only
              rw [e1, to_en ht (by omega) hk]
              have hs := fl_seg ht _ k (Nat.le_refl _) hk
              have hb := seg_tail ht hk
              have hge := ce_bd ht _ k (Nat.le_refl _) hk l.length (Nat.le_refl _)
              rw [hs, seg_len _ hb.2]
              have : en l x.fr x.to k = ce l x.fr x.to k l.length + (slL l k).length := rfl
              omega
          · intro k hk
            by_cases e : k = 0
            · subst e
              have : (x.to.set 0 x.text.length).getD 0 0 = x.text.length := by
                rw [List.getD_eq_getElem?_getD, List.getElem?_set_self (by rw [ht.nt]; omega)]; rfl
              simp only
              rw [this, hfz, hfl]; simp [seg]
            · have e1 : (x.to.set 0 x.text.length).getD k 0 = x.to.getD k 0 := by
                rw [List.getD_eq_getElem?_getD, List.getElem?_set_ne (by omega), ← List.getD_eq_getElem?_getD]
              simp only
              rw [e1, to_en ht (by omega) hk]
              exact (fl_seg ht _ k (Nat.le_refl _) hk).symm
          · intro i h0 hi
            obtain ⟨u, hu, hlt, hfr⟩ := ht.t1 i h0 hi
            exact ⟨u, hu, hlt, hp.1 i h0 hi u hu, by simp only; rw [ce_set0]; exact hfr⟩
        · cases h
theorem lay_good (l : List Nd) : (layL l).isSome = goodT l := by
  cases h : layL l with
  | some y => rw [(laid_of h).good]; rfl
  | none =>
    cases hg : goodT l with
    | false => rfl
    | true =>
      exfalso
      unfold goodT at hg
      simp only [Bool.and_eq_true, decide_eq_true_eq] at hg
      obtain ⟨hs, hd, ht⟩ := hg
      obtain ⟨_, h1, h2⟩ := shape_up hs
      obtain ⟨z, y, e1, e2, e3⟩ := tree_lay (ba (fl l 0)) (by rw [ba_list]; exact hd)
      rw [ba_list] at e1 e3
      rw [ht] at e1
      unfold layL at h
      rw [if_neg (by rintro (e | e); · subst e; simp at h1
                     · omega), e1] at h
      simp only [Option.bind_some] at h
      rw [e2] at h
      simp only [Option.bind_some] at h
      rw [e3, if_pos hd] at h
      cases h

/-- Where a node begins, as the model has it. -/
def befS (l : List Nd) (u k : Nat) : Nat := sF (fun i => if (ndAt l i).up = (u : Int) then (fl l i).length else 0) (u + 1) (k - (u + 1))
theorem ce_bef {l : List Nd} {y : LS} (h : Laid l y) {u : Nat} (hu : u = 0 ∨ nmL l u ≠ []) (hul : u < l.length) : ∀ d, u + 1 + d ≤ l.length → ce l y.fr y.to u (u + 1 + d) = y.fr.getD u 0 + (nmL l u).length + befS l u (u + 1 + d)
  | 0, _ => by
    have htx := h.tx u hul (hu.symm)
    rw [ce_none (u + 1 + 0) 0 (by omega) (fun m h1 h2 h3 => by omega)]
    unfold ce befS
    rw [htx, show u + 1 + 0 - (u + 1) = 0 by omega]
    simp [sF]
  | d + 1, hd => by
    have ih := ce_bef h hu hul d (by omega)
    have eb : befS l u (u + 1 + (d + 1)) = befS l u (u + 1 + d) + (if (ndAt l (u + 1 + d)).up = (u : Int) then (fl l (u + 1 + d)).length else 0) := by
      unfold befS
      rw [show u + 1 + (d + 1) - (u + 1) = d + 1 by omega, show u + 1 + d - (u + 1) = d by omega, sF_snoc]
    rw [eb, show u + 1 + (d + 1) = (u + 1 + d) + 1 by omega]
    unfold ce
    by_cases e : (ndAt l (u + 1 + d)).up = (u : Int)
    · rw [if_pos ⟨by omega, e⟩, if_pos e]
      obtain ⟨v, hv, hlt, _, hfr⟩ := h.up (u + 1 + d) (by omega) (by omega)
      obtain rfl : v = u := by rw [hv] at e; omega
      rw [(h.seg _ (by omega)).1, hfr, ih]
      omega
    · rw [if_neg (fun c => e c.2), if_neg e, ih]; omega
theorem fr_bef {l : List Nd} {y : LS} (h : Laid l y) {k : Nat} (h0 : 0 < k) (hk : k < l.length) : ∃ u : Nat, (ndAt l k).up = (u : Int) ∧ u < k ∧ y.fr.getD k 0 = y.fr.getD u 0 + (nmL l u).length + befS l u k := by
  obtain ⟨u, hu, hlt, hp, hfr⟩ := h.up k h0 hk
  refine ⟨u, hu, hlt, ?_⟩
  have := ce_bef h hp (by omega) (k - (u + 1)) (by omega)
  rw [show u + 1 + (k - (u + 1)) = k by omega] at this
  rw [hfr, this]
end Go.Proofs.YtbmnciejaknonatDoor.Doc1
