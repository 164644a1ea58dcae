/- Lines that are broken best: the mathematics. -/
import Derived.Test.YtgacajnljplmiaaDoorLin1
set_option linter.unusedVariables false
namespace Go.Proofs.YtgacajnljplmiaaDoor.Doc1

/-- How the words from one on are broken best. -/
structure En where
  cost : Nat
  lines : Nat
  cut : Nat
def ez : En := ⟨0, 0, 0⟩
def blw (a b : En) : Bool := if a.cost = b.cost then decide (a.lines < b.lines) else decide (a.cost < b.cost)
def sq (n : Int) (z : Nat) : Nat := (n.toNat - z) * (n.toNat - z)
def cnd (l : List ByteArray) (n : Int) (T : Nat → En) (a c : Nat) : En := ⟨(T c).cost + (if c < l.length then sq n (wdS l a c) else 0), (T c).lines + 1, c⟩
/-- Whether a line from a to c is one that may be. -/
def CC (l : List ByteArray) (n : Int) (a c : Nat) : Prop := a < c ∧ c ≤ l.length ∧ (wdS l a c : Int) ≤ n
def tkP (b e : En) : En := if b.lines = 0 ∨ blw b e = false then e else b
def pF (l : List ByteArray) (n : Int) (T : Nat → En) (a c : Nat) (b : En) : En := if h : c ≤ l.length ∧ (wdS l a c : Int) ≤ n then pF l n T a (c + 1) (tkP b (cnd l n T a c)) else b
termination_by l.length + 1 - c
theorem pF_on {l : List ByteArray} {n : Int} {T : Nat → En} {a c : Nat} {b : En} (h : c ≤ l.length) (h2 : (wdS l a c : Int) ≤ n) : pF l n T a c b = pF l n T a (c + 1) (tkP b (cnd l n T a c)) := by rw [pF, dif_pos ⟨h, h2⟩]
theorem pF_end {l : List ByteArray} {n : Int} {T : Nat → En} {a c : Nat} {b : En} (h : ¬ (c ≤ l.length ∧ (wdS l a c : Int) ≤ n)) : pF l n T a c b = b := by rw [pF, dif_neg h]
theorem pF_congr {l : List ByteArray} {n : Int} {T T' : Nat → En} {a : Nat} (m : Nat) : ∀ (c : Nat) (b : En), l.length + 1 - c = m → (∀ x, c ≤ x → x ≤ l.length → T x = T' x) → pF l n T a c b = pF l n T' a c b := by
  induction m with
  | zero => intro c b hm h; rw [pF_end (by omega), pF_end (by omega)]
  | succ m ih =>
    intro c b hm h
    by_cases hc : c ≤ l.length ∧ (wdS l a c : Int) ≤ n
    · rw [pF_on hc.1 hc.2, pF_on hc.1 hc.2, show cnd l n T a c = cnd l n T' a c by unfold cnd; rw [h c (Nat.le_refl _) hc.1]]
      exact ih (c + 1) _ (by omega) (fun x h1 h2 => h x (by omega) h2)
    · rw [pF_end hc, pF_end hc]
def Ef (l : List ByteArray) (n : Int) : Nat → Nat → En
  | 0, _ => ez
  | k + 1, a => if a < l.length then pF l n (Ef l n k) a (a + 1) ez else ez
def bE1 (l : List ByteArray) (n : Int) (a : Nat) : En := Ef l n (l.length - a) a
theorem Ef_fuel (l : List ByteArray) (n : Int) (m : Nat) : ∀ (a k : Nat), l.length - a = m → m ≤ k → Ef l n k a = bE1 l n a := by
  induction m using Nat.strongRecOn with
  | ind m ih =>
    intro a k hm hk
    unfold bE1
    rw [hm]
    cases m with
    | zero =>
      cases k with
      | zero => rfl
      | succ k => show (if a < l.length then _ else ez) = ez; rw [if_neg (by omega)]
    | succ m =>
      obtain ⟨k, rfl⟩ : ∃ k', k = k' + 1 := ⟨k - 1, by omega⟩
      show (if a < l.length then pF l n (Ef l n k) a (a + 1) ez else ez) = (if a < l.length then pF l n (Ef l n m) a (a + 1) ez else ez)
      rw [if_pos (by omega), if_pos (by omega)]
      refine pF_congr _ _ _ rfl (fun x h1 h2 => ?_)
      rw [ih (l.length - x) (by omega) x k rfl (by omega), ih (l.length - x) (by omega) x m rfl (by omega)]
theorem bE1_on {l : List ByteArray} {n : Int} {a : Nat} (h : a < l.length) : bE1 l n a = pF l n (bE1 l n) a (a + 1) ez := by
  show Ef l n (l.length - a) a = _
  obtain ⟨m, hm⟩ : ∃ m, l.length - a = m + 1 := ⟨l.length - a - 1, by omega⟩
  rw [hm]
  show (if a < l.length then pF l n (Ef l n m) a (a + 1) ez else ez) = _
  rw [if_pos h]
  exact pF_congr _ _ _ rfl (fun x h1 h2 => Ef_fuel l n _ x m rfl (by omega))
theorem bE1_end {l : List ByteArray} {n : Int} {a : Nat} (h : l.length ≤ a) : bE1 l n a = ez := by unfold bE1; rw [show l.length - a = 0 by omega]; rfl

/-- The best of what may be, of as good ones the last. -/
def Bst (l : List ByteArray) (n : Int) (T : Nat → En) (a lo hi : Nat) (b : En) : Prop := ∃ c, lo ≤ c ∧ c < hi ∧ CC l n a c ∧ b = cnd l n T a c ∧ ∀ c', lo ≤ c' → c' < hi → CC l n a c' → blw b (cnd l n T a c') = true ∨ (b.cost = (cnd l n T a c').cost ∧ b.lines = (cnd l n T a c').lines ∧ c' ≤ c)
theorem blw_or (x y : En) : blw x y = true ∨ (x.cost = y.cost ∧ x.lines = y.lines) ∨ blw y x = true := by
  unfold blw
  by_cases h : x.cost = y.cost
  · rw [if_pos h, if_pos h.symm]
    simp only [decide_eq_true_eq]
    omega
  · rw [if_neg h, if_neg (fun e => h e.symm)]
    simp only [decide_eq_true_eq]
    omega
theorem blw_asym {x y : En} (h : blw x y = true) : blw y x = false := by
  unfold blw at h ⊢
  by_cases e : x.cost = y.cost
  · rw [if_pos e] at h; rw [if_pos e.symm]; simp at h ⊢; omega
  · rw [if_neg e] at h; rw [if_neg (fun c => e c.symm)]; simp at h ⊢; omega
theorem blw_trans {x y z : En} (h : blw x y = true) (h2 : blw y z = true ∨ (y.cost = z.cost ∧ y.lines = z.lines)) : blw x z = true := by
  unfold blw at h h2 ⊢
  by_cases e : x.cost = y.cost
  · rw [if_pos e] at h
    rcases h2 with h2 | h2
    · by_cases e2 : y.cost = z.cost
      · rw [if_pos e2] at h2; rw [if_pos (e.trans e2)]; simp at h h2 ⊢; omega
      · rw [if_neg e2] at h2; rw [if_neg (fun c => e2 (e.symm.trans c))]; simp at h2 ⊢; omega
    · rw [if_pos (e.trans h2.1)]; simp at h ⊢; omega
  · rw [if_neg e] at h
    simp only [decide_eq_true_eq] at h
    rcases h2 with h2 | h2
    · by_cases e2 : y.cost = z.cost
      · rw [if_neg (by omega)]; simp; omega
      · rw [if_neg e2] at h2; simp only [decide_eq_true_eq] at h2; rw [if_neg (by omega)]; simp; omega
    · rw [if_neg (by omega)]; simp; omega
theorem blw_eqL {x y z : En} (h1 : x.cost = y.cost) (h2 : x.lines = y.lines) : blw x z = blw y z := by unfold blw; rw [h1, h2]
theorem blw_irr {x y : En} (h1 : x.cost = y.cost) (h2 : x.lines = y.lines) : blw x y = false := by unfold blw; rw [if_pos h1]; simp; omega
theorem bst_one {l : List ByteArray} {n : Int} {T : Nat → En} {a b1 b2 : En} {x lo hi : Nat} (h1 : Bst l n T x lo hi b1) (h2 : Bst l n T x lo hi b2) : b1 = b2 := by
  obtain ⟨c, hc1, hc2, hc3, rfl, hc4⟩ := h1
  obtain ⟨d, hd1, hd2, hd3, rfl, hd4⟩ := h2
  rcases hc4 d hd1 hd2 hd3 with h | ⟨h, h', h''⟩
  · rcases hd4 c hc1 hc2 hc3 with k | ⟨k, k', k''⟩
    · rw [blw_asym h] at k; cases k
    · rw [blw_irr k.symm k'.symm] at h; cases h
  · rcases hd4 c hc1 hc2 hc3 with k | ⟨k, k', k''⟩
    · rw [blw_irr h.symm h'.symm] at k; cases k
    · rw [show c = d by omega]
/-- The program's way: up, of as good ones the later. -/
theorem bst_up {l : List ByteArray} {n : Int} {T : Nat → En} {a c : Nat} {b : En} (hc : CC l n a c) (h : Bst l n T a (a + 1) c b ∨ (b.lines = 0 ∧ c = a + 1)) : Bst l n T a (a + 1) (c + 1) (tkP b (cnd l n T a c)) := by
  have h0 := hc.1
  rcases h with ⟨d, hd1, hd2, hd3, rfl, hd4⟩ | ⟨h, rfl⟩
  · unfold tkP
    by_cases hb : (cnd l n T a d).lines = 0 ∨ blw (cnd l n T a d) (cnd l n T a c) = false
    · rw [if_pos hb]
      have hb2 : blw (cnd l n T a d) (cnd l n T a c) = false := by
        rcases hb with hb | hb
        · exact absurd hb (by unfold cnd; simp)
        · exact hb
      refine ⟨c, by omega, by omega, hc, rfl, fun c' g1 g2 g3 => ?_⟩
      by_cases he : c' = c
      · subst he; exact .inr ⟨rfl, rfl, Nat.le_refl _⟩
      · rcases blw_or (cnd l n T a c) (cnd l n T a d) with q | q | q
        · refine .inl (blw_trans q ?_)
          rcases hd4 c' g1 (by omega) g3 with k | ⟨k, k', _⟩
          · exact .inl k
          · exact .inr ⟨k, k'⟩
        · rcases hd4 c' g1 (by omega) g3 with k | ⟨k, k', _⟩
          · exact .inl (by rw [blw_eqL q.1 q.2]; exact k)
          · exact .inr ⟨q.1.trans k, q.2.trans k', by omega⟩
        · rw [hb2] at q; cases q
    · rw [if_neg hb]
      have hb2 : blw (cnd l n T a d) (cnd l n T a c) = true := by
        cases hq : blw (cnd l n T a d) (cnd l n T a c) with
        | true => rfl
        | false => exact absurd (.inr hq) hb
      refine ⟨d, hd1, by omega, hd3, rfl, fun c' g1 g2 g3 => ?_⟩
      by_cases he : c' = c
      · subst he; exact .inl hb2
      · exact hd4 c' g1 (by omega) g3
  · unfold tkP
    rw [if_pos (.inl h)]
    exact ⟨_, Nat.le_refl _, by omega, hc, rfl, fun c' g1 g2 g3 => by
      obtain rfl : c' = a + 1 := by omega
      exact .inr ⟨rfl, rfl, Nat.le_refl _⟩⟩
theorem wdS_mono {l : List ByteArray} {a c d : Nat} (h1 : a < c) (h2 : c ≤ d) (h3 : d ≤ l.length) : wdS l a c ≤ wdS l a d := by
  induction d with
  | zero => rw [show c = 0 by omega]; exact Nat.le_refl _
  | succ d ih =>
    by_cases e : c = d + 1
    · rw [e]; exact Nat.le_refl _
    · have := ih (by omega) (by omega)
      rw [wdS_succ (by omega) (by omega)]
      omega
theorem pF_bst {l : List ByteArray} {n : Int} {T : Nat → En} {a : Nat} (m : Nat) : ∀ (c : Nat) (b : En), l.length + 1 - c = m → a < c → c ≤ l.length + 1 → (Bst l n T a (a + 1) c b ∨ (b.lines = 0 ∧ c = a + 1 ∧ CC l n a c)) → Bst l n T a (a + 1) (l.length + 1) (pF l n T a c b) := by
  induction m with
  | zero =>
    intro c b hm ha hc h
    rw [pF_end (by omega)]
    obtain rfl : c = l.length + 1 := by omega
    rcases h with h | ⟨-, -, h⟩
    · exact h
    · have := h.2.1; omega
  | succ m ih =>
    intro c b hm ha hc h
    by_cases hq : c ≤ l.length ∧ (wdS l a c : Int) ≤ n
    · rw [pF_on hq.1 hq.2]
      exact ih (c + 1) _ (by omega) (by omega) (by omega) (.inl (bst_up ⟨ha, hq.1, hq.2⟩ (h.imp id (fun k => ⟨k.1, k.2.1⟩))))
    · rw [pF_end hq]
      rcases h with ⟨d, hd1, hd2, hd3, rfl, hd4⟩ | ⟨-, -, h⟩
      · refine ⟨d, hd1, by omega, hd3, rfl, fun c' g1 g2 g3 => ?_⟩
        by_cases hlt : c' < c
        · exact hd4 c' g1 hlt g3
        · exfalso
          have h1 := wdS_mono (l := l) ha (show c ≤ c' by omega) (by omega)
          have h2 := g3.2.2
          exact hq ⟨by omega, by omega⟩
      · exact absurd ⟨h.2.1, h.2.2⟩ hq
/-- The model's way: down, only better ones. -/
def tkM (b e : En) : En := if b.lines = 0 ∨ blw e b = true then e else b
def mF (l : List ByteArray) (n : Int) (T : Nat → En) (a : Nat) : Nat → En → En
  | 0, b => b
  | k + 1, b => mF l n T a k (if (wdS l a (a + (k + 1)) : Int) ≤ n then tkM b (cnd l n T a (a + (k + 1))) else b)
theorem mF_bst {l : List ByteArray} {n : Int} {T : Nat → En} {a : Nat} (h1 : CC l n a (a + 1)) : ∀ (k : Nat) (b : En), a + k ≤ l.length → 0 < k ∨ Bst l n T a (a + k + 1) (l.length + 1) b → (Bst l n T a (a + k + 1) (l.length + 1) b ∨ (b.lines = 0 ∧ ∀ c, a + k + 1 ≤ c → ¬ CC l n a c)) → Bst l n T a (a + 1) (l.length + 1) (mF l n T a k b)
  | 0, b, _, h0, h => by
    rcases h0 with h0 | h0
    · omega
    · exact h0
  | k + 1, b, hk, h0, h => by
    show Bst l n T a (a + 1) (l.length + 1) (mF l n T a k _)
    have hc0 : (wdS l a (a + (k + 1)) : Int) ≤ n → CC l n a (a + (k + 1)) := fun hq => ⟨by omega, hk, hq⟩
    by_cases hq : (wdS l a (a + (k + 1)) : Int) ≤ n
    · rw [if_pos hq]
      have key : Bst l n T a (a + k + 1) (l.length + 1) (tkM b (cnd l n T a (a + (k + 1)))) := by
        obtain ⟨c, hcd⟩ : ∃ c, c = a + (k + 1) := ⟨_, rfl⟩
        rw [← hcd] at hq hc0 ⊢
        unfold tkM
        rcases h with ⟨d, hd1, hd2, hd3, rfl, hd4⟩ | ⟨hz, hno⟩
        · by_cases hb : (cnd l n T a d).lines = 0 ∨ blw (cnd l n T a c) (cnd l n T a d) = true
          · rw [if_pos hb]
            have hb2 : blw (cnd l n T a c) (cnd l n T a d) = true := by
              rcases hb with hb | hb
              · exact absurd hb (by unfold cnd; simp)
              · exact hb
            refine ⟨c, by omega, by omega, hc0 hq, rfl, fun c' g1 g2 g3 => ?_⟩
            by_cases he : c' = c
            · subst he; exact .inr ⟨rfl, rfl, Nat.le_refl _⟩
            · refine .inl (blw_trans hb2 ?_)
              rcases hd4 c' (by omega) g2 g3 with q | ⟨q, q', _⟩
              · exact .inl q
              · exact .inr ⟨q, q'⟩
          · rw [if_neg hb]
            refine ⟨d, by omega, hd2, hd3, rfl, fun c' g1 g2 g3 => ?_⟩
            by_cases he : c' = c
            · subst he
              rcases blw_or (cnd l n T a d) (cnd l n T a c') with q | q | q
              · exact .inl q
              · exact .inr ⟨q.1, q.2, by omega⟩
              · exact absurd (.inr q) hb
            · exact hd4 c' (by omega) g2 g3
        · rw [if_pos (.inl hz)]
          refine ⟨c, by omega, by omega, hc0 hq, rfl, fun c' g1 g2 g3 => ?_⟩
          by_cases he : c' = c
          · subst he; exact .inr ⟨rfl, rfl, Nat.le_refl _⟩
          · exact absurd g3 (hno c' (by omega))
      exact mF_bst h1 k _ (by omega) (.inr key) (.inl key)
    · rw [if_neg hq]
      have key : Bst l n T a (a + k + 1) (l.length + 1) b ∨ (b.lines = 0 ∧ ∀ c, a + k + 1 ≤ c → ¬ CC l n a c) := by
        rcases h with ⟨d, hd1, hd2, hd3, rfl, hd4⟩ | ⟨hz, hno⟩
        · refine .inl ⟨d, by omega, hd2, hd3, rfl, fun c' g1 g2 g3 => ?_⟩
          by_cases he : c' = a + (k + 1)
          · rw [he] at g3; exact absurd g3.2.2 hq
          · exact hd4 c' (by omega) g2 g3
        · refine .inr ⟨hz, fun c g1 g2 => ?_⟩
          by_cases he : c = a + (k + 1)
          · rw [he] at g2; exact hq g2.2.2
          · exact hno c (by omega) g2
      have hk0 : 0 < k := by
        rcases Nat.eq_zero_or_pos k with e | e
        · subst e; exact absurd h1.2.2 (by simpa using hq)
        · exact e
      exact mF_bst h1 k _ (by omega) (.inl hk0) key
theorem best_same {l : List ByteArray} {n : Int} {T : Nat → En} {a : Nat} (h : a < l.length) (h1 : (l[a].size : Int) ≤ n) : mF l n T a (l.length - a) ez = pF l n T a (a + 1) ez := by
  have hc : CC l n a (a + 1) := ⟨by omega, by omega, by rw [wdS_one h]; exact h1⟩
  refine bst_one (a := ez) (mF_bst hc _ _ (by omega) (.inl (by omega)) (.inr ⟨rfl, fun c g1 g2 => ?_⟩)) (pF_bst _ (a + 1) ez rfl (by omega) (by omega) (.inr ⟨rfl, rfl, hc⟩))
  have := g2.2.1
  omega
/-- What the best one from a on is. -/
theorem bE1_bst {l : List ByteArray} {n : Int} (hd : Sd l n) {a : Nat} (h : a < l.length) : Bst l n (bE1 l n) a (a + 1) (l.length + 1) (bE1 l n a) := by
  rw [bE1_on h]
  exact pF_bst _ (a + 1) ez rfl (by omega) (by omega) (.inr ⟨rfl, rfl, by omega, by omega, by rw [wdS_one h]; exact hd.fit _ (List.getElem_mem h)⟩)
theorem bE1_cut {l : List ByteArray} {n : Int} (hd : Sd l n) {a : Nat} (h : a < l.length) : a < (bE1 l n a).cut ∧ (bE1 l n a).cut ≤ l.length ∧ CC l n a (bE1 l n a).cut ∧ (bE1 l n a).lines = (bE1 l n (bE1 l n a).cut).lines + 1 ∧ (bE1 l n a).cost = (bE1 l n (bE1 l n a).cut).cost + (if (bE1 l n a).cut < l.length then sq n (wdS l a (bE1 l n a).cut) else 0) := by
  obtain ⟨c, h1, h2, h3, h4, h5⟩ := bE1_bst hd h
  have e : (bE1 l n a).cut = c := by rw [h4]; rfl
  rw [e]
  refine ⟨by omega, by omega, h3, by rw [h4]; rfl, by rw [h4]; rfl⟩
theorem sq_le {n : Int} (h : n ≤ 80) (z : Nat) : sq n z ≤ 6400 := by
  unfold sq
  have : n.toNat - z ≤ 80 := by omega
  calc (n.toNat - z) * (n.toNat - z) ≤ 80 * 80 := Nat.mul_le_mul this this
    _ = 6400 := rfl
theorem bE1_bd {l : List ByteArray} {n : Int} (hd : Sd l n) (m : Nat) : ∀ a, l.length - a = m → (bE1 l n a).cost ≤ 6400 * m ∧ (bE1 l n a).lines ≤ m ∧ (bE1 l n a).cut ≤ l.length ∧ (a < l.length → 0 < (bE1 l n a).lines) := by
  induction m using Nat.strongRecOn with
  | ind m ih =>
    intro a hm
    by_cases h : a < l.length
    · obtain ⟨h1, h2, h3, h4, h5⟩ := bE1_cut hd h
      have := ih (l.length - (bE1 l n a).cut) (by omega) _ rfl
      have hs : (if (bE1 l n a).cut < l.length then sq n (wdS l a (bE1 l n a).cut) else 0) ≤ 6400 := by
        split
        · exact sq_le hd.hi _
        · omega
      have hmul : 6400 * (l.length - (bE1 l n a).cut) + 6400 ≤ 6400 * m := by
        have : l.length - (bE1 l n a).cut + 1 ≤ m := by omega
        have := Nat.mul_le_mul_left 6400 this
        omega
      refine ⟨by omega, by omega, h2, fun _ => by omega⟩
    · rw [bE1_end (by omega)]
      exact ⟨Nat.zero_le _, Nat.zero_le _, Nat.zero_le _, fun e => absurd e h⟩
/-- Where the best lines end. -/
def bEs (l : List ByteArray) (n : Int) (a : Nat) : List Nat := if h : a < (bE1 l n a).cut ∧ a < l.length then (bE1 l n a).cut :: bEs l n (bE1 l n a).cut else []
termination_by l.length - a
theorem bEs_on {l : List ByteArray} {n : Int} (hd : Sd l n) {a : Nat} (h : a < l.length) : bEs l n a = (bE1 l n a).cut :: bEs l n (bE1 l n a).cut := by rw [bEs, dif_pos ⟨(bE1_cut hd h).1, h⟩]
theorem bEs_end {l : List ByteArray} {n : Int} {a : Nat} (h : l.length ≤ a) : bEs l n a = [] := by rw [bEs, dif_neg (by omega)]
theorem bE1_last {l : List ByteArray} {n : Int} (hd : Sd l n) {a : Nat} (h : a < l.length) : (bE1 l n a).lines ≤ 1 ↔ (bE1 l n a).cut = l.length := by
  obtain ⟨h1, h2, h3, h4, h5⟩ := bE1_cut hd h
  constructor
  · intro c
    rcases Nat.lt_or_ge (bE1 l n a).cut l.length with e | e
    · have := (bE1_bd hd _ (bE1 l n a).cut rfl).2.2.2 e; omega
    · omega
  · intro c
    rw [c, bE1_end (Nat.le_refl _)] at h4
    rw [h4]
    exact Nat.le_refl _
/-- The best lines, what they cost. -/
def bsT (l : List ByteArray) (n : Int) : List ByteArray × Nat × Bool := if said l n = true then (lnE l 0 (bEs l n 0), (bE1 l n 0).cost, true) else ([], 0, false)
end Go.Proofs.YtgacajnljplmiaaDoor.Doc1
