/- The least change makes one text of the other, at the cost of how far they are apart; and no change of both costs less. -/
import Derived.Test.YtojlnnlcbpjdlaaDoorInv1
import Derived.Test.YtojlnnlcbpjdlaaDoorOwnM
import Derived.Test.YtojlnnlcbpjdlaaDoorDifM
import Derived.Test.YtojlnnlcbpjdlaaDoorCost1
set_option linter.unusedVariables false
namespace Go.Proofs.YtojlnnlcbpjdlaaDoor
open Go.RowKit
open Doc1

/-- How many steps put or drop. -/
def csF (n : Nat) (x : St) : Nat := if x.k = 1 then n else n + 1
def cs (l : List St) : Nat := l.foldl csF 0
theorem csF_from : ∀ (l : List St) (n : Nat), l.foldl csF n = n + cs l
  | [], n => by simp [cs]
  | x :: l, n => by
    unfold cs
    rw [List.foldl_cons, List.foldl_cons, csF_from l (csF n x), csF_from l (csF 0 x)]
    unfold csF
    split <;> omega
theorem cs_app (a b : List St) : cs (a ++ b) = cs a + cs b := by
  unfold cs
  rw [List.foldl_append, csF_from b]
  rfl
theorem cs_cons (x : St) (l : List St) : cs (x :: l) = (if x.k = 1 then 0 else 1) + cs l := by
  have h : cs (x :: l) = csF 0 x + cs l := by
    rw [cs, List.foldl_cons, csF_from]
  rw [h]
  unfold csF
  split <;> rfl
theorem cs_keep : ∀ n : Nat, cs (List.replicate n ⟨1, 0⟩) = 0
  | 0 => rfl
  | n + 1 => by rw [List.replicate_succ, cs_cons, cs_keep n]; rfl
theorem cs_map (k : Nat) (hk : k ≠ 1) : ∀ b : List UInt8, cs (b.map (fun c => (⟨k, c⟩ : St))) = b.length
  | [] => rfl
  | c :: b => by rw [List.map_cons, cs_cons, cs_map k hk b, if_neg hk, List.length_cons]; omega
theorem cs_stp (p : Pt) : (cs (stp p) : Int) = p.put.size + p.drop.size := by
  unfold stp
  rw [cs_app, cs_app, cs_keep, cs_map 2 (by omega), cs_map 3 (by omega), sz_list, sz_list]
  omega
theorem cst_cs (l : List Pt) : cst l = (cs (stL l) : Int) := by
  suffices H : ∀ (l : List Pt) (n : Int), l.foldl (fun (n : Int) (p : Pt) => n + ((p.put.size : Int) + (p.drop.size : Int))) n = n + (cs (stL l) : Int) by
    have := H l 0
    unfold cst
    rw [this]
    omega
  intro l
  induction l with
  | nil => intro n; simp [stL, cs]
  | cons p l ih =>
    intro n
    have e : stL (p :: l) = stp p ++ stL l := by simp [stL]
    rw [List.foldl_cons, ih, e, cs_app]
    have := cs_stp p
    omega
theorem cs_norm {l : List Pt} (hp : ∀ p ∈ l, pk p ≠ 0) : cs (stL (normL l)) = cs (stL l) := by
  have h := norm_fold (f := csF) (fun s c d => by simp [csF]) (fun s c => by simp [csF]) hp 0
  unfold foldP at h
  exact h
/-- The steps of the least change cost what the texts are apart. -/
theorem cs_dst (n : Nat) : ∀ a b : List UInt8, a.length + b.length ≤ n → cs (dst a b) + 2 * lc a b = a.length + b.length := by
  induction n with
  | zero =>
    intro a b h
    have ha : a = [] := List.eq_nil_of_length_eq_zero (by omega)
    have hb : b = [] := List.eq_nil_of_length_eq_zero (by omega)
    subst ha; subst hb; rw [dst_nn, lc_nl]; rfl
  | succ n ih =>
    intro a b h
    cases a with
    | nil =>
      cases b with
      | nil => rw [dst_nn, lc_nl]; rfl
      | cons y b =>
        have := ih [] b (by simp at h ⊢; omega)
        rw [dst_nc, cs_cons, lc_nl]
        rw [lc_nl] at this
        simp only [List.length_cons, List.length_nil] at this ⊢
        rw [if_neg (by simp)]
        omega
    | cons x a =>
      cases b with
      | nil =>
        have := ih a [] (by simp at h ⊢; omega)
        rw [dst_cn, cs_cons, lc_nr]
        rw [lc_nr] at this
        simp only [List.length_cons, List.length_nil] at this ⊢
        rw [if_neg (by simp)]
        omega
      | cons y b =>
        simp only [List.length_cons] at h
        have h1 := ih a b (by omega)
        have h2 := ih a (y :: b) (by simp; omega)
        have h3 := ih (x :: a) b (by simp; omega)
        have hc := lc_cc x y a b
        simp only [List.length_cons] at h2 h3 ⊢
        rw [dst_cc]
        split
        · rename_i e
          rw [if_pos e] at hc
          rw [cs_cons, if_pos rfl]
          omega
        · rename_i e
          rw [if_neg e] at hc
          split
          · rename_i e2
            rw [cs_cons, if_neg (by simp)]
            omega
          · rename_i e2
            rw [cs_cons, if_neg (by simp)]
            omega
theorem dst_ap (n : Nat) : ∀ a b o : List UInt8, a.length + b.length ≤ n → apTL (dst a b) (a, o) = some ([], o ++ b) := by
  induction n with
  | zero =>
    intro a b o h
    have ha : a = [] := List.eq_nil_of_length_eq_zero (by omega)
    have hb : b = [] := List.eq_nil_of_length_eq_zero (by omega)
    subst ha; subst hb; rw [dst_nn]; simp [apTL]
  | succ n ih =>
    intro a b o h
    cases a with
    | nil =>
      cases b with
      | nil => rw [dst_nn]; simp [apTL]
      | cons y b =>
        rw [dst_nc, apTL_cons]
        simp only [apT, if_true, Option.bind_some]
        rw [ih [] b _ (by simp at h ⊢; omega)]
        simp
    | cons x a =>
      cases b with
      | nil =>
        rw [dst_cn, apTL_cons]
        simp only [apT]
        rw [if_neg (by omega), if_neg (by omega), if_pos trivial, Option.bind_some, ih a [] _ (by simp at h ⊢; omega)]
      | cons y b =>
        simp only [List.length_cons] at h
        rw [dst_cc]
        split
        · rename_i e
          rw [apTL_cons]
          simp only [apT]
          rw [if_neg (by omega), if_pos trivial, Option.bind_some, ih a b _ (by omega), e]
          simp
        · split
          · rw [apTL_cons]
            simp only [apT]
            rw [if_neg (by omega), if_neg (by omega), if_pos trivial, Option.bind_some, ih a (y :: b) _ (by simp; omega)]
          · rw [apTL_cons]
            simp only [apT, if_true, Option.bind_some]
            rw [ih (x :: a) b _ (by simp; omega)]
            simp
/-- Whatever steps lead from one row to another cost at least what these are apart. -/
theorem ap_Ed : ∀ (l : List St) (r o r' o' : List UInt8), apTL l (r, o) = some (r', o') → ∃ A T, r = A ++ r' ∧ o' = o ++ T ∧ Ed 2 A T (cs l)
  | [], r, o, r', o', h => by
    simp [apTL] at h
    obtain ⟨rfl, rfl⟩ := h
    exact ⟨[], [], rfl, by simp, .nil⟩
  | x :: l, r, o, r', o', h => by
    rw [apTL_cons] at h
    by_cases h2 : x.k = 2
    · simp only [apT, h2, if_true, Option.bind_some] at h
      obtain ⟨A, T, e1, e2, e3⟩ := ap_Ed l _ _ _ _ h
      refine ⟨A, x.c :: T, e1, by rw [e2]; simp, ?_⟩
      have := Ed.put x.c e3
      rwa [cs_cons, if_neg (by omega), Nat.add_comm]
    · cases r with
      | nil => simp [apT, h2] at h
      | cons c r =>
        by_cases h1 : x.k = 1
        · have h' : apTL l (r, o ++ [c]) = some (r', o') := by simpa [apT, h1] using h
          obtain ⟨A, T, e1, e2, e3⟩ := ap_Ed l _ _ _ _ h'
          refine ⟨c :: A, c :: T, by rw [e1]; rfl, by rw [e2]; simp, ?_⟩
          have := Ed.keep c e3
          rwa [cs_cons, if_pos h1, Nat.zero_add]
        · by_cases hc : c = x.c
          · have h' : apTL l (r, o) = some (r', o') := by simpa [apT, h1, h2, hc] using h
            obtain ⟨A, T, e1, e2, e3⟩ := ap_Ed l _ _ _ _ h'
            refine ⟨c :: A, T, by rw [e1]; rfl, e2, ?_⟩
            have := Ed.drop c e3
            rwa [cs_cons, if_neg h1, Nat.add_comm]
          · simp [apT, h1, h2, hc] at h

/-- What the least change does, and what it costs. -/
theorem df_does {a b : ByteArray} (h1 : good a.data.toList = true) (h2 : good b.data.toList = true) (hg : dfG a.data.toList b.data.toList = true) :
    aplO (dfO a.data.toList b.data.toList) a = (b, true) ∧ cst (dfO a.data.toList b.data.toList) = (ed 2 a.data.toList b.data.toList : Int) ∧ goodO (dfO a.data.toList b.data.toList) = true := by
  have hd := dst_good h1 h2
  have hpk : ∀ p ∈ (dst a.data.toList b.data.toList).map stP, pk p ≠ 0 := fun p hh => by
    obtain ⟨y, hy, rfl⟩ := List.mem_map.1 hh
    exact pk_P (hd y hy).1
  have hO : dfO a.data.toList b.data.toList = normL ((dst a.data.toList b.data.toList).map stP) := by
    unfold dfO
    rw [hg, if_pos rfl, norm_P _ hd]
  have hgo : goodO (dfO a.data.toList b.data.toList) = true := by
    unfold dfO
    rw [hg, if_pos rfl]
    exact hg
  have hap : apTL (stL (dfO a.data.toList b.data.toList)) (a.data.toList, []) = some ([], b.data.toList) := by
    rw [hO, ap_norm hpk, stL_P _ hd, dst_ap _ _ _ _ (Nat.le_refl _)]
    rfl
  refine ⟨?_, ?_, hgo⟩
  · obtain ⟨s1, -, -⟩ := aplO_steps hgo h1
    have hp := goodO_pk hgo
    obtain ⟨e1, e2, -⟩ := apTL_left _ _ _ _ (fun q hq => (stL_so hp q hq).1) hap
    have hc := (stL_sums _ hp).1
    have e3 := sz_list a
    simp only at e1
    have e4 := List.drop_eq_nil_iff.1 e1.symm
    rw [s1 _ (by omega) hap, ba_of]
  · rw [cst_cs, hO, cs_norm hpk, stL_P _ hd]
    have u1 := cs_dst _ a.data.toList b.data.toList (Nat.le_refl _)
    have u2 := ed_lc a.data.toList b.data.toList
    omega
/-- No change of both texts costs less; what it makes is a good text. -/
theorem ap_cost {l : List Pt} {s : ByteArray} (h : (aplO l s).2 = true) : goodO l = true ∧ good s.data.toList = true ∧ good (aplO l s).1.data.toList = true ∧ (ed 2 s.data.toList (aplO l s).1.data.toList : Int) ≤ cst l := by
  obtain ⟨hg, hs, hsz, hap⟩ := apl_yes h
  have hp := goodO_pk hg
  obtain ⟨A, T, e1, e2, e3⟩ := ap_Ed _ _ _ _ _ hap
  rw [List.append_nil] at e1
  rw [List.nil_append] at e2
  have hok := ap_ok _ (stL_so hp) _ _ _ _ hap (by unfold good at hs; simp only [Bool.and_eq_true] at hs; exact hs.1) rfl
  refine ⟨hg, hs, ?_, ?_⟩
  · unfold good
    simp only [Bool.and_eq_true, decide_eq_true_eq]
    have := (undo h).2.2
    have := (goodO_le hg).2.2
    have e3 := sz_list (aplO l s).1
    exact ⟨hok, by omega⟩
  · rw [cst_cs, e1, e2]
    have := ed_le e3
    omega

theorem costI_big {w : World} (a : Option Addr) (n cap : Nat) (h60 : 60 < n) :
    Calls Tryd.prog 45 #[.slice a n cap] w fun e w' => e = .returned (.tuple #[.int .i64 0, .bool false]) ∧ Below w.heap.size w w' := by
  have S := hide (goodOpI_big (w := w) a n cap h60)
  go_enter Tryd.func45, Tryd.ntmps45
  go_wp2_with fail
  refine S.out.mono ?_
  rintro e w1 ⟨rfl, hb⟩
  go_wp2
  go_ret2
  exact ⟨rfl, hb⟩
theorem costS_big {w : World} (a : Option Addr) (n cap : Nat) (h60 : 60 < n) :
    Calls Tryd.prog 47 #[.slice a n cap] w fun e w' => e = .returned (.tuple #[.int .i64 0, .bool false]) ∧ Below w.heap.size w w' := by
  have S := hide (goodOpS_big (w := w) a n cap h60)
  go_enter Tryd.func47, Tryd.ntmps47
  go_wp2_with fail
  refine S.out.mono ?_
  rintro e w1 ⟨rfl, hb⟩
  go_wp2
  go_ret2
  exact ⟨rfl, hb⟩
theorem costI_own {w : World} {B : Nat} {v : Value} {l : List Pt} (h : POwn w B v l) (hT : Tab w) (hm : ∀ p ∈ l, smP p) :
    Calls Tryd.prog 45 #[v] w fun e w' => e = .returned (.tuple #[.int .i64 (cstA l), .bool (goodO l)]) ∧ Below w.heap.size w w' := by
  by_cases hl : l.length ≤ 1048576
  · obtain ⟨aw, g, cap, rfl, hp⟩ := own_pin h hT (smP_sz hm) hl
    exact costI hp hT
  · obtain ⟨a, cap, rfl⟩ := own_sl h
    unfold cstA
    rw [no_big hl]
    exact costI_big a l.length cap (by omega)
theorem costS_own {w : World} {B : Nat} {v : Value} {l : List Pt} (h : POwn w B v l) (hT : Tab w) (hm : ∀ p ∈ l, smP p) :
    Calls Tryd.prog 47 #[v] w fun e w' => e = .returned (.tuple #[.int .i64 (cstA l), .bool (goodO l)]) ∧ Below w.heap.size w w' := by
  by_cases hl : l.length ≤ 1048576
  · obtain ⟨aw, g, cap, rfl, hp⟩ := own_pin h hT (smP_sz hm) hl
    exact costS hp
  · obtain ⟨a, cap, rfl⟩ := own_sl h
    unfold cstA
    rw [no_big hl]
    exact costS_big a l.length cap (by omega)
end Go.Proofs.YtojlnnlcbpjdlaaDoor
