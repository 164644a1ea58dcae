/- Clashes: what the program counts is what the model counts (mathematics). -/
import Derived.Test.YtojlnnlcbpjdlabDoorFoot3
import Derived.Test.YtojlnnlcbpjdlabDoorMoveM
set_option linter.unusedVariables false
namespace Go.Proofs.YtojlnnlcbpjdlabDoor
open Go.RowKit Go.Shelf
open Doc1

theorem both_puts (l : List St) : (l.map (fun y => (z0s, y))).countP bothB = 0 := by
  rw [List.countP_eq_zero]
  intro p hp hu
  obtain ⟨y, _, rfl⟩ := List.mem_map.1 hp
  simp [bothB, z0s] at hu
theorem prC_step {ys pre : List St} {x : St} (h : PrI ys pre) (hle : ctk (pre ++ [x]) ≤ ctk ys)
    (ih : (prS ys pre).1.countP bothB = ((tkn pre).zip (tkn (ys.take (prS ys pre).2))).countP bothB) :
    (prS ys (pre ++ [x])).1.countP bothB = ((tkn (pre ++ [x])).zip (tkn (ys.take (prS ys (pre ++ [x])).2))).countP bothB := by
  by_cases hx : x.k = 2
  · have e : prS ys (pre ++ [x]) = ((prS ys pre).1 ++ [(x, z0s)], (prS ys pre).2) := by rw [prS_snoc]; unfold prT; rw [if_pos hx]
    have e2 : tkn (pre ++ [x]) = tkn pre := by rw [tkn_app]; simp [tkn, hx]
    rw [e, e2]
    simp only [List.countP_append, ih]
    have : [(x, z0s)].countP bothB = 0 := by simp [bothB, z0s]
    rw [this]; rfl
  · obtain ⟨h1, h2⟩ := pr_next h.le h.ct hx hle
    have hg : (ys.drop (prS ys pre).2).getD (nP (ys.drop (prS ys pre).2)) z0s = ys[(prS ys pre).2 + nP (ys.drop (prS ys pre).2)] := by
      rw [List.getD_eq_getElem?_getD, List.getElem?_drop, List.getElem?_eq_getElem h1]; rfl
    have e : prS ys (pre ++ [x]) = ((prS ys pre).1 ++ ((ys.drop (prS ys pre).2).take (nP (ys.drop (prS ys pre).2))).map (fun y => (z0s, y)) ++ [(x, ys[(prS ys pre).2 + nP (ys.drop (prS ys pre).2)])], (prS ys pre).2 + nP (ys.drop (prS ys pre).2) + 1) := by
      rw [prS_snoc]; unfold prT; rw [if_neg hx, hg]
    have et : ys.take ((prS ys pre).2 + nP (ys.drop (prS ys pre).2) + 1) = ys.take (prS ys pre).2 ++ ((ys.drop (prS ys pre).2).take (nP (ys.drop (prS ys pre).2)) ++ [ys[(prS ys pre).2 + nP (ys.drop (prS ys pre).2)]]) := by
      rw [List.take_succ_eq_append_getElem h1, List.take_add, List.append_assoc]
    have et2 : tkn (ys.take ((prS ys pre).2 + nP (ys.drop (prS ys pre).2) + 1)) = tkn (ys.take (prS ys pre).2) ++ [ys[(prS ys pre).2 + nP (ys.drop (prS ys pre).2)]] := by
      rw [et, tkn_app, tkn_app, tkn_puts, List.nil_append]
      simp [tkn, h2]
    have ex : tkn (pre ++ [x]) = tkn pre ++ [x] := by rw [tkn_app]; simp [tkn, hx]
    have hl : (tkn pre).length = (tkn (ys.take (prS ys pre).2)).length := by rw [tkn_len, tkn_len, h.ct]
    rw [e]
    simp only
    rw [et2, ex, List.zip_append hl, List.countP_append, List.countP_append, List.countP_append, both_puts, Nat.add_zero, ih]
    rfl
theorem prC_all (ys : List St) : ∀ (n : Nat) (pre : List St), pre.length = n → ctk pre ≤ ctk ys → (prS ys pre).1.countP bothB = ((tkn pre).zip (tkn (ys.take (prS ys pre).2))).countP bothB
  | 0, pre, h, _ => by rw [List.eq_nil_of_length_eq_zero h]; simp [prS, tkn]
  | n + 1, pre, h, hc => by
    obtain ⟨r, x, rfl⟩ : ∃ r x, pre = r ++ [x] := ⟨pre.dropLast, pre.getLast (fun c => by simp [c] at h), (List.dropLast_concat_getLast _).symm⟩
    have hc2 : ctk r ≤ ctk ys := by rw [ctk_app] at hc; omega
    exact prC_step (prI_of hc2) hc (prC_all ys n r (by simpa using h) hc2)
theorem prF_both {xs ys : List St} (h : ctk xs = ctk ys) : (prF xs ys).countP bothB = ((tkn xs).zip (tkn ys)).countP bothB := by
  have hI := prI_of (ys := ys) (pre := xs) (by omega)
  unfold prF
  rw [List.countP_append, both_puts, Nat.add_zero, prC_all ys _ xs rfl (by omega)]
  have e1 : ctk ys = ctk (ys.take (prS ys xs).2) + ctk (ys.drop (prS ys xs).2) := by rw [← ctk_app, List.take_append_drop]
  have e2 : tkn (ys.drop (prS ys xs).2) = [] := List.eq_nil_of_length_eq_zero (by rw [tkn_len]; have := hI.ct; omega)
  have e3 : tkn ys = tkn (ys.take (prS ys xs).2) := by
    have := congrArg tkn (List.take_append_drop (prS ys xs).2 ys)
    rw [tkn_app, e2, List.append_nil] at this
    exact this.symm
  rw [e3]
/-- How many bytes both drop. -/
def nz2 (p : UInt8 × UInt8) : Bool := decide (p.1 ≠ 0) && decide (p.2 ≠ 0)
theorem both_nz : ∀ (xs ys : List St), (∀ x ∈ xs, so x ∧ x.k ≠ 2) → (∀ y ∈ ys, so y ∧ y.k ≠ 2) → ((xs.map tkC).zip (ys.map tkC)).countP nz2 = (xs.zip ys).countP bothB
  | [], _, _, _ => by simp
  | _ :: _, [], _, _ => by simp
  | x :: xs, y :: ys, hx, hy => by
    have ih := both_nz xs ys (fun a ha => hx a (List.mem_cons_of_mem _ ha)) (fun a ha => hy a (List.mem_cons_of_mem _ ha))
    simp only [List.map_cons, List.zip_cons_cons, List.countP_cons]
    rw [ih]
    congr 1
    obtain ⟨⟨sx, ox⟩, nx⟩ := hx x List.mem_cons_self
    obtain ⟨⟨sy, oy⟩, ny⟩ := hy y List.mem_cons_self
    have kx : x.k = 1 ∨ x.k = 3 := by rcases sx with e | e | e <;> omega
    have ky : y.k = 1 ∨ y.k = 3 := by rcases sy with e | e | e <;> omega
    unfold nz2 bothB tkC
    rcases kx with a | a
    · simp [a]
    · have n1 := ok_ne0 (ox (by omega))
      rcases ky with b | b
      · simp [a, b]
      · have n2 := ok_ne0 (oy (by omega))
        simp [a, b, n1, n2]
theorem pairs_both {la lb : List Pt} (ha : ∀ p ∈ la, pk p ≠ 0) (hb : ∀ p ∈ lb, pk p ≠ 0) (h : ctk (stL la) = ctk (stL lb)) : (prF (stL la) (stL lb)).countP bothB = ((byL la).zip (byL lb)).countP nz2 := by
  rw [prF_both h, by_tkn ha, by_tkn hb]
  exact (both_nz _ _ (tkn_mem ha) (tkn_mem hb)).symm

/-- The model's runs of dropped bytes, numbered. -/
def rnN (n : Nat) (p : Pt) : Nat := if p.drop.size = 0 then n else n + 1
def rnP (n : Nat) (p : Pt) : List Nat := List.replicate p.keep.toNat 0 ++ List.replicate p.drop.size (rnN n p)
def rnS (s : List Nat × Nat) (p : Pt) : List Nat × Nat := (s.1 ++ rnP s.2 p, rnN s.2 p)
def rnL (l : List Pt) : List Nat × Nat := l.foldl rnS ([], 0)
theorem rnL_snoc (l : List Pt) (p : Pt) : rnL (l ++ [p]) = rnS (rnL l) p := by simp [rnL]
def rnR : Nat → List Pt → List Nat
  | _, [] => []
  | n, p :: l => rnP n p ++ rnR (rnN n p) l
theorem rnL_R (l : List Pt) : (rnL l).1 = rnR 0 l := by
  suffices H : ∀ (l : List Pt) (s : List Nat × Nat), (l.foldl rnS s).1 = s.1 ++ rnR s.2 l by simpa [rnL] using H l ([], 0)
  intro l
  induction l with
  | nil => intro s; simp [rnR]
  | cons p l ih => intro s; rw [List.foldl_cons, ih]; simp [rnS, rnR]
theorem ftL_R (l : List Pt) : (ftL l).1 = l.flatMap fdP := by
  suffices H : ∀ (l : List Pt) (s : List Bool × List Nat), (l.foldl ftS s).1 = s.1 ++ l.flatMap fdP by simpa [ftL] using H l ([], [])
  intro l
  induction l with
  | nil => intro s; simp
  | cons p l ih => intro s; rw [List.foldl_cons, ih]; simp [ftS]
theorem pk_three {p : Pt} (h : pk p ≠ 0) : (pk p = 3 ∧ p.keep.toNat = 0 ∧ p.drop.size ≠ 0 ∧ p.put.size = 0) ∨ (pk p = 2 ∧ p.keep.toNat = 0 ∧ p.drop.size = 0 ∧ p.put.size ≠ 0) ∨ (pk p = 1 ∧ p.keep.toNat ≠ 0 ∧ p.drop.size = 0 ∧ p.put.size = 0) := by
  rw [sz_list, sz_list]
  unfold pk at h ⊢
  split at h
  · rename_i hh
    rw [if_pos hh]
    exact .inr (.inr ⟨rfl, by omega, by rw [hh.2.1]; rfl, by rw [hh.1]; rfl⟩)
  · rename_i h1
    rw [if_neg h1]
    split at h
    · rename_i hh
      rw [if_pos hh]
      exact .inr (.inl ⟨rfl, by omega, by rw [hh.2.1]; rfl, fun c => hh.2.2.1 (List.eq_nil_of_length_eq_zero c)⟩)
    · rename_i h2
      rw [if_neg h2]
      split at h
      · rename_i hh
        rw [if_pos hh]
        exact .inl ⟨rfl, by omega, fun c => hh.2.2.1 (List.eq_nil_of_length_eq_zero c), by rw [hh.2.1]; rfl⟩
      · exact absurd rfl h
theorem rn_map : ∀ (l : List Pt) (n : Nat), (∀ p ∈ l, pk p ≠ 0) → (rnR n l).map (fun v => decide (0 < v)) = l.flatMap fdP
  | [], _, _ => rfl
  | p :: l, n, h => by
    rw [rnR, List.map_append, List.flatMap_cons, rn_map l _ (fun q hq => h q (List.mem_cons_of_mem _ hq))]
    congr 1
    unfold rnP fdP rnN
    rcases pk_three (h p List.mem_cons_self) with ⟨a, b, c, d⟩ | ⟨a, b, c, d⟩ | ⟨a, b, c, d⟩
    · simp [a, b, c]
    · simp [a, b, c]
    · simp [a, c]
theorem rn_run : ∀ (l : List Pt) (n : Nat), (∀ p ∈ l, pk p ≠ 0) → ND l → ∀ (i a b : Nat), (rnR n l)[i]? = some a → (rnR n l)[i + 1]? = some b → 0 < a → 0 < b → a = b
  | [], _, _, _ => fun i a b h => by simp [rnR] at h
  | p :: l, n, h, hN => by
    have ih := rn_run l (rnN n p) (fun q hq => h q (List.mem_cons_of_mem _ hq)) hN.2
    intro i a b h1 h2 ha hb
    rw [rnR] at h1 h2
    have hl : (rnP n p).length = p.keep.toNat + p.drop.size := by simp [rnP]
    rw [List.getElem?_append] at h1 h2
    rw [hl] at h1 h2
    rcases pk_three (h p List.mem_cons_self) with ⟨e1, e2, e3, e4⟩ | ⟨e1, e2, e3, e4⟩ | ⟨e1, e2, e3, e4⟩
    · have hP : rnP n p = List.replicate p.drop.size (n + 1) := by unfold rnP rnN; simp [e2, e3]
      have hr : rnN n p = n + 1 := by unfold rnN; simp [e3]
      rw [hP, e2, Nat.zero_add] at h1 h2
      by_cases c2 : i + 1 < p.drop.size
      · rw [if_pos (by omega), List.getElem?_replicate, if_pos (by omega)] at h1
        rw [if_pos c2, List.getElem?_replicate, if_pos c2] at h2
        injection h1 with h1; injection h2 with h2
        omega
      · rw [if_neg c2] at h2
        by_cases c1 : i < p.drop.size
        · exfalso
          have hz : i + 1 - p.drop.size = 0 := by omega
          rw [hz] at h2
          cases l with
          | nil => simp [rnR] at h2
          | cons q qs =>
            have hq := hN.1 (by intro c; apply e3; rw [sz_list, c]; rfl) q qs rfl
            rw [rnR] at h2
            have : q.keep.toNat ≠ 0 := by omega
            obtain ⟨m, hm⟩ : ∃ m, q.keep.toNat = m + 1 := ⟨q.keep.toNat - 1, by omega⟩
            unfold rnP at h2
            rw [hm, List.replicate_succ] at h2
            simp at h2
            omega
        · rw [if_neg c1] at h1
          exact ih (i - p.drop.size) a b h1 (by rw [← h2]; congr 1; omega) ha hb
    · have hP : rnP n p = [] := by unfold rnP; simp [e2, e3]
      rw [e2, e3, if_neg (by omega)] at h1 h2
      exact ih i a b (by simpa using h1) (by simpa using h2) ha hb
    · have hP : rnP n p = List.replicate p.keep.toNat 0 := by unfold rnP; simp [e3]
      rw [hP, e3, Nat.add_zero] at h1 h2
      by_cases c1 : i < p.keep.toNat
      · rw [if_pos c1, List.getElem?_replicate, if_pos c1] at h1
        injection h1 with h1; omega
      · rw [if_neg c1] at h1
        rw [if_neg (by omega)] at h2
        exact ih (i - p.keep.toNat) a b h1 (by rw [← h2]; congr 1; omega) ha hb
/-- Whether a place lies within one run. -/
def amid (r : List Nat) (t : Nat) : Bool := decide (0 < t) && (decide (t < r.length) && (decide (0 < r.getD (t - 1) 0) && decide (r.getD (t - 1) 0 = r.getD t 0)))
theorem amid_around {l : List Pt} (h : ∀ p ∈ l, pk p ≠ 0) (hN : ND l) (t : Nat) : around (ftL l).1 t = amid (rnL l).1 t := by
  have hm := rn_map l 0 h
  have hr := rn_run l 0 h hN
  rw [ftL_R, rnL_R, ← hm]
  generalize rnR 0 l = r at *
  unfold around amid
  rw [List.length_map]
  by_cases h0 : 0 < t
  · by_cases h1 : t < r.length
    · have a1 : r[t - 1]? = some r[t - 1] := List.getElem?_eq_getElem (by omega)
      have a2 : r[t]? = some r[t] := List.getElem?_eq_getElem h1
      have hh := hr (t - 1) r[t - 1] r[t] a1 (by rw [← a2]; congr 1; omega)
      simp only [List.getD_eq_getElem?_getD, List.getElem?_map, a1, a2, Option.map_some, Option.getD_some]
      rw [decide_eq_true h0, decide_eq_true h1]
      simp only [Bool.true_and]
      generalize r[t - 1] = x at *
      generalize r[t] = y at *
      rw [Bool.eq_iff_iff]
      simp only [Bool.and_eq_true, decide_eq_true_eq]
      constructor
      · rintro ⟨p, q⟩; exact ⟨p, hh p q⟩
      · rintro ⟨p, q⟩; exact ⟨p, by omega⟩
    · rw [decide_eq_false h1]; simp
  · rw [decide_eq_false h0]; simp
/-- The model's count of puts within runs, part by part. -/
def wmS (P : Nat → Bool) (s : Nat × Nat) (p : Pt) : Nat × Nat := (if (decide (p.put.size ≠ 0) && P s.2) = true then s.1 + 1 else s.1, s.2 + (p.keep.toNat + p.drop.size))
def wmL (P : Nat → Bool) (l : List Pt) : Nat × Nat := l.foldl (wmS P) (0, 0)
theorem wmL_snoc (P : Nat → Bool) (l : List Pt) (p : Pt) : wmL P (l ++ [p]) = wmS P (wmL P l) p := by simp [wmL]
theorem wm_count (P : Nat → Bool) (l : List Pt) (h : ∀ p ∈ l, pk p ≠ 0) : wmL P l = ((ftL l).2.countP P, (ftL l).1.length) := by
  suffices H : ∀ (l : List Pt) (s : List Bool × List Nat), (∀ p ∈ l, pk p ≠ 0) → l.foldl (wmS P) (s.2.countP P, s.1.length) = ((l.foldl ftS s).2.countP P, (l.foldl ftS s).1.length) by
    simpa [wmL, ftL] using H l ([], []) h
  intro l
  induction l with
  | nil => intro s _; rfl
  | cons p l ih =>
    intro s h
    rw [List.foldl_cons, List.foldl_cons, ← ih (ftS s p) (fun q hq => h q (List.mem_cons_of_mem _ hq))]
    congr 1
    unfold wmS ftS
    have hlen : (fdP p).length = p.keep.toNat + p.drop.size := by simp [fdP]
    rcases pk_three (h p List.mem_cons_self) with ⟨e1, e2, e3, e4⟩ | ⟨e1, e2, e3, e4⟩ | ⟨e1, e2, e3, e4⟩
    · simp [e1, e4, hlen]
    · simp only [e1, e4, if_true, ne_eq, not_false_eq_true, decide_true, Bool.true_and, List.length_append, hlen, List.countP_append, List.countP_singleton]
      by_cases c : P s.1.length = true
      · simp [c]
      · simp [c]
    · simp [e1, e4, hlen]
end Go.Proofs.YtojlnnlcbpjdlabDoor
