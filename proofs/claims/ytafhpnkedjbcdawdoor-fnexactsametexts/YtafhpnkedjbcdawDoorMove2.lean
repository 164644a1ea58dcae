/- The plain mathematics of chapter 5, on: the bytes that a change takes, and which of them it keeps. -/
import Derived.Test.YtafhpnkedjbcdawDoorMove1
namespace Go.Proofs.YtafhpnkedjbcdawDoor.Doc1
/-- The bytes that a change takes: those that it drops, 0 for those that it keeps. -/
def byL (l : List Pt) : List UInt8 := l.flatMap fun p => List.replicate p.keep.toNat 0 ++ p.drop.data.toList
theorem byL_snoc (l : List Pt) (p : Pt) : byL (l ++ [p]) = byL l ++ (List.replicate p.keep.toNat 0 ++ p.drop.data.toList) := by simp [byL]
theorem byL_cons (l : List Pt) (p : Pt) : byL (p :: l) = (List.replicate p.keep.toNat 0 ++ p.drop.data.toList) ++ byL l := by simp [byL]
theorem byL_len : ∀ (l : List Pt), (∀ p ∈ l, pk p ≠ 0) → ((byL l).length : Int) = tkL l
  | [], _ => rfl
  | p :: l, h => by
    rw [byL_cons, List.length_append, List.length_append, List.length_replicate]
    have ih := byL_len l (fun q hq => h q (List.mem_cons_of_mem _ hq))
    have hk := keep_nn (h p List.mem_cons_self)
    have e : tkL (p :: l) = tk1 p + tkL l := by simp [tkL]
    rw [e, ← ih]
    unfold tk1
    rw [sz_list]
    omega
/-- Whether a byte from a place on up to another one is kept. -/
def kptL (b : List UInt8) (i n : Nat) : Bool := ((b.take n).drop i).any (fun c => decide (c = 0))
theorem kptL_step {b : List UInt8} {i n : Nat} (hi : i < n) (hn : n ≤ b.length) : kptL b i n = (decide (b[i] = 0) || kptL b (i + 1) n) := by
  unfold kptL
  rw [List.drop_eq_getElem_cons (by rw [List.length_take]; omega), List.any_cons, List.getElem_take]
theorem kptL_end (b : List UInt8) (n : Nat) : kptL b n n = false := by
  unfold kptL
  rw [List.drop_eq_nil_of_le (by rw [List.length_take]; omega)]
  rfl


def byT (s : List UInt8) (x : St) : List UInt8 := if x.k = 2 then s else if x.k = 1 then s ++ [0] else s ++ [x.c]
theorem byT_comm (s : List UInt8) (c d : UInt8) : byT (byT s ⟨3, d⟩) ⟨2, c⟩ = byT (byT s ⟨2, c⟩) ⟨3, d⟩ := by simp [byT]
theorem byT_keep (s : List UInt8) (c : UInt8) : byT s ⟨1, c⟩ = byT s ⟨1, 0⟩ := rfl
theorem byT_keeps : ∀ (n : Nat) (s : List UInt8), (List.replicate n (⟨1, 0⟩ : St)).foldl byT s = s ++ List.replicate n 0
  | 0, s => by simp
  | n + 1, s => by
    rw [List.replicate_succ, List.foldl_cons, byT_keeps n]
    simp [byT, List.replicate_succ]
theorem byT_puts : ∀ (b : List UInt8) (s : List UInt8), (b.map (fun c => (⟨2, c⟩ : St))).foldl byT s = s
  | [], s => rfl
  | c :: b, s => by rw [List.map_cons, List.foldl_cons, byT_puts b]; simp [byT]
theorem byT_drops : ∀ (b : List UInt8) (s : List UInt8), (b.map (fun c => (⟨3, c⟩ : St))).foldl byT s = s ++ b
  | [], s => by simp
  | c :: b, s => by rw [List.map_cons, List.foldl_cons, byT_drops b]; simp [byT]
theorem by_fold : ∀ (l : List Pt) (s : List UInt8), foldP byT l s = s ++ byL l
  | [], s => by simp [foldP, stL, byL]
  | p :: l, s => by
    have e : foldP byT (p :: l) s = foldP byT l (foldP byT [p] s) := by rw [← foldP_app]; rfl
    have e2 : foldP byT [p] s = s ++ (List.replicate p.keep.toNat 0 ++ p.drop.data.toList) := by
      unfold foldP stL stp
      simp only [List.flatMap_cons, List.flatMap_nil, List.append_nil, List.foldl_append]
      rw [byT_keeps, byT_puts, byT_drops, List.append_assoc]
    rw [e, e2, by_fold l, byL_cons, List.append_assoc]
theorem by_norm {l : List Pt} (hp : ∀ p ∈ l, pk p ≠ 0) : byL (normL l) = byL l := by
  have := norm_fold byT byT_comm byT_keep hp []
  rw [by_fold, by_fold] at this
  simpa using this
theorem ok_ne0 {c : UInt8} (h : okC c = true) : c ≠ 0 := by rintro rfl; revert h; decide
theorem any_drop : ∀ (b : List UInt8), allOk b = true → ∀ m, (b.take m).any (fun c => decide (c = 0)) = false
  | [], _, m => by simp
  | c :: b, h, 0 => by simp
  | c :: b, h, m + 1 => by
    unfold allOk at h
    simp only [List.all_cons, Bool.and_eq_true] at h
    rw [List.take_succ_cons, List.any_cons, decide_eq_false (ok_ne0 h.1), Bool.false_or]
    exact any_drop b h.2 m
theorem hasK_by : ∀ (q : List Pt), (∀ x ∈ q, gq x) → ∀ m, hasK q m = ((byL q).take m).any (fun c => decide (c = 0))
  | [], _, m => by simp [hasK, byL]
  | x :: q, hq, m => by
    have ih := hasK_by q (fun y hy => hq y (List.mem_cons_of_mem _ hy))
    rw [byL_cons]
    by_cases h0 : m = 0
    · subst h0; rw [hasK_zero]; simp
    unfold hasK
    rw [decide_eq_true (show 0 < m by omega), Bool.true_and, ih]
    rcases hq x List.mem_cons_self with ⟨k, hk, rfl⟩ | ⟨b, hb, ho, rfl⟩ | ⟨b, hb, ho, rfl⟩
    · rw [decide_eq_true (kp_pos hk), Bool.true_or, kpD]
      obtain ⟨k, rfl⟩ : ∃ k', k = k' + 1 := ⟨k - 1, by omega⟩
      obtain ⟨m, rfl⟩ : ∃ m', m = m' + 1 := ⟨m - 1, by omega⟩
      have : (kp (k + 1)).keep.toNat = k + 1 := by show ((k + 1 : Nat) : Int).toNat = k + 1; exact Int.toNat_natCast _
      rw [this, List.append_nil, List.replicate_succ]
      simp
    · have k0 : (pp b).keep = 0 := rfl
      rw [ppD, k0, sz_list, ppD]
      simp
    · have k0 : (dp b).keep = 0 := rfl
      rw [dpD, k0, sz_list, dpD]
      simp only [Int.toNat_zero, List.replicate_zero, List.nil_append, Int.lt_irrefl, decide_false, Bool.false_or]
      rw [List.take_append, List.any_append, any_drop b ho, Bool.false_or]
theorem kept_ok (n : Nat) : ∀ (q : List Pt) (pre : List UInt8), (∀ x ∈ q, gq x) → KeptOk (fun i => kptL (pre ++ byL q) i n) n q pre.length
  | [], _, _ => trivial
  | x :: q, pre, hq => by
    refine ⟨fun hi => ?_, ?_⟩
    · rw [hasK_by (x :: q) hq]
      simp only [kptL]
      rw [List.drop_take, List.drop_append_of_le_length (Nat.le_refl _), List.drop_length, List.nil_append]
    · have := kept_ok n q (pre ++ (List.replicate x.keep.toNat 0 ++ x.drop.data.toList)) (fun y hy => hq y (List.mem_cons_of_mem _ hy))
      rw [byL_cons, ← List.append_assoc]
      rw [List.length_append, List.length_append, List.length_replicate, ← sz_list, ← Nat.add_assoc] at this
      exact this
/-- Where a place comes to: without, and with what is put just there. -/
def mvR (l : List Pt) (n : Nat) : Nat × Nat := ((foldP (mvT n) l mv0).a, (foldP (mvT n) l mv0).a + (foldP (mvT n) l mv0).p)
theorem gap_mv {l : List Pt} (hp : ∀ p ∈ l, pk p ≠ 0) (n : Nat) : gapF (fun i => kptL (byL l) i n) n (normL l) 0 0 0 = mvR l n := by
  have hk := kept_ok n (normL l) [] (gq_norm hp)
  rw [List.nil_append, by_norm hp] at hk
  rw [gap_fold _ n (normL l) 0 0 0 0 0 0 (gq_norm hp) (nd_norm hp) hk rfl rfl (.inl rfl) (fun h => by omega)]
  have := norm_fold (mvT n) (mvT_comm n) (mvT_keep n) hp mv0
  unfold mvR
  rw [← this]
  rfl
theorem gap_stop {kept : Nat → Bool} {n : Nat} {p : Pt} {ps : List Pt} {lo hi i : Nat} (h : n < i ∨ (i = n ∧ 0 < p.keep)) : gapF kept n (p :: ps) lo hi i = (lo, hi) := by
  unfold gapF; rw [if_pos h]
theorem gap_kp1 {kept : Nat → Bool} {n m : Nat} {ps : List Pt} {lo hi i : Nat} (hm : 0 < m) (h : i < n) (hc : n < i + m) : gapF kept n (kp m :: ps) lo hi i = gapF kept n ps (hi + (n - i)) (hi + (n - i)) (i + m) := by
  have e : (kp m).keep.toNat = m := Int.toNat_natCast m
  rw [gapF, if_neg (by omega), if_neg (by rw [kpP]; simp), if_pos (kp_pos hm), e, if_pos hc]
theorem gap_kp2 {kept : Nat → Bool} {n m : Nat} {ps : List Pt} {lo hi i : Nat} (hm : 0 < m) (h : i < n) (hc : ¬ n < i + m) : gapF kept n (kp m :: ps) lo hi i = gapF kept n ps (hi + m) (hi + m) (i + m) := by
  have e : (kp m).keep.toNat = m := Int.toNat_natCast m
  rw [gapF, if_neg (by omega), if_neg (by rw [kpP]; simp), if_pos (kp_pos hm), e, if_neg hc]
theorem gap_pp {kept : Nat → Bool} {n : Nat} {b : List UInt8} {ps : List Pt} {lo hi i : Nat} (hb : b ≠ []) (h : i ≤ n) : gapF kept n (pp b :: ps) lo hi i = gapF kept n ps (if i < n ∧ kept i = true then hi + b.length else lo) (hi + b.length) i := by
  have k0 : (pp b).keep = 0 := rfl
  rw [gapF, if_neg (by rw [k0]; omega), if_pos (by rw [ppP]; exact hb), sz_list, ppP]
theorem gap_dp {kept : Nat → Bool} {n : Nat} {b : List UInt8} {ps : List Pt} {lo hi i : Nat} (h : i ≤ n) : gapF kept n (dp b :: ps) lo hi i = gapF kept n ps lo hi (i + b.length) := by
  have k0 : (dp b).keep = 0 := rfl
  rw [gapF, if_neg (by rw [k0]; omega), if_neg (by rw [dpP]; simp), if_neg (by rw [k0]; omega), sz_list, dpD]
end Go.Proofs.YtafhpnkedjbcdawDoor.Doc1
