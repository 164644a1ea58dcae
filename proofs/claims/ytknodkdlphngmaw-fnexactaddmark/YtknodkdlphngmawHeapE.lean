/- The ends of marks, and the order in which they are told. -/
import Derived.Test.YtknodkdlphngmawHeapM
import Derived.Test.YtknodkdlphngmawMark1
import Derived.Laws.Strings
namespace Go.Proofs.Ytknodkdlphngmaw.Doc1

/-- An end of a mark: where one opens (1) or closes (-1). -/
structure En where
  st : ByteArray
  at' : Int
  op : Int
  deriving DecidableEq
def ahE (a b : En) : Bool := if a.st.toList == b.st.toList then (if a.at' = b.at' then decide (b.op < a.op) else decide (a.at' < b.at')) else Op.bytesLess a.st.toList b.st.toList

theorem bl_ir : ∀ x : List UInt8, Op.bytesLess x x = false
  | [] => rfl
  | a :: x => by simp [Op.bytesLess, bl_ir x]
theorem bl_tr : ∀ x y z : List UInt8, Op.bytesLess x y = true → Op.bytesLess y z = true → Op.bytesLess x z = true
  | _, [], _, h, _ => by simp [Op.bytesLess] at h
  | _, b :: y, [], _, h => by simp [Op.bytesLess] at h
  | [], b :: y, c :: z, _, _ => by simp [Op.bytesLess]
  | a :: x, b :: y, c :: z, h1, h2 => by
    simp only [Op.bytesLess, Bool.or_eq_true, decide_eq_true_eq, Bool.and_eq_true, beq_iff_eq] at h1 h2 ⊢
    rcases h1 with h1 | ⟨rfl, h1⟩
    · rcases h2 with h2 | ⟨rfl, h2⟩
      · left; exact UInt8.lt_trans h1 h2
      · left; exact h1
    · rcases h2 with h2 | ⟨rfl, h2⟩
      · left; exact h2
      · right; exact ⟨rfl, bl_tr _ _ _ h1 h2⟩
theorem bl_tt : ∀ x y : List UInt8, x ≠ y → Op.bytesLess x y = true ∨ Op.bytesLess y x = true
  | [], [], h => absurd rfl h
  | [], b :: y, _ => by simp [Op.bytesLess]
  | a :: x, [], _ => by simp [Op.bytesLess]
  | a :: x, b :: y, h => by
    simp only [Op.bytesLess, Bool.or_eq_true, decide_eq_true_eq, Bool.and_eq_true, beq_iff_eq]
    by_cases e : a = b
    · subst e
      rcases bl_tt x y (fun c => h (by rw [c])) with c | c
      · left; right; exact ⟨rfl, c⟩
      · right; right; exact ⟨rfl, c⟩
    · rcases Nat.lt_or_gt_of_ne (fun c : a.toNat = b.toNat => e (UInt8.toNat_inj.1 c)) with c | c
      · left; left; exact UInt8.lt_iff_toNat_lt.2 c
      · right; left; exact UInt8.lt_iff_toNat_lt.2 c
theorem toL (s : ByteArray) : s.toList = s.data.toList := ByteArray.toList_eq s
theorem toL_inj {s t : ByteArray} (h : s.toList = t.toList) : s = t := by
  rw [toL, toL] at h
  cases s; cases t
  congr 1
  exact Array.toList_inj.1 h
theorem ahE_ord : Ord ahE where
  ir := fun a => by unfold ahE; simp
  tr := fun a b c h1 h2 => by
    unfold ahE at *
    by_cases e1 : a.st.toList = b.st.toList
    · rw [if_pos (by simp [e1])] at h1
      by_cases e2 : b.st.toList = c.st.toList
      · rw [if_pos (by simp [e2])] at h2
        rw [if_pos (by simp [e1, e2])]
        split at h1 <;> split at h2 <;> rw [decide_eq_true_eq] at h1 h2 <;> split <;> rw [decide_eq_true_eq] <;> omega
      · rw [if_neg (by simpa using e2)] at h2
        rw [if_neg (by rw [e1]; simpa using e2), e1]; exact h2
    · rw [if_neg (by simpa using e1)] at h1
      by_cases e2 : b.st.toList = c.st.toList
      · rw [← e2, if_neg (by simpa using e1)]; exact h1
      · rw [if_neg (by simpa using e2)] at h2
        have := bl_tr _ _ _ h1 h2
        have hne : a.st.toList ≠ c.st.toList := fun e => by rw [e, bl_ir] at this; cases this
        rw [if_neg (by simpa using hne)]; exact this
  tt := fun a b h => by
    unfold ahE
    by_cases e : a.st.toList = b.st.toList
    · have p1 : (a.st.toList == b.st.toList) = true := by rw [e]; exact beq_self_eq_true _
      have p2 : (b.st.toList == a.st.toList) = true := by rw [e]; exact beq_self_eq_true _
      rw [if_pos p1, if_pos p2]
      have es := toL_inj e
      by_cases x : a.at' = b.at'
      · rw [if_pos x, if_pos x.symm]
        rw [decide_eq_true_eq, decide_eq_true_eq]
        by_cases y : a.op = b.op
        · exact absurd (by cases a; cases b; simp_all) h
        · omega
      · rw [if_neg x, if_neg (Ne.symm x)]
        rw [decide_eq_true_eq, decide_eq_true_eq]; omega
    · rw [if_neg (by simpa using e), if_neg (by simpa using (Ne.symm e))]
      exact bl_tt _ _ e
end Go.Proofs.Ytknodkdlphngmaw.Doc1
