/- The mathematics of a cut: the ends of the pieces, told in order, give the pieces. -/
import Derived.Test.YtknodkdlphngmawHeapF
namespace Go.Proofs.Ytknodkdlphngmaw.Doc1

def opE (m : Mk) : En := ⟨m.style, m.frm, 1⟩
def clE (m : Mk) : En := ⟨m.style, m.to, -1⟩
def endsOf (m : Mk) : List En := if m.frm < m.to then [opE m, clE m] else []
/-- A mark's pieces, of the model. -/
def cut1 (fr to : Int) (st : ByteArray) (m : Mk) : List Mk :=
  if (m.style.toList == st.toList) = false ∨ m.to ≤ fr ∨ to ≤ m.frm ∨ fr = to then [m]
  else (if m.frm < fr then [⟨m.frm, fr, st⟩] else []) ++ (if to < m.to then [⟨to, m.to, st⟩] else [])
def cutL (l : List Mk) (fr to : Int) (st : ByteArray) : List Mk := l.flatMap (cut1 fr to st)
/-- The ends that the program pushes for a mark. -/
def pu (fr to : Int) (st : ByteArray) (m : Mk) : List En :=
  if (m.style.toList == st.toList) = false then endsOf m
  else endsOf ⟨m.frm, min m.to fr, st⟩ ++ endsOf ⟨max m.frm to, m.to, st⟩
/-- They in their order. -/
def sE (fr to : Int) (st : ByteArray) (m : Mk) : List En :=
  if (m.style.toList == st.toList) = true ∧ fr = to ∧ m.frm < fr ∧ fr < m.to then [⟨st, m.frm, 1⟩, ⟨st, fr, 1⟩, ⟨st, fr, -1⟩, ⟨st, m.to, -1⟩]
  else pu fr to st m
def foldE (s : List Mk × Int) (S : List En) : List Mk × Int := S.foldl stE s
theorem foldE_app (s : List Mk × Int) (a b : List En) : foldE s (a ++ b) = foldE (foldE s a) b := by simp [foldE]
theorem setTo_snoc (out : List Mk) (m : Mk) (t : Int) : setTo (out ++ [m]) t = out ++ [⟨m.frm, t, m.style⟩] := by
  unfold setTo
  simp
theorem fold_ends (out : List Mk) (m : Mk) (h : m.frm < m.to) : foldE (out, 0) (endsOf m) = (out ++ [m], 0) := by
  unfold endsOf
  rw [if_pos h]
  simp only [foldE, List.foldl_cons, List.foldl_nil, opE, clE]
  have e1 : stE (out, 0) ⟨m.style, m.frm, 1⟩ = (out ++ [⟨m.frm, 0, m.style⟩], 1) := by unfold stE opnE; simp
  have e2 : stE (out ++ [⟨m.frm, 0, m.style⟩], 1) ⟨m.style, m.to, -1⟩ = (out ++ [m], 0) := by
    unfold stE opnE
    simp [setTo_snoc]
  rw [e1, e2]
theorem fold_none (s : List Mk × Int) (m : Mk) (h : ¬ m.frm < m.to) : foldE s (endsOf m) = s := by
  unfold endsOf; rw [if_neg h]; rfl
theorem fold_sE (fr to : Int) (st : ByteArray) (m : Mk) (hm : m.frm < m.to) (hft : fr ≤ to) (out : List Mk) : foldE (out, 0) (sE fr to st m) = (out ++ cut1 fr to st m, 0) := by
  unfold sE
  by_cases hs : m.style.toList = st.toList
  · have hb : (m.style.toList == st.toList) = true := by rw [hs]; exact beq_self_eq_true _
    have he := toL_inj hs
    by_cases hc : fr = to ∧ m.frm < fr ∧ fr < m.to
    · rw [if_pos ⟨hb, hc⟩]
      have e0 : cut1 fr to st m = [m] := if_pos (.inr (.inr (.inr hc.1)))
      rw [e0]
      simp only [foldE, List.foldl_cons, List.foldl_nil]
      have e1 : stE (out, 0) ⟨st, m.frm, 1⟩ = (out ++ [⟨m.frm, 0, st⟩], 1) := by unfold stE opnE; simp
      have e2 : stE (out ++ [⟨m.frm, 0, st⟩], 1) ⟨st, fr, 1⟩ = (out ++ [⟨m.frm, 0, st⟩], 2) := by unfold stE opnE; simp
      have e3 : stE (out ++ [⟨m.frm, 0, st⟩], 2) ⟨st, fr, -1⟩ = (out ++ [⟨m.frm, 0, st⟩], 1) := by unfold stE opnE; simp
      have e4 : stE (out ++ [⟨m.frm, 0, st⟩], 1) ⟨st, m.to, -1⟩ = (out ++ [m], 0) := by
        unfold stE opnE
        simp [setTo_snoc, ← he]
      rw [e1, e2, e3, e4]
    · rw [if_neg (fun c => hc c.2)]
      unfold pu
      rw [if_neg (by rw [hb]; simp), foldE_app]
      unfold cut1
      by_cases h1 : m.to ≤ fr
      · rw [if_pos (.inr (.inl h1)), fold_ends _ ⟨m.frm, min m.to fr, st⟩ (by show m.frm < min m.to fr; omega), fold_none _ ⟨max m.frm to, m.to, st⟩ (by show ¬ max m.frm to < m.to; omega)]
        rw [Int.min_eq_left h1, ← he]
      · by_cases h2 : to ≤ m.frm
        · rw [if_pos (.inr (.inr (.inl h2))), fold_none _ ⟨m.frm, min m.to fr, st⟩ (by show ¬ m.frm < min m.to fr; omega), fold_ends _ ⟨max m.frm to, m.to, st⟩ (by show max m.frm to < m.to; omega)]
          rw [Int.max_eq_left h2, ← he]
        · rw [if_neg (by rw [hb]; intro c; rcases c with c | c | c | c; cases c; omega; omega; omega)]
          rw [Int.min_eq_right (by omega), Int.max_eq_right (by omega)]
          by_cases h3 : m.frm < fr
          · rw [fold_ends _ ⟨m.frm, fr, st⟩ (by show m.frm < fr; exact h3), if_pos h3]
            by_cases h4 : to < m.to
            · rw [fold_ends _ ⟨to, m.to, st⟩ (by show to < m.to; exact h4), if_pos h4, List.append_assoc]
            · rw [fold_none _ ⟨to, m.to, st⟩ (by show ¬ to < m.to; exact h4), if_neg h4, List.append_nil]
          · rw [fold_none _ ⟨m.frm, fr, st⟩ (by show ¬ m.frm < fr; exact h3), if_neg h3, List.nil_append]
            by_cases h4 : to < m.to
            · rw [fold_ends _ ⟨to, m.to, st⟩ (by show to < m.to; exact h4), if_pos h4]
            · rw [fold_none _ ⟨to, m.to, st⟩ (by show ¬ to < m.to; exact h4), if_neg h4, List.append_nil]
  · have hb : (m.style.toList == st.toList) = false := by simpa using hs
    rw [if_neg (by rw [hb]; intro c; cases c.1)]
    unfold pu cut1
    rw [if_pos hb, if_pos (.inl hb), fold_ends _ _ hm]
theorem fold_all (fr to : Int) (st : ByteArray) (hft : fr ≤ to) : ∀ (l : List Mk) (out : List Mk), (∀ m ∈ l, m.frm < m.to) → foldE (out, 0) (l.flatMap (sE fr to st)) = (out ++ cutL l fr to st, 0)
  | [], out, _ => by simp [foldE, cutL]
  | m :: l, out, h => by
    rw [List.flatMap_cons, foldE_app, fold_sE fr to st m (h m (by simp)) hft, fold_all fr to st hft l _ (fun x hx => h x (by simp [hx])), cutL, cutL, List.flatMap_cons, List.append_assoc]
theorem cut_fold (fr to : Int) (st : ByteArray) (hft : fr ≤ to) (l : List Mk) (h : ∀ m ∈ l, m.frm < m.to) : (mkF (l.flatMap (sE fr to st))).1 = cutL l fr to st := by
  have := fold_all fr to st hft l [] h
  unfold mkF
  unfold foldE at this
  rw [this]; simp
theorem sE_cnt (fr to : Int) (st : ByteArray) (m : Mk) (x : En) : (sE fr to st m).count x = (pu fr to st m).count x ∧ (sE fr to st m).length = (pu fr to st m).length := by
  unfold sE
  by_cases hc : (m.style.toList == st.toList) = true ∧ fr = to ∧ m.frm < fr ∧ fr < m.to
  · rw [if_pos hc]
    obtain ⟨hb, rfl, h1, h2⟩ := hc
    unfold pu
    rw [if_neg (by rw [hb]; simp), Int.min_eq_right (by omega), Int.max_eq_right (by omega)]
    unfold endsOf
    rw [if_pos (by show m.frm < fr; exact h1), if_pos (by show fr < m.to; exact h2)]
    simp only [opE, clE, List.cons_append, List.nil_append, List.count_cons, List.count_nil, List.length_cons, List.length_nil]
    refine ⟨?_, trivial⟩
    ac_rfl
  · rw [if_neg hc]; exact ⟨rfl, rfl⟩
theorem all_cnt (fr to : Int) (st : ByteArray) (x : En) : ∀ l : List Mk, (l.flatMap (sE fr to st)).count x = (l.flatMap (pu fr to st)).count x ∧ (l.flatMap (sE fr to st)).length = (l.flatMap (pu fr to st)).length
  | [] => ⟨rfl, rfl⟩
  | m :: l => by
    have := all_cnt fr to st x l
    have e := sE_cnt fr to st m x
    simp only [List.flatMap_cons, List.count_append, List.length_append]
    omega
/-- An end that lies within a mark. -/
def InE (m : Mk) (e : En) : Prop := e.st = m.style ∧ m.frm ≤ e.at' ∧ e.at' ≤ m.to ∧ (e.op = 1 ∨ e.op = -1)
theorem ends_in (m m' : Mk) (e : En) (he : e ∈ endsOf m') (h1 : m'.style = m.style) (h2 : m.frm ≤ m'.frm) (h3 : m'.to ≤ m.to) : InE m e := by
  unfold endsOf at he
  split at he
  · rename_i c
    rcases List.mem_cons.1 he with rfl | he
    · exact ⟨h1, h2, by show m'.frm ≤ m.to; omega, .inl rfl⟩
    · rw [List.mem_singleton] at he
      subst he
      exact ⟨h1, by show m.frm ≤ m'.to; omega, h3, .inr rfl⟩
  · cases he
theorem sE_in (fr to : Int) (st : ByteArray) (m : Mk) (e : En) (he : e ∈ sE fr to st m) : InE m e := by
  have hcnt := (sE_cnt fr to st m e).1
  have hp : e ∈ pu fr to st m := by rw [← List.count_pos_iff] at he ⊢; omega
  unfold pu at hp
  split at hp
  · exact ends_in m m e hp rfl (Int.le_refl _) (Int.le_refl _)
  · rename_i c
    have hs : st = m.style := (toL_inj (by simpa using c)).symm
    rcases List.mem_append.1 hp with c | c
    · exact ends_in m _ e c hs (Int.le_refl _) (by show min m.to fr ≤ m.to; omega)
    · exact ends_in m _ e c hs (by show m.frm ≤ max m.frm to; omega) (Int.le_refl _)
theorem le_at {a b : En} (hs : a.st = b.st) (h : a.at' < b.at' ∨ (a.at' = b.at' ∧ b.op ≤ a.op)) : le ahE a b := by
  unfold le ahE
  rw [if_pos (by rw [hs]; exact beq_self_eq_true _)]
  rcases h with h | ⟨h, h2⟩
  · rw [if_neg (by omega)]; simp; omega
  · rw [if_pos h.symm]; simp; omega
theorem srt_ends (m : Mk) : Srt ahE (endsOf m) := by
  unfold endsOf
  split
  · exact List.Pairwise.cons (fun b hb => by rw [List.mem_singleton] at hb; subst hb; exact le_at rfl (.inl (by assumption))) (List.pairwise_singleton _ _)
  · exact List.Pairwise.nil
theorem srt_sE (fr to : Int) (st : ByteArray) (m : Mk) (hft : fr ≤ to) : Srt ahE (sE fr to st m) := by
  unfold sE
  by_cases hc : (m.style.toList == st.toList) = true ∧ fr = to ∧ m.frm < fr ∧ fr < m.to
  · rw [if_pos hc]
    obtain ⟨hb, rfl, h1, h2⟩ := hc
    unfold Srt
    simp only [List.pairwise_cons, List.mem_cons, List.not_mem_nil, or_false, forall_eq_or_imp, forall_eq, List.Pairwise.nil, and_true, false_implies, implies_true]
    refine ⟨⟨le_at rfl (.inl h1), le_at rfl (.inl h1), le_at rfl (.inl (by show m.frm < m.to; omega))⟩, ⟨le_at rfl (.inr ⟨rfl, by show (-1 : Int) ≤ 1; omega⟩), le_at rfl (.inl h2)⟩, le_at rfl (.inl h2)⟩
  · rw [if_neg hc]
    unfold pu
    split
    · exact srt_ends m
    · rename_i c
      have hb : (m.style.toList == st.toList) = true := by simpa using c
      unfold Srt
      rw [List.pairwise_append]
      refine ⟨srt_ends _, srt_ends _, fun a ha b hb' => ?_⟩
      unfold endsOf at ha hb'
      split at ha
      · rename_i g1
        split at hb'
        · rename_i g2
          have g1' : m.frm < min m.to fr := g1
          have g2' : max m.frm to < m.to := g2
          have hlt : fr < to := by
            rcases Int.lt_or_eq_of_le hft with c | c
            · exact c
            · exact absurd ⟨hb, c, by omega, by omega⟩ hc
          simp only [List.mem_cons, List.not_mem_nil, or_false, opE, clE] at ha hb'
          rcases ha with rfl | rfl <;> rcases hb' with rfl | rfl <;> exact le_at rfl (.inl (by simp only []; omega))
        · cases hb'
      · cases ha
theorem mkLt_le {a b : Mk} {x y : En} (h : mkLt a b = true) (hx : InE a x) (hy : InE b y) : le ahE x y := by
  unfold mkLt at h
  by_cases e : a.style.toList = b.style.toList
  · rw [if_pos (by rw [e]; exact beq_self_eq_true _)] at h
    have h' : a.to < b.frm := by simpa using h
    exact le_at (by rw [hx.1, hy.1]; exact toL_inj e) (.inl (by have := hx.2.2.1; have := hy.2.1; omega))
  · rw [if_neg (by simpa using e)] at h
    apply ahE_ord.le_of_lt
    unfold ahE
    rw [hx.1, hy.1, if_neg (by simpa using e)]
    exact h
theorem cut_srt (fr to : Int) (st : ByteArray) (hft : fr ≤ to) : ∀ l : List Mk, l.Pairwise (fun a b => mkLt a b = true) → Srt ahE (l.flatMap (sE fr to st))
  | [], _ => List.Pairwise.nil
  | m :: l, h => by
    rw [List.pairwise_cons] at h
    unfold Srt
    rw [List.flatMap_cons, List.pairwise_append]
    refine ⟨srt_sE fr to st m hft, cut_srt fr to st hft l h.2, fun a ha b hb => ?_⟩
    obtain ⟨m', hm', hb⟩ := List.mem_flatMap.1 hb
    exact mkLt_le (h.1 m' hm') (sE_in _ _ _ _ _ ha) (sE_in _ _ _ _ _ hb)
theorem mkLt_tr {a b c : Mk} (hb : b.frm < b.to) (h1 : mkLt a b = true) (h2 : mkLt b c = true) : mkLt a c = true := by
  unfold mkLt at *
  by_cases e1 : a.style.toList = b.style.toList
  · rw [if_pos (by rw [e1]; exact beq_self_eq_true _)] at h1
    by_cases e2 : b.style.toList = c.style.toList
    · rw [if_pos (by rw [e2]; exact beq_self_eq_true _)] at h2
      rw [if_pos (by rw [e1, e2]; exact beq_self_eq_true _)]
      simp only [decide_eq_true_eq] at *
      omega
    · rw [if_neg (by simpa using e2)] at h2
      rw [if_neg (by rw [e1]; simpa using e2), e1]; exact h2
  · rw [if_neg (by simpa using e1)] at h1
    by_cases e2 : b.style.toList = c.style.toList
    · rw [← e2, if_neg (by simpa using e1)]; exact h1
    · rw [if_neg (by simpa using e2)] at h2
      have := bl_tr _ _ _ h1 h2
      have hne : a.style.toList ≠ c.style.toList := fun e => by rw [e, bl_ir] at this; cases this
      rw [if_neg (by simpa using hne)]; exact this
theorem good_at {l : List Mk} {size : Int} (h : goodM l size = true) : ∀ i (hi : i < l.length), mkOk size l[i] = true ∧ ∀ j, j + 1 = i → ∀ hj : j < l.length, mkLt l[j] l[i] = true := by
  intro i hi
  unfold goodM at h
  simp only [Bool.and_eq_true] at h
  have h2 := mkTo_le l size (i + 1) l.length hi h.2.2
  rw [mkTo_succ, Bool.and_eq_true] at h2
  cases i with
  | zero => rw [mkAt_zero hi] at h2; exact ⟨h2.2, fun j hj => by omega⟩
  | succ k =>
    rw [mkAt_succ hi, Bool.and_eq_true] at h2
    refine ⟨h2.2.1, fun j hj hjl => ?_⟩
    obtain rfl : j = k := by omega
    exact h2.2.2
theorem mkOk_lt {size : Int} {m : Mk} (h : mkOk size m = true) : m.frm < m.to ∧ m.style.size ≤ 8 ∧ 0 ≤ m.frm ∧ m.to ≤ size := by
  unfold mkOk isSt at h
  simp only [Bool.and_eq_true, decide_eq_true_eq] at h
  exact ⟨h.2.2.1, h.1.1.2, h.2.1, h.2.2.2⟩
theorem good_pw {l : List Mk} {size : Int} (h : goodM l size = true) : l.Pairwise (fun a b => mkLt a b = true) ∧ ∀ m ∈ l, mkOk size m = true := by
  have ha := good_at h
  refine ⟨?_, fun m hm => by obtain ⟨i, hi, rfl⟩ := List.getElem_of_mem hm; exact (ha i hi).1⟩
  rw [List.pairwise_iff_getElem]
  intro i j hi hj hij
  induction j with
  | zero => omega
  | succ j ih =>
    by_cases e : i = j
    · subst e; exact (ha (i + 1) hj).2 i rfl hi
    · exact mkLt_tr (mkOk_lt (ha j (by omega)).1).1 (ih (by omega) (by omega)) ((ha (j + 1) hj).2 j rfl (by omega))
end Go.Proofs.Ytknodkdlphngmaw.Doc1
