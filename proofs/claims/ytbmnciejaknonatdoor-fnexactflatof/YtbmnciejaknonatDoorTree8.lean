/- The plain mathematics of chapter 2, on: what is cut out of a document leaves a document. -/
import Derived.Test.YtbmnciejaknonatDoorTree7
namespace Go.Proofs.YtbmnciejaknonatDoor.Doc1

theorem addN_fr {z y : LS} {n : Nd} (h : addN z n = some y) : y.fr.length = z.fr.length + 1 := by
  unfold addN at h
  split at h
  · split at h
    · cases h; simp [LS.push, LS.write]
    · cases h
  · cases he : z.endInto n.up with
    | none => rw [he] at h; simp at h
    | some x =>
      rw [he] at h
      simp only [Option.map_some, Option.some.injEq] at h
      subst h
      have := (endI_mem n.up _ _ _ _ x he).2.1
      simp [LS.push, LS.write, this]
  · cases he : z.endInto n.up with
    | none => rw [he] at h; simp at h
    | some x =>
      rw [he] at h
      simp only [Option.bind_some] at h
      split at h
      · cases h
      · simp only [Option.some.injEq] at h
        subst h
        have := (endI_mem n.up _ _ _ _ x he).2.1
        simp [LS.write, this]
  · cases h
/-- What a node within is: an element or a run. -/
def Within (n : Nd) : Prop := (isNm n.name.data.toList = true ∧ n.text.data.toList = []) ∨ (n.name.data.toList = [] ∧ isRn n.text.data.toList = true)
theorem addN_within {z y : LS} {n : Nd} (h : addN z n = some y) (h0 : z.fr.length ≠ 0) : Within n := by
  unfold addN at h
  split at h
  · rw [if_neg h0] at h; cases h
  · rename_i hsh
    unfold shp at hsh
    split at hsh
    · cases hsh
    · split at hsh
      · rename_i hh; exact Or.inl hh
      · split at hsh <;> cases hsh
  · rename_i hsh
    unfold shp at hsh
    split at hsh
    · cases hsh
    · split at hsh
      · cases hsh
      · split at hsh
        · rename_i hh; exact Or.inr hh
        · cases hsh
  · cases h
theorem addAll_within : ∀ (b : List Nd) (z y : LS), z.fr.length ≠ 0 → addAll z b = some y → ∀ n ∈ b, Within n
  | [], _, _, _, _, n, hn => by cases hn
  | m :: b, z, y, h0, h, n, hn => by
    unfold addAll at h
    cases he : addN z m with
    | none => rw [he] at h; simp at h
    | some x =>
      rw [he] at h
      rcases List.mem_cons.1 hn with rfl | hn
      · exact addN_within he h0
      · exact addAll_within b x y (by rw [addN_fr he]; omega) h n hn
theorem lay_within {l : List Nd} {y : LS} (h : layL l = some y) : ∀ i, 0 < i → i < l.length → Within (ndAt l i) := by
  unfold layL at h
  split at h
  · cases h
  · rename_i hc
    cases ha : addAll z0 l with
    | none => rw [ha] at h; simp at h
    | some z =>
      match l, ha, hc with
      | [], _, hc => exact absurd (Or.inl rfl) hc
      | n :: b, ha, _ =>
        unfold addAll at ha
        cases hn : addN z0 n with
        | none => rw [hn] at ha; simp at ha
        | some x =>
          rw [hn] at ha
          intro i h0 hi
          have hm := addAll_within b x z (by rw [addN_fr hn]; simp) ha
          obtain ⟨j, rfl⟩ : ∃ j, i = j + 1 := ⟨i - 1, by omega⟩
          have hj : j < b.length := by simpa using hi
          have : ndAt (n :: b) (j + 1) = b[j] := by unfold ndAt; rw [List.getD_eq_getElem?_getD, List.getElem?_cons_succ, List.getElem?_eq_getElem hj]; rfl
          rw [this]
          exact hm _ (List.getElem_mem hj)

/-- A stretch that can be cut out wherever it stands. -/
def Bal (b : List UInt8) : Prop := ∀ r d, rn (b ++ r) d = true → rn r d = true
theorem bal_nil : Bal [] := fun _ _ h => h
theorem bal_app {a b : List UInt8} (ha : Bal a) (hb : Bal b) : Bal (a ++ b) := fun r d h => hb r d (ha _ d (by rw [List.append_assoc] at h; exact h))
theorem bal_flat {α : Type} (f : α → List UInt8) : ∀ l : List α, (∀ x ∈ l, Bal (f x)) → Bal (l.flatMap f)
  | [], _ => bal_nil
  | x :: l, h => by
    rw [List.flatMap_cons]
    exact bal_app (h x (by simp)) (bal_flat f l (fun y hy => h y (by simp [hy])))
theorem dl_pl0 {c : UInt8} (h : plB c = true) : dl c = 0 := by simp [dl, op_of_pl h, en_of_pl h]
theorem bal_run : ∀ l : List UInt8, l.all plB = true → Bal l
  | [], _ => bal_nil
  | c :: l, h => by
    simp only [List.all_cons, Bool.and_eq_true] at h
    intro r d hr
    rw [List.cons_append] at hr
    unfold rn at hr
    simp only [Bool.and_eq_true] at hr
    rw [dl_pl0 h.1, Int.add_zero] at hr
    exact bal_run l h.2 r d hr.2
theorem bal_elem {c : UInt8} (hc : opB c = true) {b : List UInt8} (hb : Bal b) : Bal ([c] ++ b ++ [slash]) := by
  intro r d h
  simp only [List.cons_append, List.append_assoc] at h
  unfold rn at h
  simp only [Bool.and_eq_true] at h
  have h2 := hb _ _ h.2
  unfold rn at h2
  simp only [Bool.and_eq_true] at h2
  have e1 : dl c = 1 := by simp [dl, hc]
  have e2 : dl slash = -1 := by decide
  rw [e1, e2] at h2
  have := h2.2
  simp only [List.nil_append] at this
  rw [show d + 1 + -1 = d by omega] at this
  exact this
theorem bal_fl {l : List Nd} (hw : ∀ i, 0 < i → i < l.length → Within (ndAt l i)) : ∀ (d k : Nat), l.length - k ≤ d → 0 < k → k < l.length → Bal (fl l k)
  | 0, k, hd, _, hk => by omega
  | d + 1, k, hd, h0, hk => by
    rw [fl_eq]
    have hkids : Bal ((kids l k).flatMap (fl l)) := bal_flat _ _ (fun x hx => by
      obtain ⟨h1, h2, _⟩ := kidsU_mem l.length hx
      exact bal_fl hw d x (by omega) (by omega) h2)
    rcases hw k h0 hk with ⟨hn, ht⟩ | ⟨hn, ht⟩
    · obtain ⟨c, hc, ho⟩ := nm_of hn
      have e1 : nmL l k = [c] := hc
      have e2 : txL l k = [] := ht
      have e3 : slL l k = [slash] := by unfold slL; rw [e1]; simp
      rw [e1, e2, e3, List.nil_append]
      exact bal_elem ho hkids
    · have e1 : nmL l k = [] := hn
      have e3 : slL l k = [] := by unfold slL; rw [e1]; simp
      rw [e1, e3, List.nil_append, List.append_nil]
      refine bal_app (bal_run _ ?_) hkids
      unfold isRn at ht
      simp only [Bool.and_eq_true] at ht
      exact ht.2
theorem rn_pre {x y : List UInt8} (h : ∀ d, rn x d = true → rn y d = true) : ∀ (a : List UInt8) (d : Int), rn (a ++ x) d = true → rn (a ++ y) d = true
  | [], d, hr => h d hr
  | c :: a, d, hr => by
    rw [List.cons_append] at hr ⊢
    unfold rn at hr ⊢
    simp only [Bool.and_eq_true] at hr ⊢
    exact ⟨hr.1, rn_pre h a _ hr.2⟩
theorem doc_cut {a b r : List UInt8} (hb : Bal b) (h : doc (a ++ b ++ r) = true) : doc (a ++ r) = true := by
  unfold doc good at h ⊢
  simp only [Bool.and_eq_true, decide_eq_true_eq] at h ⊢
  obtain ⟨⟨h1, h2⟩, h3⟩ := h
  refine ⟨⟨?_, by simp at h2 ⊢; omega⟩, ?_⟩
  · unfold allOk at h1 ⊢
    simp only [List.all_append, Bool.and_eq_true] at h1 ⊢
    exact ⟨h1.1.1, h1.2⟩
  · rw [List.append_assoc] at h3
    exact rn_pre (fun d => hb r d) a 0 h3
/-- The text without a node. -/
def cutT (y : LS) (k : Nat) : List UInt8 := y.text.take (y.fr.getD k 0) ++ y.text.drop (y.to.getD k 0)
theorem cut_doc {l : List Nd} {y : LS} (h : layL l = some y) {k : Nat} (h0 : 0 < k) (hk : k < l.length) : doc (cutT y k) = true := by
  have hl := laid_of h
  have hg := hl.good
  unfold goodT at hg
  simp only [Bool.and_eq_true] at hg
  obtain ⟨e1, e2⟩ := hl.seg k hk
  have hb := bal_fl (lay_within h) _ k (Nat.le_refl _) h0 hk
  have hd : doc y.text = true := by rw [hl.text]; exact hg.2.1
  -- the stretch itself
  have hsplit : y.text = y.text.take (y.fr.getD k 0) ++ seg y.text (y.fr.getD k 0) (y.to.getD k 0) ++ y.text.drop (y.to.getD k 0) := by
    unfold seg
    have h3 : y.text.drop (y.to.getD k 0) = (y.text.drop (y.fr.getD k 0)).drop (y.to.getD k 0 - y.fr.getD k 0) := by rw [List.drop_drop]; congr 1; omega
    rw [h3, List.append_assoc, List.take_append_drop, List.take_append_drop]
  have hseg : seg y.text (y.fr.getD k 0) (y.to.getD k 0) = fl l k := hl.is k hk
  rw [hseg] at hsplit
  rw [hsplit] at hd
  exact doc_cut hb hd
end Go.Proofs.YtbmnciejaknonatDoor.Doc1
