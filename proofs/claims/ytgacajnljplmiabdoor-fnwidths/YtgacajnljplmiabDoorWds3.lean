/- Words come back from lines; what the drawings tell; texts held against one another. -/
import Derived.Test.YtgacajnljplmiabDoorDrWd
import Derived.Test.YtgacajnljplmiabDoorWds2
set_option linter.unusedVariables false
namespace Go.Proofs.YtgacajnljplmiabDoor
open Go.RowKit
open Doc1

theorem fold_pre : ∀ (s : List ByteArray) (P b : ByteArray), s.foldl (fun s b => s ++ blB ++ b) (P ++ b) = P ++ s.foldl (fun s b => s ++ blB ++ b) b
  | [], P, b => rfl
  | x :: s, P, b => by
    rw [List.foldl_cons, List.foldl_cons, show P ++ b ++ blB ++ x = P ++ (b ++ blB ++ x) from Doc1.ba_eq (by simp only [apdB, List.append_assoc]), fold_pre s P _]
theorem jn_app (X : List ByteArray) (hX : X ≠ []) (Y : List ByteArray) (hY : Y ≠ []) : jn (X ++ Y) = jn X ++ blB ++ jn Y := by
  cases X with
  | nil => exact absurd rfl hX
  | cons a r =>
    cases Y with
    | nil => exact absurd rfl hY
    | cons b s =>
      show (r ++ b :: s).foldl (fun s b => s ++ blB ++ b) a = r.foldl (fun s b => s ++ blB ++ b) a ++ blB ++ s.foldl (fun s b => s ++ blB ++ b) b
      rw [List.foldl_append, List.foldl_cons, fold_pre]
theorem gE_ne {l : List ByteArray} {n : Int} {a : Nat} (h : a < l.length) : lnE l a (gE l n a) ≠ [] := by rw [gE_on h]; simp [lnE]
theorem jn_gr (l : List ByteArray) (n : Int) (m : Nat) : ∀ a, l.length - a = m → a < l.length → jn (lnE l a (gE l n a)) = jn (l.drop a) := by
  induction m using Nat.strongRecOn with
  | ind m ih =>
    intro a hm ha
    have hb := gx_bd l n a _ (a + 1) rfl (by omega)
    rw [gE_on ha]
    show jn (jn (Doc1.sl l a (gx l n a (a + 1))) :: lnE l (gx l n a (a + 1)) (gE l n (gx l n a (a + 1)))) = _
    by_cases he : gx l n a (a + 1) < l.length
    · rw [show (jn (Doc1.sl l a (gx l n a (a + 1))) :: lnE l (gx l n a (a + 1)) (gE l n (gx l n a (a + 1)))) = [jn (Doc1.sl l a (gx l n a (a + 1)))] ++ lnE l (gx l n a (a + 1)) (gE l n (gx l n a (a + 1))) from rfl]
      rw [jn_app _ (by simp) _ (gE_ne he), ih (l.length - gx l n a (a + 1)) (by omega) _ rfl he, jn_one]
      rw [← jn_app _ (fun e => by have := congrArg List.length e; rw [sl_len hb.2] at this; simp at this; omega) _ (fun e => by have := congrArg List.length e; rw [List.length_drop] at this; simp at this; omega)]
      congr 1
      unfold Doc1.sl
      rw [show l.drop (gx l n a (a + 1)) = (l.drop a).drop (gx l n a (a + 1) - a) by rw [List.drop_drop]; congr 1; omega, List.take_append_drop]
    · rw [gE_end he, show gx l n a (a + 1) = l.length by omega]
      show jn [jn (Doc1.sl l a l.length)] = _
      rw [jn_one, sl_all]
theorem jn_grL {l : List ByteArray} (n : Int) (h : 0 < l.length) : jn (grL l n) = jn l := by unfold grL; rw [jn_gr l n _ 0 rfl h, List.drop_zero]
theorem fg_word : ∀ (w cur r : List UInt8), (∀ c ∈ w, Lib.isSp c = false) → Lib.fieldsGo cur (w ++ r) = Lib.fieldsGo (cur ++ w) r
  | [], cur, r, _ => by simp
  | c :: w, cur, r, h => by
    rw [List.cons_append, Lib.fieldsGo_more _ _ _ (h c (by simp)), fg_word w _ r (fun x hx => h x (by simp [hx]))]
    simp
theorem wrd_sp {s : ByteArray} (h : wrd s = true) : (∀ c ∈ s.data.toList, Lib.isSp c = false) ∧ s.data.toList ≠ [] ∧ ∀ c ∈ s.data.toList, plB c = true := by
  have hz := wrd_size h
  unfold wrd at h
  simp only [Bool.and_eq_true, List.all_eq_true] at h
  refine ⟨fun c hc => ?_, fun e => by rw [szB, e] at hz; simp at hz, fun c hc => ?_⟩
  · have := h.1 c hc
    unfold wdB at this
    simp only [Bool.and_eq_true] at this
    rw [sp_pl c this.1]
    simpa using this.2
  · have := h.1 c hc
    unfold wdB at this
    simp only [Bool.and_eq_true] at this
    exact this.1
theorem fields_jn : ∀ (l : List ByteArray), (∀ s ∈ l, wrd s = true) → Lib.fields (jn l).data.toList = l.map fun s => s.data.toList
  | [], _ => rfl
  | [a], h => by
    have ha := wrd_sp (h a (by simp))
    show Lib.fieldsGo [] a.data.toList = [a.data.toList]
    have := fg_word a.data.toList [] [] ha.1
    rw [List.append_nil, List.nil_append] at this
    rw [this]
    unfold Lib.fieldsGo
    rw [if_neg (by simpa using ha.2.1)]
  | a :: b :: r, h => by
    have ha := wrd_sp (h a (by simp))
    have ih := fields_jn (b :: r) (fun s hs => h s (by simp [hs]))
    have e : jn (a :: b :: r) = a ++ blB ++ jn (b :: r) := by
      rw [show a :: b :: r = [a] ++ (b :: r) from rfl, jn_app _ (by simp) _ (by simp), jn_one]
    unfold Lib.fields at ih ⊢
    rw [e, apdB, apdB, List.append_assoc, fg_word _ _ _ ha.1]
    show Lib.fieldsGo ([] ++ a.data.toList) (32 :: (jn (b :: r)).data.toList) = _
    rw [List.nil_append, Lib.fieldsGo_end _ _ _ (by decide) ha.2.1, ih]
    rfl
theorem jn_pl : ∀ (l : List ByteArray), (∀ s ∈ l, wrd s = true) → ∀ c ∈ (jn l).data.toList, plB c = true
  | [], _, c, hc => by cases hc
  | [a], h, c, hc => (wrd_sp (h a (by simp))).2.2 c hc
  | a :: b :: r, h, c, hc => by
    have e : jn (a :: b :: r) = a ++ blB ++ jn (b :: r) := by
      rw [show a :: b :: r = [a] ++ (b :: r) from rfl, jn_app _ (by simp) _ (by simp), jn_one]
    rw [e, apdB, apdB] at hc
    rcases List.mem_append.1 hc with hc | hc
    · rcases List.mem_append.1 hc with hc | hc
      · exact (wrd_sp (h a (by simp))).2.2 c hc
      · have : c = 32 := (by simpa [blB] using hc)
        subst this; decide
    · exact jn_pl (b :: r) (fun s hs => h s (by simp [hs])) c hc
/-- Words come back. -/
theorem words_back {l : List ByteArray} (h : saidW l = true) (hg : good (jn l).data.toList = true) : wdT (jn l) = (l, true) := by
  obtain ⟨hw, hl⟩ := saidW_iff.1 h
  have hp : wdP (jn l) = jn l := by
    unfold wdP
    rw [if_pos hg]
    have : flt true (jn l).data.toList = (jn l).data.toList := by
      unfold flt
      exact List.filter_eq_self.2 (fun c hc => by rw [jn_pl l hw c hc]; rfl)
    rw [this]
  have hf : wdsL (jn l).data.toList = l := by
    unfold wdsL
    rw [fields_jn l hw, List.map_map]
    conv => rhs; rw [← List.map_id l]
    exact List.map_congr_left (fun s _ => ba_of s)
  unfold wdT
  rw [hp, hf, if_pos ⟨hg, h⟩]
theorem lwx_spec {l : List ByteArray} {m : Int} (f : Nat) : ∀ (k : Nat) (t : Int), 81 - k = f → lwx l m k = (t, true) → ∃ q : Nat, t = (q : Int) ∧ k ≤ q ∧ q ≤ 80 ∧ said l q = true ∧ ((grL l q).length : Int) ≤ m ∧ ∀ j, k ≤ j → j < q → ¬ (said l j = true ∧ ((grL l j).length : Int) ≤ m) := by
  induction f with
  | zero => intro k t hf h; rw [lwx_end (by omega)] at h; cases h
  | succ f ih =>
    intro k t hf h
    by_cases hk : k ≤ 80
    · by_cases hs : said l k = true ∧ ((grL l k).length : Int) ≤ m
      · rw [lwx_yes hk hs] at h
        injection h with h1 h2
        exact ⟨k, h1.symm, Nat.le_refl _, hk, hs.1, hs.2, fun j h1 h2 => by omega⟩
      · rw [lwx_no hk hs] at h
        obtain ⟨q, e1, e2, e3, e4, e5, e6⟩ := ih (k + 1) t (by omega) h
        refine ⟨q, e1, by omega, e3, e4, e5, fun j h1 h2 => ?_⟩
        by_cases hj : j = k
        · subst hj; exact hs
        · exact e6 j (by omega) h2
    · rw [lwx_end hk] at h; cases h

set_option maxRecDepth 100000 in
set_option maxHeartbeats 1000000 in
theorem drawLeast_any (C : Value) (w : World) (hco : CodeAt w.heap.size C w) :
    Calls Tryd.prog 9 #[C] w fun e w' => ∃ v L, ∃ y : Int, e = .returned (.tuple #[v, .int .i64 y]) ∧ SOwn w' w.heap.size v L ∧ L.length ≤ 61 ∧ (∀ x ∈ L, x.size ≤ 9) ∧ 0 ≤ y ∧ y ≤ 8 ∧ Below w.heap.size w w' := by
  have hcur := cur_new w C
  have hco1 := hco.grown (World.grownBy_alloc w (.cells #[C, .int .i64 0, .int .u64 0] 83) (some w.heap.size))
  obtain ⟨a, len, cap, rfl⟩ := hco.shape
  clear hco
  go_enter Tryd.func9, Tryd.ntmps9
  go_wp2_with fail
  refine (words_any _ _ _ _ hcur hco1 (by omega)).mono ?_
  rintro e w2 ⟨v, L, rfl, ho, hl, hsz, hc2, hg2⟩
  have P := hide (pick_any _ _ _ 9 w2 hc2 (hco1.grown hg2) (by omega))
  have HO := hide ho
  have HG := hide hg2
  clear hc2 hg2 hcur hco1 ho
  go_wp2_with fail
  refine P.out.mono ?_
  rintro e w3 ⟨y, rfl, hy0, hy1, hy2, hc3, hg3⟩
  have hy9 := hy2 (by omega)
  have hb3 := below_of_grown (HG.out.trans hg3)
  have ho3 := own_grown HO.out hg3 (fun b hb' e => by have h1 := (World.ownsRow.lt HO.out b hb').1; have := Option.some.inj e; rw [World.size_alloc] at h1; omega)
  have HE := hide (own_mono ho3 (show w.heap.size ≤ (w.alloc (.cells #[Value.slice a len cap, .int .i64 0, .int .u64 0] 83)).heap.size by simp))
  clear P hc3 hg3 hy2 ho3
  go_wp2
  go_ret2
  exact ⟨v, L, y, rfl, HE.out, hl, hsz, hy0, by omega, hb3⟩

set_option maxRecDepth 100000 in
set_option maxHeartbeats 1000000 in
theorem drawWords_any (C : Value) (w : World) (hco : CodeAt w.heap.size C w) :
    Calls Tryd.prog 16 #[C] w fun e w' => ∃ s : ByteArray, e = .returned (.string s) ∧ s.size ≤ 300000 ∧ Below w.heap.size w w' := by
  have hcur := cur_new w C
  have hco1 := hco.grown (World.grownBy_alloc w (.cells #[C, .int .i64 0, .int .u64 0] 83) (some w.heap.size))
  obtain ⟨a, len, cap, rfl⟩ := hco.shape
  clear hco
  go_enter Tryd.func16, Tryd.ntmps16
  go_wp2_with fail
  refine (doc_any _ _ _ _ hcur hco1 (by omega)).mono ?_
  rintro e w2 ⟨s, rfl, hs, hc2, hg2⟩
  have hb2 := below_of_grown hg2
  clear hc2 hg2 hcur hco1
  go_wp2
  go_ret
  exact ⟨s, rfl, hs, hb2⟩

set_option maxRecDepth 100000 in
set_option maxHeartbeats 1000000 in
theorem sameTexts_yes (l : List ByteArray) (a b : Option Addr) (ca cb : Nat) (w : World) (ha : StIn w a ca l) (hb : StIn w b cb l) (hl : l.length ≤ 100000) :
    Calls Tryd.prog 15 #[.slice a l.length ca, .slice b l.length cb] w fun e w' => e = .returned (.bool true) ∧ Below w.heap.size w w' := by
  have HA := hide ha.ce
  have HB := hide hb.ce
  clear ha hb
  have hne : ((l.length : Int) != (l.length : Int)) = false := by simp
  go_enter Tryd.func15, Tryd.ntmps15
  go_wp2
  go_loopw [13] (fun i wr => ∃ k : Nat, k ≤ l.length ∧ i = .int .i64 k ∧ Hid (Below w.heap.size w wr)) (fun i _ => l.length - (intOf i).toNat)
  case atStart => exact ⟨0, Nat.zero_le _, rfl, hide (Below.refl _ _)⟩
  case round =>
    obtain ⟨k, hk, rfl, HW⟩ := hrel
    by_cases hlt : k < l.length
    · obtain ⟨ga, oa, rfl, hga, hca⟩ := HA.out k hlt
      obtain ⟨gb, ob, rfl, hgb, hcb⟩ := HB.out k hlt
      have c1 := (World.cell?_of_block (a := ⟨ga, oa + k, none⟩) (HW.out.block ga hga)).trans hca
      have c2 := (World.cell?_of_block (a := ⟨gb, ob + k, none⟩) (HW.out.block gb hgb)).trans hcb
      have HW2 := hide HW.out.drew
      clear hca hcb
      go_wp2
      go_quiet (fail)
      go_wp2
      go_roundw
      case rel => exact ⟨k + 1, by omega, by go_num, hide (HW.out.trans ⟨rfl, rfl, rfl, Nat.le_refl _, fun _ _ => rfl⟩)⟩
      case measure => simp [intOf]; omega
    · go_wp2
      go_ret
      exact ⟨rfl, HW.out⟩
end Go.Proofs.YtgacajnljplmiabDoor
