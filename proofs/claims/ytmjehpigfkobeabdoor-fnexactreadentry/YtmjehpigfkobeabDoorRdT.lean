/- The model's ReadOp. -/
import Derived.Test.YtmjehpigfkobeabDoorRdI
set_option linter.unusedVariables false
namespace Go.Proofs.YtmjehpigfkobeabDoor.Doc1
/-- How far the model has read: what is left is t. -/
structure MR (s t : ByteArray) (o : List Pt) : Prop where
  sz : t.size ≤ s.size
  pre : ∃ q, sgA [] s.data.toList = (q ++ (sgA [] t.data.toList).1, (sgA [] t.data.toList).2) ∧ q.mapM pM = some o
theorem MR.start (s : ByteArray) : MR s s [] := ⟨Nat.le_refl _, [], by simp, rfl⟩
theorem MR.noend {s t : ByteArray} {o : List Pt} (h : MR s t o) (h0 : t.data.toList ≠ []) (hn : 59 ∉ t.data.toList) : rdO s.data.toList = ([], false) := by
  obtain ⟨q, e, hm⟩ := h.pre
  refine rd_rest ?_
  rw [e, sgA_none _ [] (fun c hc e => hn (e ▸ hc))]
  exact h0
theorem MR.seg {s t : ByteArray} {o : List Pt} (h : MR s t o) {a r : List UInt8} (ht : t.data.toList = a ++ 59 :: r) (ha : 59 ∉ a) : ∃ q, sgA [] s.data.toList = (q ++ a :: (sgA [] r).1, (sgA [] r).2) ∧ q.mapM pM = some o := by
  obtain ⟨q, e, hm⟩ := h.pre
  refine ⟨q, ?_, hm⟩
  rw [e, ht, sgA_seg a r (fun c hc e => ha (e ▸ hc))]
theorem gS_none {a : List UInt8} (h : pM a = none) : gS a = none := by rw [← gS_M a, h]; rfl
theorem MR.fail {s t : ByteArray} {o : List Pt} (h : MR s t o) {a r : List UInt8} (ht : t.data.toList = a ++ 59 :: r) (ha : 59 ∉ a) (hx : pM a = none) : rdO s.data.toList = ([], false) := by
  obtain ⟨q, e, hm⟩ := h.seg ht ha
  exact rd_fail (a := q) (b := (sgA [] r).1) (x := a) (by rw [e]) (gS_none hx)
theorem MR.step {s t : ByteArray} {o : List Pt} (h : MR s t o) {a r : List UInt8} (ht : t.data.toList = a ++ 59 :: r) (ha : 59 ∉ a) {p : Pt} (hx : pM a = some p) : MR s ⟨r.toArray⟩ (o ++ [p]) := by
  obtain ⟨q, e, hm⟩ := h.seg ht ha
  refine ⟨?_, q ++ [a], ?_, mapM_snoc _ _ _ _ _ hm hx⟩
  · have h1 := h.sz
    rw [sz_list, ht, List.length_append, List.length_cons] at h1
    rw [sz_list]
    show r.length ≤ _
    omega
  · rw [e]
    show _ = ((q ++ [a]) ++ (sgA [] r).1, _)
    simp
theorem MR.long {s t : ByteArray} {o : List Pt} (h : MR s t o) (ho : 60 < o.length) : rdO s.data.toList = ([], false) := by
  obtain ⟨q, e, hm⟩ := h.pre
  have := mapM_len _ _ _ hm
  refine rd_long ?_
  rw [e]
  simp only [List.length_append]
  omega
theorem MR.done {s t : ByteArray} {o : List Pt} (h : MR s t o) (h0 : t.data.toList = []) : rdO s.data.toList = if goodO o then (o, true) else ([], false) := by
  obtain ⟨q, e, hm⟩ := h.pre
  rw [h0, sgA] at e
  refine rd_done (f := pM) gS_M ?_ ?_
  · rw [e]
  · rw [e]; simpa using hm
theorem pM_cons (c : UInt8) (t : List UInt8) : pM (c :: t) = if t = [] then none else if c = 61 then (if numS t = 0 then none else some ⟨numS t, ba [], ba []⟩) else if c = 43 then some (pp t) else if c = 45 then some (dp t) else none := rfl
theorem pM_short {a : List UInt8} (h : a.length < 2) : pM a = none := by
  cases a with
  | nil => rfl
  | cons c t =>
    rw [pM_cons, if_pos]
    rw [List.length_cons] at h
    exact List.eq_nil_of_length_eq_zero (by omega)
end Go.Proofs.YtmjehpigfkobeabDoor.Doc1

namespace Go.Proofs.YtmjehpigfkobeabDoor
open Go.RowKit Go.Shelf
open Doc1

attribute [local go_sem] Oper.semAt_some

theorem goodOpS_at {w : World} {B : Nat} {v : Value} {l : List Pt} (h : POwn w B v l) (hT : Tab w) (hs : SzO l) (hl : l.length ≤ 1048576) :
    Calls Tryd.prog 54 #[v] w fun e w' => e = .returned (.bool (goodO l)) ∧ Below w.heap.size w w' := by
  obtain ⟨aw, g, cap, rfl, hp⟩ := own_pin h hT hs hl
  exact goodOpS hp
theorem set_grownR (w : World) (b j : Nat) (x : Value) : w.grownBy (w.setCell ⟨b, j, none⟩ x) (some b) :=
  ⟨rfl, rfl, rfl, by simp [World.setCell], fun k _ hk => Below.heap_setCell _ _ _ _ (fun e => hk (by rw [e]))⟩
theorem own_boxed {w2 : World} {B : Nat} {v : Value} {o : List Pt} (h : POwn w2 B v o) (cs : Array Value) (T : TypeId) (j : Nat) (x : Value) : POwn ((w2.alloc (.cells cs T)).setCell ⟨w2.heap.size, j, none⟩ x) B v o := by
  have h1 : POwn (w2.alloc (.cells cs T)) B v o := h.alloc _
  refine h1.kept (row := some w2.heap.size) (set_grownR _ _ _ _) (Or.inr fun c => ?_)
  have := (h.lt _ c).2
  omega
/-- How far the model has read, in the world. -/
structure SW (w : World) (s t : ByteArray) (v : Value) (o : List Pt) (wr : World) : Prop where
  mr : MR s t o
  own : POwn wr w.heap.size v o
  bel : Below w.heap.size w wr
  few : o.length ≤ 61
  sz : SzO o

set_option maxRecDepth 100000 in
set_option maxHeartbeats 16000000 in
theorem l18Read_any (s : ByteArray) (w : World) (hs : s.size ≤ 1048576) (hT : Tab w) :
    Calls Tryd.prog 22 #[.string s] w fun e w' => ∃ v, e = .returned (.tuple #[v, .bool (rdO s.data.toList).2]) ∧ POwn w' w.heap.size v (rdO s.data.toList).1 ∧ Below w.heap.size w w' := by
  obtain ⟨u0, hu0, hz0, hz1, hz2⟩ := info_parts Tryd.infoPart
  have HT := hide hT
  have CU := hide (fun (t : ByteArray) (ht : t.size ≤ 1048576) (w' : World) => cutS_any t 59 w' ht)
  clear hT
  go_enter Tryd.func22, Tryd.ntmps22
  go_wp2
  go_loopw [0, 4] (fun x v0 wr => ∃ t v o, v = v0 ∧ x = .string t ∧ Hid (SW w s t v o wr)) (fun x _ _ => (match x with | .string t => t.size | _ => 0))
  case atStart => exact ⟨s, _, [], rfl, rfl, hide ⟨MR.start s, World.ownsRow_nil _ _ _ _, Below.refl _ _, by simp, fun i hi => by simp at hi⟩⟩
  case round =>
    obtain ⟨t, v, o, rfl, rfl, H⟩ := hrel
    have hts := H.out.mr.sz
    have hfew := H.out.few
    have HO := hide H.out.own
    have HB := hide H.out.bel
    obtain ⟨av, cv, rfl, hvc, hvm⟩ := own_shp HO.out
    by_cases h0 : t.size = 0
    · have hz : t.toList.isEmpty = true := bsz0 h0
      have hr0 := H.out.mr.done (List.eq_nil_of_length_eq_zero (by rw [← szB]; exact h0))
      have GO := goodOpS_at H.out.own (HT.out.below H.out.bel) H.out.sz (by omega)
      cases hg : goodO o with
      | true =>
        rw [hg] at GO hr0
        rw [if_pos rfl] at hr0
        have hr := hide hr0
        replace GO := hide GO
        clear hr0
        go_wp2_with (go_at_call 54; refine GO.out.mono ?_; rintro e w2 ⟨rfl, hb2⟩)
        have ho2 : POwn w2 w.heap.size (.slice av o.length cv) o := own_below HO.out hb2
        have hbe : Below w.heap.size w w2 := HB.out.trans (hb2.mono HB.out.size)
        go_ret2
        rw [hr.out]
        exact ⟨_, rfl, ho2, hbe⟩
      | false =>
        rw [hg] at GO hr0
        rw [if_neg (by simp)] at hr0
        have hr := hide hr0
        replace GO := hide GO
        clear hr0
        go_wp2_with (go_at_call 54; refine GO.out.mono ?_; rintro e w2 ⟨rfl, hb2⟩)
        have hbe : Below w.heap.size w w2 := HB.out.trans (hb2.mono HB.out.size)
        go_ret2
        rw [hr.out]
        exact ⟨_, rfl, World.ownsRow_nil _ _ _ _, hbe⟩
    · have hz : t.toList.isEmpty = false := bszn h0
      have hne : t.data.toList ≠ [] := fun c => h0 (by rw [szB, c]; rfl)
      by_cases h61 : 60 < o.length
      · have hr := hide (H.out.mr.long h61)
        have GO := goodOpS_at H.out.own (HT.out.below H.out.bel) H.out.sz (by omega)
        have hg : goodO o = false := by
          cases hg : goodO o with
          | false => rfl
          | true => have := goodO_few hg; omega
        rw [hg] at GO
        replace GO := hide GO
        go_wp2_with (go_at_call 54; refine GO.out.mono ?_; rintro e w2 ⟨rfl, hb2⟩)
        have hbe : Below w.heap.size w w2 := HB.out.trans (hb2.mono HB.out.size)
        go_ret2
        rw [hr.out]
        exact ⟨_, rfl, World.ownsRow_nil _ _ _ _, hbe⟩
      · have CT := CU.out t (by omega)
        rcases ctL_is (b := 59) t.data.toList with ⟨hno, e⟩ | ⟨a, r, hta, ha, e⟩
        · have hr := hide (H.out.mr.noend hne hno)
          rw [e] at CT
          replace CT := hide CT
          clear e
          go_wp2_with (go_at_call 21; refine (CT.out _).mono ?_; rintro e w2 ⟨rfl, hb2⟩)
          have hbe : Below w.heap.size w w2 := HB.out.trans (hb2.mono HB.out.size)
          go_ret2
          rw [hr.out]
          exact ⟨_, rfl, World.ownsRow_nil _ _ _ _, hbe⟩
        · rw [e] at CT
          have hal : a.length + 1 + r.length ≤ 1048576 := by
            have := hts
            rw [szB, hta, List.length_append, List.length_cons] at this
            omega
          have hA : (lB a).size = a.length := lB_size a
          have hR : (lB r).size = r.length := lB_size r
          have hRt : (lB r).size < t.size := by rw [hR, szB, hta, List.length_append, List.length_cons]; omega
          have HST := hide (fun p (hx : pM a = some p) => H.out.mr.step hta ha hx)
          have HFA := hide (fun (hx : pM a = none) => H.out.mr.fail hta ha hx)
          have hAl : (lB a).data.toList = a := rfl
          obtain ⟨A, hAe⟩ : ∃ A, lB a = A := ⟨_, rfl⟩
          obtain ⟨R, hRe⟩ : ∃ R, lB r = R := ⟨_, rfl⟩
          have hRe2 : (⟨r.toArray⟩ : ByteArray) = R := hRe
          rw [hAe] at CT hA hAl
          rw [hRe] at CT hR hRt
          rw [hRe2] at HST
          replace CT := hide CT
          clear e hta ha hAe hRe hRe2
          by_cases h2 : A.size < 2
          · have hr := hide (HFA.out (pM_short (by rw [← hA]; exact h2)))
            go_wp2_with (go_at_call 21; refine (CT.out _).mono ?_; rintro e w2 ⟨rfl, hb2⟩)
            have hbe : Below w.heap.size w w2 := HB.out.trans (hb2.mono HB.out.size)
            go_ret2
            rw [hr.out]
            exact ⟨_, rfl, World.ownsRow_nil _ _ _ _, hbe⟩
          · have hp0 : 0 < A.size := by omega
            have hc := u8_lt256 A[0]
            have hAs : A.size ≤ 1048576 := by omega
            have hRs : R.size ≤ 1048576 := by omega
            have hcons := drop_cons A 0 hp0
            rw [List.drop_zero] at hcons
            have he := ext_drop A 1
            obtain ⟨X, hX⟩ : ∃ X, A.extract 1 A.size = X := ⟨_, rfl⟩
            have hXl : A.data.toList.drop 1 = X.data.toList := by rw [← hX, he]; rfl
            have hXs : X.size = A.size - 1 := by rw [szB, ← hXl, List.length_drop, ← szB]
            have hXe : X.toList.isEmpty = false := bszn (by omega)
            have hXn : X.data.toList ≠ [] := fun c => by have h1 := congrArg List.length c; rw [← szB, List.length_nil] at h1; omega
            rw [Nat.zero_add, hXl] at hcons
            subst hAl
            have hpm := pM_cons A[0] X.data.toList
            rw [if_neg hXn, ← hcons] at hpm
            have HPM := hide hpm
            have hXsz : X.size ≤ 1048576 := by omega
            clear hcons he hXl hpm hXn hA hal hR
            by_cases c1 : A[0] = 61
            · have f0 : A[0].toNat = 61 := by rw [c1]; rfl
              have f1 : ((A[0].toNat : Int) == 61) = true := by rw [f0]; rfl
              have NU := hide (fun w' => numberS_any X w' hXsz)
              have HPQ := HPM.out
              rw [if_pos c1] at HPQ
              generalize numS X.data.toList = n at *
              by_cases hn : n = 0
              · rw [if_pos hn] at HPQ
                have hr := hide (HFA.out HPQ)
                subst hn
                clear c1 HPQ HPM
                go_wp2_with (first | (go_at_call 21; refine (CT.out _).mono ?_; rintro e w2 ⟨rfl, hb2⟩; have HO2 : Hid (POwn w2 w.heap.size (.slice av o.length cv) o) := hide (own_below HO.out hb2); have HBL2 : Hid (Below w.heap.size w w2) := hide (HB.out.trans (hb2.mono HB.out.size)); have hs2 := hb2.size; have hsb := HB.out.size; clear hb2) | (go_at_call 23; refine (NU.out _).mono ?_; rintro e w3 ⟨rfl, hw⟩; replace hw := hw.symm; subst hw))
                have hbe := HBL2.out.alloc (by omega) (.cells #[.int .i64 0, .string ⟨#[]⟩, .string ⟨#[]⟩] 83)
                go_ret2
                rw [hr.out]
                exact ⟨_, rfl, World.ownsRow_nil _ _ _ _, hbe⟩
              · rw [if_neg hn] at HPQ
                have hps : (⟨n, ba [], ba []⟩ : Pt).put.size ≤ 1048576 ∧ (⟨n, ba [], ba []⟩ : Pt).drop.size ≤ 1048576 := by
                  have := ba_szl []
                  show (ba []).size ≤ _ ∧ (ba []).size ≤ _
                  rw [this]; simp
                have HX := hide HPQ
                clear c1 HPQ HPM
                have fn : ((n : Int) == 0) = false := by rw [beq_eq_false_iff_ne]; exact hn
                go_wp2_with (first | (go_at_call 21; refine (CT.out _).mono ?_; rintro e w2 ⟨rfl, hb2⟩; have HO2 : Hid (POwn w2 w.heap.size (.slice av o.length cv) o) := hide (own_below HO.out hb2); have HBL2 : Hid (Below w.heap.size w w2) := hide (HB.out.trans (hb2.mono HB.out.size)); have hs2 := hb2.size; have hsb := HB.out.size; clear hb2) | (go_at_call 23; refine (NU.out _).mono ?_; rintro e w3 ⟨rfl, hw⟩; replace hw := hw.symm; subst hw) | (at_builtin; refine wpList_append_own _ rfl _ _ 22 rfl w.heap.size 83 u0 (.agg #[.int .i64 0, .string ⟨#[]⟩, .string ⟨#[]⟩]) 3 40 Tryd.underlying22 hu0 hz0 hz1 hz2 rfl (by decide) _ _ _ rfl ((HO2.out.alloc _).alloc _) ⟨w2.heap.size + 1, 0, none⟩ 1 1 [.int .i64 n, .string ⟨#[]⟩, .string ⟨#[]⟩] rfl rfl ?c1 ?c2 ?c3 ?c4 ?c5 ?_))
                case c1 => exact cell3_at _ _ (by simp) _ _ _ _
                case c2 => intro u hu; simp at hu; rcases hu with rfl | rfl | rfl <;> rfl
                case c3 => unfold maxLen; omega
                case c4 => omega
                case c5 => simp; omega
                intro v3 w3 hown3 hgrow3 _
                have hlow := fun b hb' => (HO2.out.lt b hb').1
                have hbel3 : Below w.heap.size w w3 := ((HBL2.out.alloc (by omega) _).alloc (by simp; omega) _).grown hgrow3 (by simp; omega) (fun b hb' => by have := hlow b hb'; omega)
                have how3 : POwn w3 w.heap.size v3 (o ++ [⟨n, ba [], ba []⟩]) := POwn.app hown3
                have HN : Hid (SW w s R v3 (o ++ [⟨n, ba [], ba []⟩]) w3) := hide ⟨HST.out _ (HX.out), how3, hbel3, by simp; omega, H.out.sz.snoc hps⟩
                clear hown3 hgrow3 hlow hbel3 how3
                go_wp2
                go_roundw
                case rel => exact ⟨R, v3, o ++ [⟨n, ba [], ba []⟩], rfl, rfl, HN⟩
                case measure => exact hRt
            · have HPQ := HPM.out
              rw [if_neg c1] at HPQ
              have f1 : ((A[0].toNat : Int) == 61) = false := by rw [beq_eq_false_iff_ne]; intro e; exact c1 (UInt8.toNat_inj.1 (show A[0].toNat = 61 by omega))
              by_cases c2 : A[0] = 43
              · rw [if_pos c2] at HPQ
                have f0 : A[0].toNat = 43 := by rw [c2]; rfl
                have f2 : ((A[0].toNat : Int) == 43) = true := by rw [f0]; rfl
                have hps : (pp X.data.toList).put.size ≤ 1048576 ∧ (pp X.data.toList).drop.size ≤ 1048576 := ⟨hXsz, Nat.zero_le _⟩
                have HX := hide HPQ
                clear c1 c2 HPQ HPM
                go_wp2_with (first | (go_at_call 21; refine (CT.out _).mono ?_; rintro e w2 ⟨rfl, hb2⟩; have HO2 : Hid (POwn w2 w.heap.size (.slice av o.length cv) o) := hide (own_below HO.out hb2); have HBL2 : Hid (Below w.heap.size w w2) := hide (HB.out.trans (hb2.mono HB.out.size)); have hs2 := hb2.size; have hsb := HB.out.size; clear hb2) | (at_builtin; refine wpList_append_own _ rfl _ _ 22 rfl w.heap.size 83 u0 (.agg #[.int .i64 0, .string ⟨#[]⟩, .string ⟨#[]⟩]) 3 40 Tryd.underlying22 hu0 hz0 hz1 hz2 rfl (by decide) _ _ _ rfl ((HO2.out.alloc _).alloc _) ⟨w2.heap.size + 1, 0, none⟩ 1 1 [.int .i64 0, .string X, .string ⟨#[]⟩] rfl rfl ?c1 ?c2 ?c3 ?c4 ?c5 ?_))
                case c1 => exact cell3_at _ _ (by simp) _ _ _ _
                case c2 => intro u hu; simp at hu; rcases hu with rfl | rfl | rfl <;> rfl
                case c3 => unfold maxLen; omega
                case c4 => omega
                case c5 => simp; omega
                intro v3 w3 hown3 hgrow3 _
                have hlow := fun b hb' => (HO2.out.lt b hb').1
                have hbel3 : Below w.heap.size w w3 := ((HBL2.out.alloc (by omega) _).alloc (by simp; omega) _).grown hgrow3 (by simp; omega) (fun b hb' => by have := hlow b hb'; omega)
                have how3 : POwn w3 w.heap.size v3 (o ++ [pp X.data.toList]) := POwn.app hown3
                have HN : Hid (SW w s R v3 (o ++ [pp X.data.toList]) w3) := hide ⟨HST.out _ (HX.out), how3, hbel3, by simp; omega, H.out.sz.snoc hps⟩
                clear hown3 hgrow3 hlow hbel3 how3
                go_wp2
                go_roundw
                case rel => exact ⟨R, v3, o ++ [pp X.data.toList], rfl, rfl, HN⟩
                case measure => exact hRt
              · rw [if_neg c2] at HPQ
                have f2 : ((A[0].toNat : Int) == 43) = false := by rw [beq_eq_false_iff_ne]; intro e; exact c2 (UInt8.toNat_inj.1 (show A[0].toNat = 43 by omega))
                by_cases c3 : A[0] = 45
                · rw [if_pos c3] at HPQ
                  have f0 : A[0].toNat = 45 := by rw [c3]; rfl
                  have f3 : ((A[0].toNat : Int) == 45) = true := by rw [f0]; rfl
                  have hps : (dp X.data.toList).put.size ≤ 1048576 ∧ (dp X.data.toList).drop.size ≤ 1048576 := ⟨Nat.zero_le _, hXsz⟩
                  have HX := hide HPQ
                  clear c1 c2 c3 HPQ HPM
                  go_wp2_with (first | (go_at_call 21; refine (CT.out _).mono ?_; rintro e w2 ⟨rfl, hb2⟩; have HO2 : Hid (POwn w2 w.heap.size (.slice av o.length cv) o) := hide (own_below HO.out hb2); have HBL2 : Hid (Below w.heap.size w w2) := hide (HB.out.trans (hb2.mono HB.out.size)); have hs2 := hb2.size; have hsb := HB.out.size; clear hb2) | (at_builtin; refine wpList_append_own _ rfl _ _ 22 rfl w.heap.size 83 u0 (.agg #[.int .i64 0, .string ⟨#[]⟩, .string ⟨#[]⟩]) 3 40 Tryd.underlying22 hu0 hz0 hz1 hz2 rfl (by decide) _ _ _ rfl ((HO2.out.alloc _).alloc _) ⟨w2.heap.size + 1, 0, none⟩ 1 1 [.int .i64 0, .string ⟨#[]⟩, .string X] rfl rfl ?c1 ?c2 ?c3 ?c4 ?c5 ?_))
                  case c1 => exact cell3_at _ _ (by simp) _ _ _ _
                  case c2 => intro u hu; simp at hu; rcases hu with rfl | rfl | rfl <;> rfl
                  case c3 => unfold maxLen; omega
                  case c4 => omega
                  case c5 => simp; omega
                  intro v3 w3 hown3 hgrow3 _
                  have hlow := fun b hb' => (HO2.out.lt b hb').1
                  have hbel3 : Below w.heap.size w w3 := ((HBL2.out.alloc (by omega) _).alloc (by simp; omega) _).grown hgrow3 (by simp; omega) (fun b hb' => by have := hlow b hb'; omega)
                  have how3 : POwn w3 w.heap.size v3 (o ++ [dp X.data.toList]) := POwn.app hown3
                  have HN : Hid (SW w s R v3 (o ++ [dp X.data.toList]) w3) := hide ⟨HST.out _ (HX.out), how3, hbel3, by simp; omega, H.out.sz.snoc hps⟩
                  clear hown3 hgrow3 hlow hbel3 how3
                  go_wp2
                  go_roundw
                  case rel => exact ⟨R, v3, o ++ [dp X.data.toList], rfl, rfl, HN⟩
                  case measure => exact hRt
                · rw [if_neg c3] at HPQ
                  have f3 : ((A[0].toNat : Int) == 45) = false := by rw [beq_eq_false_iff_ne]; intro e; exact c3 (UInt8.toNat_inj.1 (show A[0].toNat = 45 by omega))
                  have hr := hide (HFA.out HPQ)
                  clear c1 c2 c3 HPQ HPM
                  go_wp2_with (go_at_call 21; refine (CT.out _).mono ?_; rintro e w2 ⟨rfl, hb2⟩; have HO2 : Hid (POwn w2 w.heap.size (.slice av o.length cv) o) := hide (own_below HO.out hb2); have HBL2 : Hid (Below w.heap.size w w2) := hide (HB.out.trans (hb2.mono HB.out.size)); have hs2 := hb2.size; have hsb := HB.out.size; clear hb2)
                  have hbe := HBL2.out.alloc (by omega) (.cells #[.int .i64 0, .string ⟨#[]⟩, .string ⟨#[]⟩] 83)
                  go_ret2
                  rw [hr.out]
                  exact ⟨_, rfl, World.ownsRow_nil _ _ _ _, hbe⟩

end Go.Proofs.YtmjehpigfkobeabDoor
