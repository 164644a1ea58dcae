/- ChangeBetween, of both. -/
import Derived.Test.YtfklbhejfbfmeaaDoorSrvN
import Derived.Test.YtfklbhejfbfmeaaDoorCmpWM
import Derived.Test.YtfklbhejfbfmeaaDoorCmpN
set_option linter.unusedVariables false
namespace Go.Proofs.YtfklbhejfbfmeaaDoor
open Go.RowKit
open Doc1

theorem cut_midE (a : Option Addr) (n cap x y : Nat) (h1 : x ≤ y) (h2 : y ≤ cap) : ∃ a', (∀ w : World, (Instr.slice 22 (.slice a n cap) (some (.int .i64 (x : Int))) (some (.int .i64 (y : Int))) none).run Tryd.prog w = .ok (.slice a' (y - x) (cap - x)) w) ∧ ∀ g o, a = some ⟨g, o, none⟩ → x < y → a' = some ⟨g, o + x * 3, none⟩ := by
  cases a with
  | none =>
    refine ⟨none, fun w => ?_, fun g o h => by cases h⟩
    simp [go_sem, Tryd.underlying22, h1, h2]
  | some ad =>
    by_cases hx : cap = x
    · refine ⟨some ad, fun w => ?_, fun g o h hl => by omega⟩
      obtain rfl : y = x := by omega
      simp [go_sem, Tryd.underlying22, hx]
    · refine ⟨some (ad.add (x * 3)), fun w => ?_, fun g o h hl => ?_⟩
      · simp [go_sem, Tryd.underlying22, h1, h2, hx]
      · cases h; rw [addr_plus]
theorem good_szs {l : List Pt} (h : goodO l = true) : ∀ i (hi : i < l.length), l[i].put.size ≤ 1048576 ∧ l[i].drop.size ≤ 1048576 := fun i hi => by
  have := pk_sizes (goodO_pk h _ (List.getElem_mem hi))
  exact ⟨by omega, by omega⟩
theorem all_gpK {l : List Pt} (h : ∀ p ∈ l, pk p ≠ 0) : l.all gp = true := List.all_eq_true.2 (fun p hp => by rw [gp_pk]; exact decide_eq_true (h p hp))
theorem keepGood {n : Nat} (h : n ≤ 300) : goodO (keepL (n : Int)) = true := by
  unfold keepL
  split
  · rename_i h1
    have hp : ∀ p ∈ [(⟨(n : Int), ⟨#[]⟩, ⟨#[]⟩⟩ : Pt)], pk p ≠ 0 := fun p hm => by
      rw [List.mem_singleton] at hm
      subst hm
      unfold pk
      rw [if_pos ⟨rfl, rfl, h1⟩]
      omega
    unfold goodO
    rw [all_gpK hp]
    have e0 : (⟨#[]⟩ : ByteArray).size = 0 := rfl
    simp [tkL, mkL, tk1, mk1, e0]
    omega
  · rfl
theorem cmpGood {a b : List Pt} (h : (cmpO a b).2 = true) : goodO (cmpO a b).1 = true := by
  unfold cmpO at h ⊢
  by_cases hg : goodO a = true ∧ goodO b = true
  · rw [if_pos hg] at h ⊢
    cases hc : cmpS (stL a) (stL b) with
    | none => rw [hc] at h; cases h
    | some T =>
      rw [hc] at h
      simp only at h ⊢
      by_cases ht : goodO (gath g0 T).out = true
      · rw [if_pos ht]; exact ht
      · rw [if_neg ht] at h; cases h
  · rw [if_neg hg] at h; cases h
/-- So many entries behind a version put together. -/
def cbF (s : ByteArray) (l : List En) (f : Nat) : Nat → Option (List Pt)
  | 0 => some (keepL ((tx s l f).size : Int))
  | k + 1 => match cbF s l f k with
    | none => none
    | some o => if (cmpO o (eAt l (f + k)).op).2 = true then some (cmpO o (eAt l (f + k)).op).1 else none
theorem cbF_yes {s : ByteArray} {l : List En} {f k : Nat} {o : List Pt} (h : cbF s l f k = some o) (h2 : (cmpO o (eAt l (f + k)).op).2 = true) : cbF s l f (k + 1) = some (cmpO o (eAt l (f + k)).op).1 := by
  unfold cbF; rw [h]; simp only; rw [if_pos h2]
theorem cbF_stop {s : ByteArray} {l : List En} {f k : Nat} (h : cbF s l f k = none) : ∀ j, k ≤ j → cbF s l f j = none := by
  intro j hj
  induction j with
  | zero => obtain rfl : k = 0 := by omega
            exact h
  | succ j ih =>
    by_cases e : k = j + 1
    · subst e; exact h
    · unfold cbF; rw [ih (by omega)]
theorem cbF_no {s : ByteArray} {l : List En} {f k : Nat} {o : List Pt} (h : cbF s l f k = some o) (h2 : (cmpO o (eAt l (f + k)).op).2 = false) : cbF s l f (k + 1) = none := by
  unfold cbF; rw [h]; simp only; rw [h2]; rfl
theorem cb_good {s : ByteArray} {l : List En} {f : Nat} (hs : (tx s l f).size ≤ 300) : ∀ k o, cbF s l f k = some o → goodO o = true
  | 0, o, h => by
    have : keepL ((tx s l f).size : Int) = o := Option.some.inj h
    rw [← this]; exact keepGood hs
  | k + 1, o, h => by
    unfold cbF at h
    cases hc : cbF s l f k with
    | none => rw [hc] at h; cases h
    | some q =>
      rw [hc] at h
      simp only at h
      by_cases h2 : (cmpO q (eAt l (f + k)).op).2 = true
      · rw [if_pos h2] at h
        rw [← Option.some.inj h]
        exact cmpGood h2
      · rw [if_neg h2] at h; cases h
/-- ChangeBetween's answer. -/
noncomputable def cbC (s t : ByteArray) (l : List En) (f e : Int) : Bool := goodSv s t l && (decide (0 ≤ e ∧ e ≤ (l.length : Int)) && decide (0 ≤ f ∧ f ≤ e))
noncomputable def cbO (s t : ByteArray) (l : List En) (f e : Int) : Option (List Pt) := if cbC s t l f e = true then cbF s l f.toNat (e.toNat - f.toNat) else none
noncomputable def cbL (s t : ByteArray) (l : List En) (f e : Int) : List Pt := (cbO s t l f e).getD []
noncomputable def cbB (s t : ByteArray) (l : List En) (f e : Int) : Bool := (cbO s t l f e).isSome
/-- A row of parts between two blocks. -/
def PX (lo hi : Nat) (w : World) (v : Value) (l : List Pt) : Prop := PR w v l ∧ ∀ y, v.ownBlock = some y → lo ≤ y ∧ y < hi
def PK (K lo hi : Nat) (w : World) (v : Value) (n : Nat) : Prop := PMq K w v n ∧ ∀ y, v.ownBlock = some y → lo ≤ y ∧ y < hi
theorem PX.later {lo hi : Nat} {w w1 : World} {v : Value} {l : List Pt} (h : PX lo hi w v l) (hb : Below w.heap.size w w1) : PX lo hi w1 v l := ⟨h.1.later hb, h.2⟩
theorem PX.out {lo hi a b : Nat} {w w1 : World} {v : Value} {l : List Pt} (h : PX lo hi w v l) (ho : Out (Iv a b) w w1) (hd : hi ≤ a ∨ b ≤ lo) : PX lo hi w1 v l :=
  ⟨h.1.keep ho.size (fun y hy hl => ho.block y hl (fun c => by have := h.2 y hy; have := c.1; have := c.2; omega)), h.2⟩
theorem PX.shp {lo hi : Nat} {w : World} {v : Value} {l : List Pt} (h : PX lo hi w v l) : ∃ a c, v = .slice a l.length c := h.1.shp
theorem PK.later {K lo hi : Nat} {w w1 : World} {v : Value} {n : Nat} (h : PK K lo hi w v n) (hb : Below w.heap.size w w1) : PK K lo hi w1 v n := ⟨h.1.later hb, h.2⟩
theorem PK.out {K lo hi a b : Nat} {w w1 : World} {v : Value} {n : Nat} (h : PK K lo hi w v n) (ho : Out (Iv a b) w w1) (hd : hi ≤ a ∨ b ≤ lo) : PK K lo hi w1 v n :=
  ⟨h.1.keep ho.size (fun y hy hl => ho.block y hl (fun c => by have := h.2 y hy; have := c.1; have := c.2; omega)), h.2⟩
theorem eqPX {lo hi lo' hi' : Nat} {w : World} {v v' : Value} {l : List Pt} (h : PX lo hi w v l) (h' : PX lo' hi' w v' l) (hm : l.length ≤ 10000000) :
    Calls Tryd.prog 29 #[v, v'] w fun e w' => e = .returned (.bool true) ∧ Below w.heap.size w w' := eqP_r h.1 h'.1 hm
theorem markPX {lo hi : Nat} {w : World} {v : Value} {l : List Pt} (h : PX lo hi w v l) (hm : l.length ≤ 10000000) (K : Nat) (hK : 0 < K ∧ K + l.length * 3 ≤ 500000000) :
    Calls Tryd.prog 30 #[v, .int .i64 (K : Int)] w fun e w' => e = .returned (.int .i64 (K + l.length * 3 : Nat)) ∧ Out (Iv lo hi) w w' ∧ PK K lo hi w' v l.length := by
  refine (markP_r h.1 hm K ⟨hK.1, by omega⟩).mono ?_
  rintro e w' ⟨rfl, hg, hq⟩
  exact ⟨rfl, Out.grown hg (fun y hy => h.2 y hy), hq, h.2⟩
theorem heldPX {lo hi K n : Nat} {w : World} {v : Value} (h : PK K lo hi w v n) (hm : n ≤ 10000000) (hK : 0 < K ∧ K + n * 3 ≤ 500000000) :
    Calls Tryd.prog 31 #[v, .int .i64 (K : Int)] w fun e w' => e = .returned (.int .i64 (K + n * 3 : Nat)) ∧ Below w.heap.size w w' := heldP_q h.1 hm ⟨hK.1, by omega⟩
def PPost (w : World) (L : List Pt) (b : Bool) (e : Ending) (w' : World) : Prop :=
  ∃ x, e = .returned (.tuple #[x, .bool b]) ∧ PX w.heap.size w'.heap.size w' x L ∧ Below w.heap.size w w'
theorem px_nil (lo hi : Nat) (w : World) : PX lo hi w (.slice none 0 0) [] := ⟨.inl ⟨rfl, none, 0, rfl, by unfold maxLen; omega⟩, fun y hy => by cases hy⟩

set_option maxRecDepth 100000 in
set_option maxHeartbeats 8000000 in
theorem betweenS {S : Nat → Prop} {w : World} {v : Value} {s t : ByteArray} {l : List En} (f e : Int) (h : ER S w v l) (hm : SmE l) (hss : s.size ≤ 1048576) (hT : Tab w) :
    Calls Tryd.prog 27 #[.agg #[.string s, .string t, v], .int .i64 f, .int .i64 e] w (PPost w (cbL s t l f e) (cbB s t l f e)) := by
  obtain ⟨a, cap, g, off, vs, rfl, hE⟩ := h.ein
  obtain ⟨w1, hw1⟩ : ∃ w1, w1 = w.alloc (.cells #[.string s, .string t, .slice a l.length cap] 24) := ⟨_, rfl⟩
  have hb1 : Below w.heap.size w w1 := by rw [hw1]; exact (Below.refl _ _).alloc (Nat.le_refl _) _
  have cb1 : CB w1 w.heap.size #[.string s, .string t, .slice a l.length cap] := by rw [hw1]; exact CB.new _ _ _
  have GS := hide (goodSvS (s := s) (t := t) (h.later hb1) hm hss)
  have I1 := hide (fun w => l1In_any e 0 (l.length : Int) w)
  have I2 := hide (fun w => l1In_any f 0 e w)
  have HEI := hide (hE.later hb1)
  have HH := hide (h.later hb1)
  have HM := hide hm
  have HB := hide hb1
  have HC := hide cb1
  have HT1 := hide (hT.below hb1)
  have hlM := hm.1
  have hle := hE.le
  have h0w : 0 < w.heap.size := Nat.lt_of_le_of_lt (Nat.zero_le _) hT.lt
  unfold cbL cbB cbO
  clear h hm hb1 cb1 hE hT
  cases hg : goodSv s t l with
  | false =>
    have hcb : cbC s t l f e = false := by unfold cbC; rw [hg]; rfl
    rw [if_neg (by rw [hcb]; simp)]
    simp only [Option.getD_none, Option.isSome_none]
    rw [hg] at GS
    go_enter Tryd.func27, Tryd.ntmps27
    go_wp2_with fail
    rw [← hw1]
    clear hw1
    refine GS.out.mono ?_
    rintro e' w2 ⟨rfl, hb2⟩
    have HB2 := hide (HB.out.trans (hb2.mono HB.out.size))
    clear hb2 hg hcb
    go_wp2
    go_ret2
    exact ⟨_, rfl, px_nil _ _ _, HB2.out⟩
  | true =>
    have G := hide (gsv_of hg)
    rw [hg] at GS
    by_cases he : 0 ≤ e ∧ e ≤ (l.length : Int)
    · by_cases hf : 0 ≤ f ∧ f ≤ e
      · have hcb : cbC s t l f e = true := by unfold cbC; rw [hg, decide_eq_true he, decide_eq_true hf]; rfl
        rw [if_pos hcb]
        rw [decide_eq_true he] at I1
        rw [decide_eq_true hf] at I2
        obtain ⟨F, rfl⟩ : ∃ F : Nat, f = (F : Int) := ⟨f.toNat, by omega⟩
        obtain ⟨E, rfl⟩ : ∃ E : Nat, e = (E : Int) := ⟨e.toNat, by omega⟩
        have hFE : F ≤ E := by omega
        have hEn : E ≤ l.length := by omega
        rw [Int.toNat_natCast, Int.toNat_natCast]
        obtain ⟨a', hcut, ha'⟩ := cut_midE a l.length cap F E hFE (by omega)
        have hgsz := good_sz (tx_good G.out.st F (fun i hi => G.out.fit i (by omega)))
        have HCG := hide (cb_good (s := s) (l := l) (f := F) hgsz)
        have hok : keepOk ((tx s l F).size : Int) = true := by unfold keepOk; exact decide_eq_true ⟨by omega, by omega⟩
        have HA' := hide ha'
        clear he hf hcb ha'
        go_enter Tryd.func27, Tryd.ntmps27
        go_wp2_with fail
        rw [← hw1]
        clear hw1
        refine GS.out.mono ?_
        rintro e' w2 ⟨rfl, hb2⟩
        have HB2 := hide (HB.out.trans (hb2.mono HB.out.size))
        have cb2 := HC.out.later hb2
        have k2 := cb2.cell 2 rfl
        simp only [List.getElem_toArray, List.getElem_cons_succ, List.getElem_cons_zero] at k2
        have k0 := cb2.cell 0 rfl
        have k1 := cb2.cell 1 rfl
        simp only [List.getElem_toArray, List.getElem_cons_succ, List.getElem_cons_zero] at k0 k1
        have TX := hide (textsS (t := t) (HH.out.later hb2) HM.out G.out.st G.out.len (fun i hi => by have := (G.out.eng i hi).2.2; rwa [eAt_eq hi] at this))
        have HB12 := hide hb2
        clear hb2 cb2 hg
        go_wp2_with fail
        refine (I1.out w2).mono ?_
        rintro e' w3 ⟨rfl, hw3⟩
        obtain rfl := hw3.symm
        go_wp2_with fail
        refine (I2.out w2).mono ?_
        rintro e' w3 ⟨rfl, hw3⟩
        obtain rfl := hw3.symm
        go_wp2_with fail
        refine TX.out.mono ?_
        rintro e' w3 ⟨hy, -, hb3⟩
        obtain ⟨x, rfl, hx⟩ := hy G.out.fit
        obtain ⟨gx, cx, rfl, x1, x2, -, x3, x4, -⟩ := own_cat hx (by rw [vtk_len]; omega)
        have z0 := x4 F (.string (tx s l F)) (by unfold encSt; rw [List.getElem?_map, vtk_at s l (by omega)]; rfl)
        simp only [vtk_len] at x1 ⊢
        have HB13 := hide (HB12.out.trans (hb3.mono HB12.out.size))
        have q2 := (HC.out.later HB13.out).cell 2 rfl
        simp only [List.getElem_toArray, List.getElem_cons_succ, List.getElem_cons_zero] at q2
        clear hb3 hx x4 hy k0 k1 k2 TX
        have KE := hide (keepS ((tx s l F).size : Int) w3)
        rw [hok] at KE
        obtain ⟨TF, hTF⟩ : ∃ TF, tx s l F = TF := ⟨_, rfl⟩
        rw [hTF] at KE z0 hgsz
        have HTF := hide hTF
        clear hTF
        go_wp2_with fail
        refine KE.out.mono ?_
        rintro e' w4 ⟨x, rfl, hx, hb4⟩
        have HB14 := hide (HB13.out.trans (hb4.mono HB13.out.size))
        have q3 := (HC.out.later HB14.out).cell 2 rfl
        simp only [List.getElem_toArray, List.getElem_cons_succ, List.getElem_cons_zero] at q3
        have hw1s := HB.out.size
        have HX0 : Hid (POwn w4 w1.heap.size x (keepL ((tx s l F).size : Int))) := hide (by rw [HTF.out]; exact own_mono hx HB13.out.size)
        clear hb4 hx KE z0
        go_wp2
        go_loopw [10, 55] (fun x i wr => ∃ (k : Nat) (o : List Pt), k ≤ E - F ∧ i = .int .i64 k ∧ ∃ v0, v0 = x ∧ Hid (cbF s l F k = some o ∧ POwn wr w1.heap.size v0 o ∧ Below w1.heap.size w1 wr)) (fun _ i _ => (E - F) - (intOf i).toNat)
        case atStart => exact ⟨0, _, by omega, rfl, _, rfl, hide ⟨rfl, HX0.out, HB14.out⟩⟩
        case round =>
          obtain ⟨k, o, hk, rfl, x, rfl, HR⟩ := hrel
          by_cases hlt : k < E - F
          · obtain ⟨rfl, hc1, hc2, hd0⟩ := HEI.out (by omega)
            obtain rfl := HA'.out g off rfl (by omega)
            have hbw := HR.out.2.2.size
            have hd := hd0.later HR.out.2.2
            have hdr := hd.drop F
            have hkd : k < (l.drop F).length := by rw [List.length_drop]; omega
            have c2 := hdr.c k hkd
            obtain ⟨c0, c1⟩ := hdr.ua k hkd (Nat.zero_le _)
            obtain ⟨aw, gi, ci, ev, hp⟩ := hd.pin HM.out (F + k) (by omega)
            simp only [List.getElem_drop] at c0 c1
            rw [ev] at c2
            have hgo := HCG.out k o HR.out.1
            have tabW : Tab wr := HT1.out.below HR.out.2.2
            obtain ⟨ao, go', co, rfl, hpo⟩ := own_pin HR.out.2.1 tabW (good_szs hgo) (by have := (goodO_le hgo).1; omega)
            have hwa : Below wr.heap.size wr (wr.alloc (.cells #[.int .i64 (l[F + k]'(by omega)).cl, .int .i64 (l[F + k]'(by omega)).sq, .slice aw (l[F + k]'(by omega)).op.length ci] 55)) := (Below.refl _ _).alloc (Nat.le_refl _) _
            have CO := hide (compS (hpo.later hwa) (hp.later hwa))
            have HWA := hide (HR.out.2.2.trans (hwa.mono hbw))
            have hea : Hid ((eAt l (F + k)).op = (l[F + k]'(by omega)).op) := hide (by rw [eAt_eq (by omega)])
            clear hd hd0 hdr hp ev hpo hwa tabW
            cases hco : (cmpO o (l[F + k]'(by omega)).op).2 with
            | true =>
              have HN : Hid (cbF s l F (k + 1) = some (cmpO o (l[F + k]'(by omega)).op).1) := hide (by
                have := cbF_yes HR.out.1 (by rw [hea.out]; exact hco)
                rw [hea.out] at this
                exact this)
              rw [hco] at CO
              clear hco
              go_wp2_with fail
              refine CO.out.mono ?_
              rintro e' w6 ⟨y, rfl, hy, hb6⟩
              have HF : Hid (POwn w6 w1.heap.size y (cmpO o (l[F + k]'(by omega)).op).1 ∧ Below w1.heap.size w1 w6) := hide ⟨own_mono hy HWA.out.size, HWA.out.trans (hb6.mono HWA.out.size)⟩
              obtain ⟨ay, cy, ey, -, -⟩ := own_shp hy
              clear hy hb6 CO c0 c1 c2
              go_wp2
              exact ⟨⟨k + 1, _, by omega, by go_num, y, ey, hide ⟨HN.out, HF.out.1, HF.out.2⟩⟩, by simp [intOf]; omega⟩
            | false =>
              have HN : Hid (cbF s l F (E - F) = none) := hide (cbF_stop (cbF_no HR.out.1 (by rw [hea.out]; exact hco)) (E - F) (by omega))
              rw [hco] at CO
              clear hco
              go_wp2_with fail
              refine CO.out.mono ?_
              rintro e' w6 ⟨y, rfl, hy, hb6⟩
              have HB6 := hide (HB.out.trans ((HWA.out.trans (hb6.mono HWA.out.size)).mono hw1s))
              clear hy hb6 CO c0 c1 c2
              go_wp2
              go_ret2
              refine ⟨.slice none 0 0, ?_, ?_, HB6.out⟩
              · rw [HN.out]; rfl
              · rw [HN.out]; exact px_nil _ _ _
          · obtain rfl : k = E - F := by omega
            have HFIN : Hid (PX w.heap.size wr.heap.size wr x o ∧ Below w.heap.size w wr) := hide ⟨⟨PR.own HR.out.2.1, fun y hy => by have := pown_lt HR.out.2.1 y hy; omega⟩, HB.out.trans (HR.out.2.2.mono hw1s)⟩
            have HCB := hide HR.out.1
            go_wp2
            go_ret2
            refine ⟨x, ?_, ?_, HFIN.out.2⟩
            · rw [HCB.out]; rfl
            · rw [HCB.out]; exact HFIN.out.1
      · have hcb : cbC s t l f e = false := by unfold cbC; rw [hg, decide_eq_true he, decide_eq_false hf]; rfl
        rw [if_neg (by rw [hcb]; simp)]
        simp only [Option.getD_none, Option.isSome_none]
        rw [decide_eq_true he] at I1
        rw [decide_eq_false hf] at I2
        go_enter Tryd.func27, Tryd.ntmps27
        go_wp2_with fail
        rw [← hw1]
        clear hw1
        refine GS.out.mono ?_
        rintro e' w2 ⟨rfl, hb2⟩
        have HB2 := hide (HB.out.trans (hb2.mono HB.out.size))
        have cb2 := HC.out.later hb2
        have k2 := cb2.cell 2 rfl
        simp only [List.getElem_toArray, List.getElem_cons_succ, List.getElem_cons_zero] at k2
        clear hb2 cb2 hg hcb he hf
        go_wp2_with fail
        refine (I1.out w2).mono ?_
        rintro e' w3 ⟨rfl, hw3⟩
        obtain rfl := hw3.symm
        go_wp2_with fail
        refine (I2.out w2).mono ?_
        rintro e' w3 ⟨rfl, hw3⟩
        obtain rfl := hw3.symm
        go_wp2
        go_ret2
        exact ⟨_, rfl, px_nil _ _ _, HB2.out⟩
    · have hcb : cbC s t l f e = false := by unfold cbC; rw [hg, decide_eq_false he]; rfl
      rw [if_neg (by rw [hcb]; simp)]
      simp only [Option.getD_none, Option.isSome_none]
      rw [decide_eq_false he] at I1
      go_enter Tryd.func27, Tryd.ntmps27
      go_wp2_with fail
      rw [← hw1]
      clear hw1
      refine GS.out.mono ?_
      rintro e' w2 ⟨rfl, hb2⟩
      have HB2 := hide (HB.out.trans (hb2.mono HB.out.size))
      have cb2 := HC.out.later hb2
      have k2 := cb2.cell 2 rfl
      simp only [List.getElem_toArray, List.getElem_cons_succ, List.getElem_cons_zero] at k2
      clear hb2 cb2 hg hcb he
      go_wp2_with fail
      refine (I1.out w2).mono ?_
      rintro e' w3 ⟨rfl, hw3⟩
      obtain rfl := hw3.symm
      go_wp2
      go_ret2
      exact ⟨_, rfl, px_nil _ _ _, HB2.out⟩

set_option maxRecDepth 100000 in
set_option maxHeartbeats 8000000 in
theorem betweenI {S : Nat → Prop} {w : World} {v : Value} {s t : ByteArray} {l : List En} (f e : Int) (h : ER S w v l) (hm : SmE l) (hss : s.size ≤ 1048576) (hT : Tab w) :
    Calls Tryd.prog 28 #[.agg #[.string s, .string t, v], .int .i64 f, .int .i64 e] w (PPost w (cbL s t l f e) (cbB s t l f e)) := by
  obtain ⟨a, cap, g, off, vs, rfl, hE⟩ := h.ein
  obtain ⟨w1, hw1⟩ : ∃ w1, w1 = w.alloc (.cells #[.string s, .string t, .slice a l.length cap] 24) := ⟨_, rfl⟩
  have hb1 : Below w.heap.size w w1 := by rw [hw1]; exact (Below.refl _ _).alloc (Nat.le_refl _) _
  have cb1 : CB w1 w.heap.size #[.string s, .string t, .slice a l.length cap] := by rw [hw1]; exact CB.new _ _ _
  have VS := hide (versionsI (s := s) (t := t) (h.later hb1) hm hss (hT.below hb1))
  have HEI := hide (hE.later hb1)
  have HH := hide (h.later hb1)
  have HM := hide hm
  have HB := hide hb1
  have HC := hide cb1
  have HT1 := hide (hT.below hb1)
  have hlM := hm.1
  have hle := hE.le
  have h0w : 0 < w.heap.size := Nat.lt_of_le_of_lt (Nat.zero_le _) hT.lt
  unfold cbL cbB cbO
  clear h hm hb1 cb1 hE hT
  cases hg : goodSv s t l with
  | false =>
    have hcb : cbC s t l f e = false := by unfold cbC; rw [hg]; rfl
    rw [if_neg (by rw [hcb]; simp)]
    simp only [Option.getD_none, Option.isSome_none]
    go_enter Tryd.func28, Tryd.ntmps28
    go_wp2_with fail
    rw [← hw1]
    clear hw1
    refine VS.out.mono ?_
    rintro e' w2 ⟨xt, rfl, hxt, -, hb2⟩
    rw [hg]
    have HB2 := hide (HB.out.trans (hb2.mono HB.out.size))
    clear hb2 hg hcb
    go_wp2
    go_ret2
    exact ⟨_, rfl, px_nil _ _ _, HB2.out⟩
  | true =>
    have G := hide (gsv_of hg)
    by_cases he : 0 ≤ e ∧ e ≤ (l.length : Int)
    · by_cases hf : 0 ≤ f ∧ f ≤ e
      · have hcb : cbC s t l f e = true := by unfold cbC; rw [hg, decide_eq_true he, decide_eq_true hf]; rfl
        rw [if_pos hcb]
        obtain ⟨F, rfl⟩ : ∃ F : Nat, f = (F : Int) := ⟨f.toNat, by omega⟩
        obtain ⟨E, rfl⟩ : ∃ E : Nat, e = (E : Int) := ⟨e.toNat, by omega⟩
        have hFE : F ≤ E := by omega
        have hEn : E ≤ l.length := by omega
        rw [Int.toNat_natCast, Int.toNat_natCast]
        obtain ⟨a', hcut, ha'⟩ := cut_midE a l.length cap F E hFE (by omega)
        have hgsz := good_sz (tx_good G.out.st F (fun i hi => G.out.fit i (by omega)))
        have HCG := hide (cb_good (s := s) (l := l) (f := F) hgsz)
        have hok : keepOk ((tx s l F).size : Int) = true := by unfold keepOk; exact decide_eq_true ⟨by omega, by omega⟩
        have HA' := hide ha'
        clear he hf hcb ha'
        go_enter Tryd.func28, Tryd.ntmps28
        go_wp2_with fail
        rw [← hw1]
        clear hw1
        refine VS.out.mono ?_
        rintro e' w2 ⟨xt, rfl, hxt, -, hb2⟩
        rw [hg]
        have HB2 := hide (HB.out.trans (hb2.mono HB.out.size))
        have cb2 := HC.out.later hb2
        have k2 := cb2.cell 2 rfl
        simp only [List.getElem_toArray, List.getElem_cons_succ, List.getElem_cons_zero] at k2
        have hx := hxt hg
        obtain ⟨gx, cx, rfl, x1, x2, -, x3, x4, -⟩ := own_cat hx (by rw [vtk_len]; omega)
        have z0 := x4 F (.string (tx s l F)) (by unfold encSt; rw [List.getElem?_map, vtk_at s l (by omega)]; rfl)
        simp only [vtk_len] at x1 ⊢
        have HB13 := hide hb2
        have hnn : ¬ ((F : Int) < 0) := by omega
        have hng : ¬ ((E : Int) < (F : Int)) := by omega
        have hnl : ¬ ((l.length : Int) < (E : Int)) := by omega
        clear hb2 hx x4 hxt hg cb2
        have KE := hide (keepI ((tx s l F).size : Int) w2)
        rw [hok] at KE
        obtain ⟨TF, hTF⟩ : ∃ TF, tx s l F = TF := ⟨_, rfl⟩
        rw [hTF] at KE z0 hgsz
        have HTF := hide hTF
        clear hTF
        go_wp2_with fail
        refine KE.out.mono ?_
        rintro e' w4 ⟨x, rfl, hx, hb4⟩
        have HB14 := hide (HB13.out.trans (hb4.mono HB13.out.size))
        have q3 := (HC.out.later HB14.out).cell 2 rfl
        simp only [List.getElem_toArray, List.getElem_cons_succ, List.getElem_cons_zero] at q3
        have hw1s := HB.out.size
        have HX0 : Hid (POwn w4 w1.heap.size x (keepL ((tx s l F).size : Int))) := hide (by rw [HTF.out]; exact own_mono hx HB13.out.size)
        clear hb4 hx KE z0
        go_wp2
        go_loopw [10, 11, 52] (fun x okv i wr => ∃ (k : Nat) (o : List Pt), k ≤ E - F ∧ i = .int .i64 k ∧ okv = .bool true ∧ ∃ v0, v0 = x ∧ Hid (cbF s l F k = some o ∧ POwn wr w1.heap.size v0 o ∧ Below w1.heap.size w1 wr)) (fun _ _ i _ => (E - F) - (intOf i).toNat)
        case atStart => exact ⟨0, _, by omega, rfl, rfl, _, rfl, hide ⟨rfl, HX0.out, HB14.out⟩⟩
        case round =>
          obtain ⟨k, o, hk, rfl, rfl, x, rfl, HR⟩ := hrel
          by_cases hlt : k < E - F
          · obtain ⟨rfl, hc1, hc2, hd0⟩ := HEI.out (by omega)
            obtain rfl := HA'.out g off rfl (by omega)
            have hbw := HR.out.2.2.size
            have hd := hd0.later HR.out.2.2
            have hdr := hd.drop F
            have hkd : k < (l.drop F).length := by rw [List.length_drop]; omega
            have c2 := hdr.c k hkd
            obtain ⟨c0, c1⟩ := hdr.ua k hkd (Nat.zero_le _)
            obtain ⟨aw, gi, ci, ev, hp⟩ := hd.pin HM.out (F + k) (by omega)
            simp only [List.getElem_drop] at c0 c1
            rw [ev] at c2
            have hgo := HCG.out k o HR.out.1
            have tabW : Tab wr := HT1.out.below HR.out.2.2
            obtain ⟨ao, go', co, rfl, hpo⟩ := own_pin HR.out.2.1 tabW (good_szs hgo) (by have := (goodO_le hgo).1; omega)
            have hwa : Below wr.heap.size wr (wr.alloc (.cells #[.int .i64 (l[F + k]'(by omega)).cl, .int .i64 (l[F + k]'(by omega)).sq, .slice aw (l[F + k]'(by omega)).op.length ci] 55)) := (Below.refl _ _).alloc (Nat.le_refl _) _
            have CO := hide (compI (hpo.later hwa) (hp.later hwa) (tabW.below hwa))
            have HWA := hide (HR.out.2.2.trans (hwa.mono hbw))
            have hea : Hid ((eAt l (F + k)).op = (l[F + k]'(by omega)).op) := hide (by rw [eAt_eq (by omega)])
            clear hd hd0 hdr hp ev hpo hwa tabW
            cases hco : (cmpO o (l[F + k]'(by omega)).op).2 with
            | true =>
              have HN : Hid (cbF s l F (k + 1) = some (cmpO o (l[F + k]'(by omega)).op).1) := hide (by
                have := cbF_yes HR.out.1 (by rw [hea.out]; exact hco)
                rw [hea.out] at this
                exact this)
              rw [hco] at CO
              clear hco
              go_wp2_with fail
              refine CO.out.mono ?_
              rintro e' w6 ⟨y, rfl, hy, hb6⟩
              have HF : Hid (POwn w6 w1.heap.size y (cmpO o (l[F + k]'(by omega)).op).1 ∧ Below w1.heap.size w1 w6) := hide ⟨own_mono hy HWA.out.size, HWA.out.trans (hb6.mono HWA.out.size)⟩
              obtain ⟨ay, cy, ey, -, -⟩ := own_shp hy
              clear hy hb6 CO c0 c1 c2
              go_wp2
              exact ⟨⟨k + 1, _, by omega, by go_num, rfl, y, ey, hide ⟨HN.out, HF.out.1, HF.out.2⟩⟩, by simp [intOf]; omega⟩
            | false =>
              have HN : Hid (cbF s l F (E - F) = none) := hide (cbF_stop (cbF_no HR.out.1 (by rw [hea.out]; exact hco)) (E - F) (by omega))
              rw [hco] at CO
              clear hco
              go_wp2_with fail
              refine CO.out.mono ?_
              rintro e' w6 ⟨y, rfl, hy, hb6⟩
              have HB6 := hide (HB.out.trans ((HWA.out.trans (hb6.mono HWA.out.size)).mono hw1s))
              clear hy hb6 CO c0 c1 c2
              go_wp2
              go_ret2
              refine ⟨.slice none 0 0, ?_, ?_, HB6.out⟩
              · rw [HN.out]; rfl
              · rw [HN.out]; exact px_nil _ _ _
          · obtain rfl : k = E - F := by omega
            have HFIN : Hid (PX w.heap.size wr.heap.size wr x o ∧ Below w.heap.size w wr) := hide ⟨⟨PR.own HR.out.2.1, fun y hy => by have := pown_lt HR.out.2.1 y hy; omega⟩, HB.out.trans (HR.out.2.2.mono hw1s)⟩
            have HCB := hide HR.out.1
            go_wp2
            go_ret2
            refine ⟨x, ?_, ?_, HFIN.out.2⟩
            · rw [HCB.out]; rfl
            · rw [HCB.out]; exact HFIN.out.1
      · have hcb : cbC s t l f e = false := by unfold cbC; rw [hg, decide_eq_true he, decide_eq_false hf]; rfl
        rw [if_neg (by rw [hcb]; simp)]
        simp only [Option.getD_none, Option.isSome_none]
        go_enter Tryd.func28, Tryd.ntmps28
        go_wp2_with fail
        rw [← hw1]
        clear hw1
        refine VS.out.mono ?_
        rintro e' w2 ⟨xt, rfl, hxt, -, hb2⟩
        rw [hg]
        have HB2 := hide (HB.out.trans (hb2.mono HB.out.size))
        have cb2 := HC.out.later hb2
        have k2 := cb2.cell 2 rfl
        simp only [List.getElem_toArray, List.getElem_cons_succ, List.getElem_cons_zero] at k2
        clear hb2 cb2 hg hcb hxt
        by_cases h0 : f < 0
        · clear he hf
          go_wp2
          go_ret2
          exact ⟨_, rfl, px_nil _ _ _, HB2.out⟩
        · have h1 : e < f := by omega
          clear he hf
          go_wp2
          go_ret2
          exact ⟨_, rfl, px_nil _ _ _, HB2.out⟩
    · have hcb : cbC s t l f e = false := by unfold cbC; rw [hg, decide_eq_false he]; rfl
      rw [if_neg (by rw [hcb]; simp)]
      simp only [Option.getD_none, Option.isSome_none]
      go_enter Tryd.func28, Tryd.ntmps28
      go_wp2_with fail
      rw [← hw1]
      clear hw1
      refine VS.out.mono ?_
      rintro e' w2 ⟨xt, rfl, hxt, -, hb2⟩
      rw [hg]
      have HB2 := hide (HB.out.trans (hb2.mono HB.out.size))
      have cb2 := HC.out.later hb2
      have k2 := cb2.cell 2 rfl
      simp only [List.getElem_toArray, List.getElem_cons_succ, List.getElem_cons_zero] at k2
      clear hb2 cb2 hg hcb hxt
      by_cases h0 : f < 0
      · clear he
        go_wp2
        go_ret2
        exact ⟨_, rfl, px_nil _ _ _, HB2.out⟩
      · by_cases h1 : e < f
        · clear he
          go_wp2
          go_ret2
          exact ⟨_, rfl, px_nil _ _ _, HB2.out⟩
        · have h2 : (l.length : Int) < e := by omega
          clear he
          go_wp2
          go_ret2
          exact ⟨_, rfl, px_nil _ _ _, HB2.out⟩

end Go.Proofs.YtfklbhejfbfmeaaDoor
