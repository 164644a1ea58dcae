/- Histories: sizes, copies, comparisons, marks. -/
import Derived.Test.YtpeconmdmddkfaaDoorChRow3
set_option linter.unusedVariables false
namespace Go.Proofs.YtpeconmdmddkfaaDoor
open Go.RowKit
open Doc1

def BdC (l : List (List Pt)) : Prop := l.length ≤ 10000000 ∧ ∀ i (hi : i < l.length), l[i].length ≤ 10000000
theorem bdC_of {l : List (List Pt)} (h : szCn l ≤ 1048576) : BdC l := by
  obtain ⟨h1, h2⟩ := szC_each h
  exact ⟨by omega, fun i hi => by have := h2 i hi; have := szPn_len l[i]; omega⟩

theorem cb_two (w : World) (a b : Array Value) (t u : TypeId) : CB ((w.alloc (.cells a t)).alloc (.cells b u)) w.heap.size a ∧ CB ((w.alloc (.cells a t)).alloc (.cells b u)) (w.heap.size + 1) b ∧ Below w.heap.size w ((w.alloc (.cells a t)).alloc (.cells b u)) ∧ ((w.alloc (.cells a t)).alloc (.cells b u)).heap.size = w.heap.size + 2 := by
  refine ⟨(CB.new w a t).block (Below.heap_alloc _ _ _ (by simp)), ?_, ((Below.refl _ _).alloc (Nat.le_refl _) _).alloc (by simp) _, by simp⟩
  have := CB.new (w.alloc (.cells a t)) b u
  rwa [World.size_alloc] at this

set_option maxRecDepth 100000 in
set_option maxHeartbeats 2000000 in
theorem eqH_r {S T S' T' : Nat → Prop} {w : World} {vu vr vu' vr' : Value} {t : ByteArray} {u r : List (List Pt)} (hu : DR S w vu u) (hr : DR T w vr r) (hu' : DR S' w vu' u) (hr' : DR T' w vr' r) (bu : BdC u) (br : BdC r) :
    Calls Tryd.prog 11 #[.agg #[.string t, vu, vr], .agg #[.string t, vu', vr']] w fun e w' => e = .returned (.bool true) ∧ Below w.heap.size w w' := by
  obtain ⟨a1, c1, e1⟩ := hu.shp
  obtain ⟨a2, c2, e2⟩ := hr.shp
  obtain ⟨a3, c3, e3⟩ := hu'.shp
  obtain ⟨a4, c4, e4⟩ := hr'.shp
  subst e1 e2 e3 e4
  obtain ⟨w1, hw1⟩ : ∃ w1, w1 = (w.alloc (.cells #[.string t, .slice a1 u.length c1, .slice a2 r.length c2] 24)).alloc (.cells #[.string t, .slice a3 u.length c3, .slice a4 r.length c4] 24) := ⟨_, rfl⟩
  obtain ⟨k1, k2, k3, k4⟩ := cb_two w #[.string t, .slice a1 u.length c1, .slice a2 r.length c2] #[.string t, .slice a3 u.length c3, .slice a4 r.length c4] 24 24
  rw [← hw1] at k1 k2 k3 k4
  have H1 := hide (eqC_r (hu.later k3) (hu'.later k3) bu.1 bu.2)
  have H2 : Hid (∀ w2, Below w1.heap.size w1 w2 → Calls Tryd.prog 51 #[.slice a2 r.length c2, .slice a4 r.length c4] w2 fun e w' => e = .returned (.bool true) ∧ Below w2.heap.size w2 w') := hide (fun w2 h2 => eqC_r ((hr.later k3).later h2) ((hr'.later k3).later h2) br.1 br.2)
  have HK1 := hide k1
  have HK2 := hide k2
  have HB := hide k3
  clear hu hr hu' hr' bu br k1 k2 k3
  go_enter Tryd.func11, Tryd.ntmps11
  go_wp2_with fail
  rw [← hw1]
  clear hw1
  refine H1.out.mono ?_
  rintro e w2 ⟨rfl, hb2⟩
  have q1 := (HK1.out.later hb2).cell 2 rfl
  have q2 := (HK2.out.later hb2).cell 2 rfl
  have H3 := hide (H2.out w2 hb2)
  have HB2 := hide (HB.out.trans (hb2.mono HB.out.size))
  simp only [List.getElem_toArray, List.getElem_cons_succ, List.getElem_cons_zero] at q1 q2
  clear hb2 H2
  go_wp2_with fail
  refine H3.out.mono ?_
  rintro e w3 ⟨rfl, hb3⟩
  have HB3 := hide (HB2.out.trans (hb3.mono HB2.out.size))
  clear hb3 q1 q2
  go_wp2
  go_ret
  exact ⟨rfl, HB3.out⟩

set_option maxRecDepth 100000 in
set_option maxHeartbeats 2000000 in
theorem markH_r {S T : Nat → Prop} {w : World} {vu vr : Value} {t : ByteArray} {u r : List (List Pt)} (hu : DR S w vu u) (hr : DR T w vr r) (hST : ∀ y, S y → ¬ T y) (hSw : ∀ y, S y → y < w.heap.size) (bu : BdC u) (br : BdC r) (K : Nat) (hK : 0 < K ∧ K + mkN u + mkN r ≤ 500000000) :
    Calls Tryd.prog 12 #[.agg #[.string t, vu, vr], .int .i64 (K : Int)] w fun e w' => e = .returned (.int .i64 (K + mkN u + mkN r : Nat)) ∧ Out (fun y => S y ∨ T y) w w' ∧ DK K S w' vu u ∧ DK (K + mkN u) T w' vr r := by
  obtain ⟨a1, c1, e1⟩ := hu.shp
  obtain ⟨a2, c2, e2⟩ := hr.shp
  subst e1 e2
  obtain ⟨w1, hw1⟩ : ∃ w1, w1 = w.alloc (.cells #[.string t, .slice a1 u.length c1, .slice a2 r.length c2] 24) := ⟨_, rfl⟩
  have k1 : CB w1 w.heap.size #[.string t, .slice a1 u.length c1, .slice a2 r.length c2] := by rw [hw1]; exact CB.new _ _ _
  have k3 : Below w.heap.size w w1 := by rw [hw1]; exact (Below.refl _ _).alloc (Nat.le_refl _) _
  have H1 := hide (markC_r (hu.later k3) bu.1 bu.2 K ⟨hK.1, by omega⟩)
  have H2 : Hid (∀ w2, Out S w1 w2 → Calls Tryd.prog 52 #[.slice a2 r.length c2, .int .i64 ((K + mkN u : Nat) : Int)] w2 fun e w' => e = .returned (.int .i64 (K + mkN u + mkN r : Nat)) ∧ Out T w2 w' ∧ DK (K + mkN u) T w' (.slice a2 r.length c2) r) := hide (fun w2 h2 => markC_r ((hr.later k3).out h2 (fun y hy c => hST y c hy)) br.1 br.2 (K + mkN u) ⟨by omega, hK.2⟩)
  have HST := hide hST
  have HSw := hide hSw
  have HK1 := hide k1
  have HB := hide k3
  obtain ⟨X, hX⟩ : ∃ X : Nat, X = K + mkN u := ⟨_, rfl⟩
  obtain ⟨Y, hY⟩ : ∃ Y : Nat, Y = X + mkN r := ⟨_, rfl⟩
  rw [← hX] at H1 H2 ⊢
  rw [← hY] at H2 ⊢
  clear hu hr bu br k1 k3 hST hSw hX hY hK
  go_enter Tryd.func12, Tryd.ntmps12
  go_wp2_with fail
  rw [← hw1]
  clear hw1
  refine H1.out.mono ?_
  rintro e w2 ⟨rfl, ho2, hd2⟩
  have q1 := (HK1.out.out ho2 (fun c => by have := HSw.out _ c; omega)).cell 2 rfl
  simp only [List.getElem_toArray, List.getElem_cons_succ, List.getElem_cons_zero] at q1
  have H3 := hide (H2.out w2 ho2)
  have HO2 := hide ho2
  have HD2 := hide hd2
  clear ho2 hd2 H2
  go_wp2_with fail
  refine H3.out.mono ?_
  rintro e w3 ⟨rfl, ho3, hd3⟩
  have HO3 : Hid (Out (fun y => S y ∨ T y) w w3) := hide ((Out.below HB.out).trans ((HO2.out.mono (fun k c => .inl c)).trans (ho3.mono (fun k c => .inr c))))
  have HD3 := hide hd3
  have HD4 := hide (HD2.out.out ho3 HST.out)
  clear ho3 hd3 q1
  go_wp2
  go_ret
  exact ⟨rfl, HO3.out, HD4.out, HD3.out⟩

set_option maxRecDepth 100000 in
set_option maxHeartbeats 2000000 in
theorem heldH_q {S T : Nat → Prop} {w : World} {vu vr : Value} {t : ByteArray} {u r : List (List Pt)} {K : Nat} (hu : DK K S w vu u) (hr : DK (K + mkN u) T w vr r) (bu : BdC u) (br : BdC r) (hK : 0 < K ∧ K + mkN u + mkN r ≤ 500000000) :
    Calls Tryd.prog 13 #[.agg #[.string t, vu, vr], .int .i64 (K : Int)] w fun e w' => e = .returned (.int .i64 (K + mkN u + mkN r : Nat)) ∧ Below w.heap.size w w' := by
  obtain ⟨a1, c1, e1⟩ := hu.shp
  obtain ⟨a2, c2, e2⟩ := hr.shp
  subst e1 e2
  obtain ⟨w1, hw1⟩ : ∃ w1, w1 = w.alloc (.cells #[.string t, .slice a1 u.length c1, .slice a2 r.length c2] 24) := ⟨_, rfl⟩
  have k1 : CB w1 w.heap.size #[.string t, .slice a1 u.length c1, .slice a2 r.length c2] := by rw [hw1]; exact CB.new _ _ _
  have k3 : Below w.heap.size w w1 := by rw [hw1]; exact (Below.refl _ _).alloc (Nat.le_refl _) _
  have H1 := hide (heldC_q (hu.later k3) bu.1 bu.2 ⟨hK.1, by omega⟩)
  have H2 : Hid (∀ w2, Below w1.heap.size w1 w2 → Calls Tryd.prog 53 #[.slice a2 r.length c2, .int .i64 ((K + mkN u : Nat) : Int)] w2 fun e w' => e = .returned (.int .i64 (K + mkN u + mkN r : Nat)) ∧ Below w2.heap.size w2 w') := hide (fun w2 h2 => heldC_q ((hr.later k3).later h2) br.1 br.2 ⟨by omega, hK.2⟩)
  have HK1 := hide k1
  have HB := hide k3
  obtain ⟨X, hX⟩ : ∃ X : Int, X = ((K + mkN u : Nat) : Int) := ⟨_, rfl⟩
  obtain ⟨Y, hY⟩ : ∃ Y : Int, Y = ((K + mkN u + mkN r : Nat) : Int) := ⟨_, rfl⟩
  rw [← hX] at H1 H2
  rw [← hY] at H2 ⊢
  have d1 : decide (X < 0) = false := by rw [decide_eq_false_iff_not]; omega
  have d2 : decide (Y < 0) = false := by rw [decide_eq_false_iff_not]; omega
  clear hu hr bu br k1 k3 hX hY hK
  go_enter Tryd.func13, Tryd.ntmps13
  go_wp2_with fail
  rw [← hw1]
  clear hw1
  refine H1.out.mono ?_
  rintro e w2 ⟨rfl, hb2⟩
  have q1 := (HK1.out.later hb2).cell 2 rfl
  simp only [List.getElem_toArray, List.getElem_cons_succ, List.getElem_cons_zero] at q1
  have H3 := hide (H2.out w2 hb2)
  have HB2 := hide (HB.out.trans (hb2.mono HB.out.size))
  clear hb2 H2
  go_wp2_with fail
  refine H3.out.mono ?_
  rintro e w3 ⟨rfl, hb3⟩
  have HB3 := hide (HB2.out.trans (hb3.mono HB2.out.size))
  clear hb3 q1
  go_wp2
  go_ret
  exact ⟨rfl, HB3.out⟩

/-- How much a history takes. -/
def szHn (t : ByteArray) (u r : List (List Pt)) : Nat := t.size + szCn u + szCn r

set_option maxRecDepth 100000 in
set_option maxHeartbeats 4000000 in
theorem szH_from {w : World} {t : ByteArray} {vu vr : Value} {u r : List (List Pt)} (hu : ArgC w vu u) (hr : ArgC w vr r) (ht : t.size ≤ 9223372036854775807) (su : ∀ i (hi : i < u.length), ThinP u[i]) (sr : ∀ i (hi : i < r.length), ThinP r[i]) (left : Nat) (hlf : left ≤ 1048576) :
    Calls Tryd.prog 14 #[.agg #[.string t, vu, vr], .int .i64 (left : Int)] w fun e w' => e = .returned (.int .i64 (if szHn t u r ≤ left then ((left - szHn t u r : Nat) : Int) else -1)) ∧ Below w.heap.size w w' := by
  obtain ⟨a1, c1, e1⟩ := argC_shp hu
  obtain ⟨a2, c2, e2⟩ := argC_shp hr
  subst e1 e2
  obtain ⟨w1, hw1⟩ : ∃ w1, w1 = w.alloc (.cells #[.string t, .slice a1 u.length c1, .slice a2 r.length c2] 32) := ⟨_, rfl⟩
  have k1 : CB w1 w.heap.size #[.string t, .slice a1 u.length c1, .slice a2 r.length c2] := by rw [hw1]; exact CB.new _ _ _
  have k3 : Below w.heap.size w w1 := by rw [hw1]; exact (Below.refl _ _).alloc (Nat.le_refl _) _
  have H1 : Hid (∀ left, left ≤ 1048576 → _) := hide (fun left hl => szC_from (hu.later k3) su left hl)
  have H2 : Hid (∀ left, left ≤ 1048576 → ∀ w2, Below w1.heap.size w1 w2 → _) := hide (fun left hl w2 h2 => szC_from ((hr.later k3).later h2) sr left hl)
  have HK1 := hide k1
  have HB := hide k3
  unfold szHn
  clear hu hr su sr k1 k3
  by_cases q0 : t.size ≤ left
  · obtain ⟨X, hX⟩ : ∃ X : Nat, left - t.size = X := ⟨_, rfl⟩
    have hXi : (left : Int) - (t.size : Int) = (X : Int) := by omega
    have dX : decide ((X : Int) < 0) = false := by rw [decide_eq_false_iff_not]; omega
    have H1 := hide (H1.out X (by omega))
    by_cases q1 : szCn u ≤ X
    · simp only [if_pos q1] at H1
      obtain ⟨Y, hY⟩ : ∃ Y : Nat, X - szCn u = Y := ⟨_, rfl⟩
      rw [hY] at H1
      have dY : decide ((Y : Int) < 0) = false := by rw [decide_eq_false_iff_not]; omega
      have H2 := hide (H2.out Y (by omega))
      have R : Hid ((if t.size + szCn u + szCn r ≤ left then ((left - (t.size + szCn u + szCn r) : Nat) : Int) else -1) = if szCn r ≤ Y then ((Y - szCn r : Nat) : Int) else -1) := hide (by split <;> split <;> omega)
      obtain ⟨Z, hZ⟩ : ∃ Z : Int, (if szCn r ≤ Y then ((Y - szCn r : Nat) : Int) else -1) = Z := ⟨_, rfl⟩
      rw [hZ] at H2 R
      rw [R.out]
      by_cases q2 : szCn r ≤ Y
      · rw [if_pos q2] at hZ
        have dZ : decide (Z < 0) = false := by rw [decide_eq_false_iff_not]; omega
        clear R hZ q2 q1 q0 hX hY
        go_enter Tryd.func14, Tryd.ntmps14
        go_wp2_with fail
        rw [← hw1]
        clear hw1
        refine H1.out.mono ?_
        rintro e w2 ⟨rfl, hb2⟩
        have q1 := (HK1.out.later hb2).cell 2 rfl
        simp only [List.getElem_toArray, List.getElem_cons_succ, List.getElem_cons_zero] at q1
        have H3 := hide (H2.out w2 hb2)
        have HB2 := hide (HB.out.trans (hb2.mono HB.out.size))
        clear hb2 H2
        go_wp2_with fail
        refine H3.out.mono ?_
        rintro e w3 ⟨rfl, hb3⟩
        have HB3 := hide (HB2.out.trans (hb3.mono HB2.out.size))
        clear hb3 q1
        go_wp2
        go_ret
        exact ⟨rfl, HB3.out⟩
      · rw [if_neg q2] at hZ
        subst hZ
        clear R q2 q1 q0 hX hY
        go_enter Tryd.func14, Tryd.ntmps14
        go_wp2_with fail
        rw [← hw1]
        clear hw1
        refine H1.out.mono ?_
        rintro e w2 ⟨rfl, hb2⟩
        have q1 := (HK1.out.later hb2).cell 2 rfl
        simp only [List.getElem_toArray, List.getElem_cons_succ, List.getElem_cons_zero] at q1
        have H3 := hide (H2.out w2 hb2)
        have HB2 := hide (HB.out.trans (hb2.mono HB.out.size))
        clear hb2 H2
        go_wp2_with fail
        refine H3.out.mono ?_
        rintro e w3 ⟨rfl, hb3⟩
        have HB3 := hide (HB2.out.trans (hb3.mono HB2.out.size))
        clear hb3 q1
        go_wp2
        go_ret
        exact ⟨rfl, HB3.out⟩
    · simp only [if_neg q1] at H1
      have R : Hid ((if t.size + szCn u + szCn r ≤ left then ((left - (t.size + szCn u + szCn r) : Nat) : Int) else -1) = -1) := hide (by rw [if_neg (by omega)])
      rw [R.out]
      clear R q1 q0 hX H2
      go_enter Tryd.func14, Tryd.ntmps14
      go_wp2_with fail
      rw [← hw1]
      clear hw1
      refine H1.out.mono ?_
      rintro e w2 ⟨rfl, hb2⟩
      have HB2 := hide (HB.out.trans (hb2.mono HB.out.size))
      clear hb2
      go_wp2
      go_ret
      exact ⟨rfl, HB2.out⟩
  · have R : Hid ((if t.size + szCn u + szCn r ≤ left then ((left - (t.size + szCn u + szCn r) : Nat) : Int) else -1) = -1) := hide (by rw [if_neg (by omega)])
    rw [R.out]
    have dX : decide ((left : Int) - (t.size : Int) < 0) = true := by rw [decide_eq_true_iff]; omega
    have lX : (left : Int) - (t.size : Int) < 0 := by omega
    clear R H1 H2
    go_enter Tryd.func14, Tryd.ntmps14
    go_wp2
    rw [← hw1]
    go_ret
    exact ⟨rfl, HB.out⟩

theorem Tryd.sizeHistory : (Tryd.prog.info? 24).map (·.size) = some 3 := by kernel_rfl

theorem DR.block {S : Nat → Prop} {w w1 : World} {v : Value} {l : List (List Pt)} (h : DR S w v l) (hs : w.heap.size ≤ w1.heap.size) (he : ∀ y, S y → y < w.heap.size → w1.heap[y]? = w.heap[y]?) : DR S w1 v l :=
  h.imp id (fun ⟨g, off, cap, vs, e, h1, h2, h3, h4⟩ => ⟨g, off, cap, vs, e, h1, h2, h3, h4.keep hs he⟩)
theorem DR.set {S : Nat → Prop} {w : World} {v : Value} {l : List (List Pt)} (h : DR S w v l) {b j : Nat} (hb : ¬ S b) (x : Value) : DR S (w.setCell ⟨b, j, none⟩ x) v l :=
  h.block (by simp [World.setCell]) (fun y hy _ => Below.heap_setCell _ _ _ _ (by show y ≠ b; intro c; subst c; exact hb hy))

set_option maxRecDepth 100000 in
set_option maxHeartbeats 4000000 in
theorem toH_cp {w : World} {t : ByteArray} {vu vr : Value} {u r : List (List Pt)} (hu : ArgC w vu u) (hr : ArgC w vr r) (mu : szCn u ≤ 1048576) (mr : szCn r ≤ 1048576) :
    Calls Tryd.prog 16 #[.agg #[.string t, vu, vr]] w fun e w' => ∃ xu xr m, e = .returned (.agg #[.string t, xu, xr]) ∧ w.heap.size ≤ m ∧ m ≤ w'.heap.size ∧ DR (fun k => w.heap.size ≤ k ∧ k < m) w' xu u ∧ DR (fun k => m ≤ k ∧ k < w'.heap.size) w' xr r ∧ Below w.heap.size w w' := by
  obtain ⟨a1, c1, e1⟩ := argC_shp hu
  obtain ⟨a2, c2, e2⟩ := argC_shp hr
  subst e1 e2
  obtain ⟨w1, hw1⟩ : ∃ w1, w1 = ((w.alloc (.cells #[.string t, .slice a1 u.length c1, .slice a2 r.length c2] 32)).alloc (.cells #[.string ⟨#[]⟩, .slice none 0 0, .slice none 0 0] 24)).alloc (.cells #[.string t, .slice none 0 0, .slice none 0 0] 24) := ⟨_, rfl⟩
  have hs1 : w1.heap.size = w.heap.size + 3 := by rw [hw1]; simp
  have hbw : Below w.heap.size w w1 := by rw [hw1]; exact (((Below.refl _ _).alloc (Nat.le_refl _) _).alloc (by simp) _).alloc (by simp; omega) _
  obtain ⟨p1, p2, -, -⟩ := cb_two w #[.string t, .slice a1 u.length c1, .slice a2 r.length c2] #[.string ⟨#[]⟩, .slice none 0 0, .slice none 0 0] 32 24
  have hup : Below (w.heap.size + 2) ((w.alloc (.cells #[.string t, .slice a1 u.length c1, .slice a2 r.length c2] 32)).alloc (.cells #[.string ⟨#[]⟩, .slice none 0 0, .slice none 0 0] 24)) w1 := by
    rw [hw1]; exact (Below.refl _ _).alloc (by simp) _
  have b0 : CB w1 w.heap.size #[.string t, .slice a1 u.length c1, .slice a2 r.length c2] := p1.block (hup.block _ (by omega))
  have b1 : CB w1 (w.heap.size + 1) #[.string ⟨#[]⟩, .slice none 0 0, .slice none 0 0] := p2.block (hup.block _ (by omega))
  have b2 : CB w1 (w.heap.size + 1 + 1) #[.string t, .slice none 0 0, .slice none 0 0] := by
    rw [hw1]
    have := CB.new ((w.alloc (.cells #[.string t, .slice a1 u.length c1, .slice a2 r.length c2] 32)).alloc (.cells #[.string ⟨#[]⟩, .slice none 0 0, .slice none 0 0] 24)) #[.string t, .slice none 0 0, .slice none 0 0] 24
    rw [World.size_alloc, World.size_alloc] at this
    exact this
  have H1 := hide (toC_cp (hu.later hbw) mu)
  have H2 : Hid (∀ w2, Below w.heap.size w w2 → Calls Tryd.prog 56 #[.slice a2 r.length c2] w2 fun e w' => e = .returned (.slice (some ⟨w2.heap.size, 0, none⟩) r.length r.length) ∧ DR (fun k => w2.heap.size ≤ k ∧ k < w'.heap.size) w' (.slice (some ⟨w2.heap.size, 0, none⟩) r.length r.length) r ∧ Below w2.heap.size w2 w') := hide (fun w2 h2 => toC_cp (hr.later h2) mr)
  have HB := hide hbw
  have HB0 := hide b0
  have HB1 := hide b1
  have HB2 := hide b2
  have HS := hide hs1
  clear hu hr mu mr hbw b0 b1 b2 p1 p2 hup hs1
  go_enter Tryd.func16, Tryd.ntmps16
  go_wp2_with fail
  rw [← hw1]
  clear hw1
  refine H1.out.mono ?_
  rintro e w2 ⟨rfl, hd, hb2⟩
  have B0 := HB0.out.later hb2
  have B1 := hide (HB1.out.later hb2)
  have B2 := HB2.out.later hb2
  obtain ⟨xu, hxu⟩ : ∃ xu, xu = Value.slice (some ⟨w1.heap.size, 0, none⟩) u.length u.length := ⟨_, rfl⟩
  have i1 := B2.cell 1 rfl
  have i2 := B2.fz 1
  have j2 := hide (B2.set 1 (.slice (some ⟨w1.heap.size, 0, none⟩) u.length u.length) rfl)
  have j0 := hide (B0.other (d := w.heap.size + 1 + 1) (by omega) 1 (.slice (some ⟨w1.heap.size, 0, none⟩) u.length u.length))
  have j1 := hide (B1.out.other (d := w.heap.size + 1 + 1) (by omega) 1 (.slice (some ⟨w1.heap.size, 0, none⟩) u.length u.length))
  have jd := hide (hd.set (b := w.heap.size + 1 + 1) (j := 1) (by have := HS.out; omega) (.slice (some ⟨w1.heap.size, 0, none⟩) u.length u.length))
  have jb := hide ((HB.out.trans (hb2.mono HB.out.size)).setCell (p := ⟨w.heap.size + 1 + 1, 1, none⟩) (by show w.heap.size ≤ w.heap.size + 1 + 1; omega) (.slice (some ⟨w1.heap.size, 0, none⟩) u.length u.length))
  have i3 := j0.out.cell 2 rfl
  simp only [List.getElem_toArray, List.getElem_cons_succ, List.getElem_cons_zero] at i1 i3
  obtain ⟨w3, hw3⟩ : ∃ w3, w3 = w2.setCell ⟨w.heap.size + 1 + 1, 1, none⟩ (.slice (some ⟨w1.heap.size, 0, none⟩) u.length u.length) := ⟨_, rfl⟩
  have js : Hid (w1.heap.size ≤ w3.heap.size ∧ w3.heap.size = w2.heap.size) := hide (by rw [hw3]; simpa [World.setCell] using hb2.size)
  rw [← hw3] at j2 j0 j1 jd jb
  clear B0 B1 B2 hd hb2 H1
  have H3 := hide (H2.out w3 jb.out)
  clear H2
  go_wp2_with fail
  rw [← hw3]
  clear hw3 i1 i2 i3
  refine H3.out.mono ?_
  rintro e w4 ⟨rfl, hd4, hb4⟩
  have B1 := j1.out.later hb4
  have B2 := j2.out.later hb4
  have i1 := B2.cell 2 rfl
  have i2 := B2.fz 2
  have l2 := B2.set 2 (.slice (some ⟨w3.heap.size, 0, none⟩) r.length r.length) rfl
  have l1 := B1.other (d := w.heap.size + 1 + 1) (by omega) 2 (.slice (some ⟨w3.heap.size, 0, none⟩) r.length r.length)
  have g0 := l2.cell 0 rfl
  have g1 := l2.cell 1 rfl
  have g2 := l2.cell 2 rfl
  have m0 := l1.cell 0 rfl
  have m1 := l1.cell 1 rfl
  have m2 := l1.cell 2 rfl
  have z0 := l1.fz 0
  have o0 := l1.set 0 (.string t) rfl
  have n1 := o0.cell 1 rfl
  have z1 := o0.fz 1
  have o1 := o0.set 1 (.slice (some ⟨w1.heap.size, 0, none⟩) u.length u.length) rfl
  have n2 := o1.cell 2 rfl
  have z2 := o1.fz 2
  have o2 := hide (o1.set 2 (.slice (some ⟨w3.heap.size, 0, none⟩) r.length r.length) rfl)
  have hS := HS.out
  have hJ := js.out
  have hW4 := hb4.size
  have kU : Hid (∀ p1 p2 p3 p4 v1 v2 v3 v4, p1 = w.heap.size + 1 + 1 → DR (fun k => w.heap.size ≤ k ∧ k < w3.heap.size) ((((w4.setCell ⟨p1, 2, none⟩ v1).setCell ⟨w.heap.size + 1, p2, none⟩ v2).setCell ⟨w.heap.size + 1, p3, none⟩ v3).setCell ⟨w.heap.size + 1, p4, none⟩ v4) (.slice (some ⟨w1.heap.size, 0, none⟩) u.length u.length) u) := hide (fun p1 p2 p3 p4 v1 v2 v3 v4 e1 => by
    subst e1
    exact ((((((jd.out.later hb4).set (by show ¬ (_ ∧ _); omega) v1).set (by show ¬ (_ ∧ _); omega) v2).set (by show ¬ (_ ∧ _); omega) v3).set (by show ¬ (_ ∧ _); omega) v4).wide (fun y hy => ⟨by have := hy.1; omega, by have := hy.2; omega⟩)))
  have kR : Hid (∀ p1 p2 p3 p4 v1 v2 v3 v4, p1 = w.heap.size + 1 + 1 → DR (fun k => w3.heap.size ≤ k ∧ k < w4.heap.size) ((((w4.setCell ⟨p1, 2, none⟩ v1).setCell ⟨w.heap.size + 1, p2, none⟩ v2).setCell ⟨w.heap.size + 1, p3, none⟩ v3).setCell ⟨w.heap.size + 1, p4, none⟩ v4) (.slice (some ⟨w3.heap.size, 0, none⟩) r.length r.length) r) := hide (fun p1 p2 p3 p4 v1 v2 v3 v4 e1 => by
    subst e1
    exact ((((hd4.set (by show ¬ (_ ∧ _); omega) v1).set (by show ¬ (_ ∧ _); omega) v2).set (by show ¬ (_ ∧ _); omega) v3).set (by show ¬ (_ ∧ _); omega) v4))
  have kB : Hid (∀ p2 p3 p4 v1 v2 v3 v4, Below w.heap.size w ((((w4.setCell ⟨w.heap.size + 1 + 1, 2, none⟩ v1).setCell ⟨w.heap.size + 1, p2, none⟩ v2).setCell ⟨w.heap.size + 1, p3, none⟩ v3).setCell ⟨w.heap.size + 1, p4, none⟩ v4)) := hide (fun p2 p3 p4 v1 v2 v3 v4 => by
    have hb := jb.out.trans (hb4.mono jb.out.size)
    exact (((hb.setCell (p := ⟨w.heap.size + 1 + 1, 2, none⟩) (by show w.heap.size ≤ w.heap.size + 1 + 1; omega) v1).setCell (p := ⟨w.heap.size + 1, p2, none⟩) (by show w.heap.size ≤ w.heap.size + 1; omega) v2).setCell (p := ⟨w.heap.size + 1, p3, none⟩) (by show w.heap.size ≤ w.heap.size + 1; omega) v3).setCell (p := ⟨w.heap.size + 1, p4, none⟩) (by show w.heap.size ≤ w.heap.size + 1; omega) v4)
  have HJ : Hid (w.heap.size ≤ w3.heap.size ∧ w3.heap.size ≤ w4.heap.size) := hide ⟨by omega, hW4⟩
  simp only [List.getElem_toArray, List.getElem_cons_succ, List.getElem_cons_zero] at i1 g0 g1 g2 m0 m1 m2 n1 n2
  clear B1 B2 l2 l1 o0 o1 hd4 hb4 hS hJ hW4 H3
  go_wp2
  obtain ⟨tt, htt⟩ := o2.out
  refine bodyPost_ret (results_cell_row rfl _ _ (w.heap.size + 1) _ _ (0, 0) _ rfl htt Tryd.underlying24 rfl Tryd.sizeHistory) rfl ?_
  exact ⟨_, _, w3.heap.size, rfl, HJ.out.1, by simpa [World.setCell] using HJ.out.2, kU.out _ _ _ _ _ _ _ _ rfl, by simpa [World.setCell] using kR.out _ _ _ _ _ _ _ _ rfl, kB.out _ _ _ _ _ _ _⟩
end Go.Proofs.YtpeconmdmddkfaaDoor
