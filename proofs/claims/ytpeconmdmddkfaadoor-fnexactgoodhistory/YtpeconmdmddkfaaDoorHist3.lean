/- The program's: changes that fit one behind the other, from the last on. -/
import Derived.Test.YtpeconmdmddkfaaDoorHist2
import Derived.Test.YtpeconmdmddkfaaDoorBack1
import Derived.Test.YtpeconmdmddkfaaDoorOpW9M
set_option linter.unusedVariables false
namespace Go.Proofs.YtpeconmdmddkfaaDoor
open Go.RowKit Go.Shelf
open Doc1

attribute [local go_sem] Oper.semAt_some

/-- Of the blocks below N, all but those of the row and of its box are owned, and lie as in W2, all but two boxes. -/
def Fm (N g Bs sb rb : Nat) (W2 : World) (O : Nat → Prop) (W : World) : Prop := O = (fun k => k < N ∧ k ≠ g ∧ k ≠ Bs) ∧ N ≤ W.heap.size ∧ ∀ k, k < N → k ≠ g → k ≠ Bs → k ≠ sb → k ≠ rb → W.heap[k]? = W2.heap[k]?
def FJ (N g Bs sb rb : Nat) (W2 : World) (l : List (List Pt)) (s : ByteArray) (pre : List Nat) (O : Nat → Prop) (W : World) : Prop :=
  Fm N g Bs sb rb W2 O W ∧ (sb < N ∧ sb ≠ g ∧ sb ≠ Bs ∧ rb < N ∧ rb ≠ g ∧ rb ≠ Bs) ∧ Bxd W rb (.bool false) ∧ ∃ t, Bxd W sb (.string t) ∧ good t.data.toList = true ∧ fitR l.reverse s = fitR (l.take (l.length - pre.length)).reverse t
def FX (N g Bs sb rb : Nat) (W2 : World) (l : List (List Pt)) (s : ByteArray) (c : Code) (pre : List Nat) (O : Nat → Prop) (W : World) : Prop :=
  c = .ret ∧ Fm N g Bs sb rb W2 O W ∧ (sb < N ∧ sb ≠ g ∧ sb ≠ Bs ∧ rb < N ∧ rb ≠ g ∧ rb ≠ Bs) ∧ Bxd W rb (.bool false) ∧ fitR l.reverse s = false
theorem Fm.kept {N g Bs sb rb : Nat} {W2 : World} {O : Nat → Prop} {W W' : World} (h : Fm N g Bs sb rb W2 O W) (hs : W.heap.size ≤ W'.heap.size) (hk : ∀ k, O k → W'.heap[k]? = W.heap[k]?) : Fm N g Bs sb rb W2 O W' := by
  obtain ⟨h1, h2, h3⟩ := h
  exact ⟨h1, Nat.le_trans h2 hs, fun k a b c d e => (hk k (by rw [h1]; exact ⟨a, b, c⟩)).trans (h3 k a b c d e)⟩
theorem fJ_held (N g Bs sb rb : Nat) (W2 : World) (l : List (List Pt)) (s : ByteArray) : Held (FJ N g Bs sb rb W2 l s) :=
  ⟨fun ⟨h1, _⟩ k hk => by
      obtain ⟨e, h2, -⟩ := h1
      rw [e] at hk
      exact Nat.lt_of_lt_of_le hk.1 h2,
    fun ⟨h1, h2, h3, t, h4, h5⟩ hs hk => by
      have e := h1.1
      exact ⟨h1.kept hs hk, h2, h3.block (hk _ (by rw [e]; exact ⟨h2.2.2.2.1, h2.2.2.2.2.1, h2.2.2.2.2.2⟩)), t, h4.block (hk _ (by rw [e]; exact ⟨h2.1, h2.2.1, h2.2.2.1⟩)), h5⟩⟩
theorem fX_held (N g Bs sb rb : Nat) (W2 : World) (l : List (List Pt)) (s : ByteArray) (c : Code) : Held (FX N g Bs sb rb W2 l s c) :=
  ⟨fun ⟨_, h1, _⟩ k hk => by
      obtain ⟨e, h2, -⟩ := h1
      rw [e] at hk
      exact Nat.lt_of_lt_of_le hk.1 h2,
    fun ⟨h0, h1, h2, h3, h4⟩ hs hk => by
      have e := h1.1
      exact ⟨h0, h1.kept hs hk, h2, h3.block (hk _ (by rw [e]; exact ⟨h2.2.2.2.1, h2.2.2.2.2.1, h2.2.2.2.2.2⟩)), h4⟩⟩
/-- Within a round: besides, the box of the change. -/
def CAx (J : List Nat → (Nat → Prop) → World → Prop) (vs : Nat → Value) (act : Nat → Nat → Act) (pre : List Nat) (x : Nat) (a' : Act) (B : Nat → Prop) (W : World) : Prop :=
  ∃ O Bx, J pre O W ∧ (∀ k, B k ↔ O k ∨ k = Bx) ∧ ¬ O Bx ∧ Bxd W Bx (vs x) ∧ a' = act x Bx
theorem cAx_held {J : List Nat → (Nat → Prop) → World → Prop} (hJ : Held J) (vs : Nat → Value) (act : Nat → Nat → Act) (pre : List Nat) (x : Nat) (a' : Act) : Held (fun (_ : Unit) => CAx J vs act pre x a') :=
  ⟨fun ⟨O, Bx, h, hB, _, hx, _⟩ k hk => by
      rcases (hB k).1 hk with c | rfl
      · exact hJ.lt h k c
      · exact hx.lt,
    fun ⟨O, Bx, h, hB, hn, hx, ha⟩ hs hk => ⟨O, Bx, hJ.kept h hs (fun k c => hk k ((hB k).2 (.inl c))), hB, hn, hx.block (hk Bx ((hB Bx).2 (.inr rfl))), ha⟩⟩

theorem fm_below {w W2 W : World} {O O' : Nat → Prop} {g : Nat} (hb : Below w.heap.size w W2) (hs : W2.heap.size = w.heap.size + 3) (fm : Fm (w.heap.size + 3) g (w.heap.size + 2) w.heap.size (w.heap.size + 1) W2 O' W) (mv : Moves O W2 O' W) (hO : ¬ O g) : Below w.heap.size w W :=
  ⟨mv.os.trans hb.os, mv.tape.trans hb.tape, mv.output.trans hb.output, Nat.le_trans hb.size mv.size, fun k hk => by
    by_cases e : k = g
    · subst e; exact (mv.same k (by omega) hO).trans (hb.block k hk)
    · exact (fm.2.2 k (by omega) e (by omega) (by omega) (by omega)).trans (hb.block k hk)⟩

set_option maxRecDepth 100000 in
set_option maxHeartbeats 4000000 in
theorem fitI_row {S : Nat → Prop} {w : World} {g off cap : Nat} {vs : Nat → Value} {l : List (List Pt)} {s : ByteArray} (h0 : 0 < l.length) (h20 : l.length ≤ 20) (a1 : l.length ≤ cap) (a2 : cap ≤ maxLen) (h : DMo 0 S w g off l vs 0) (hm : SmC l) (hg : good s.data.toList = true) (hT : Tab w) (hgT : g ≠ 0) :
    Calls Tryd.prog 57 #[.slice (some ⟨g, off, none⟩) l.length cap, .string s] w fun e w' => e = .returned (.bool (fitR l.reverse s)) ∧ Below w.heap.size w w' := by
  have SO := hide (fun w' => backward_any (.slice (some ⟨g, off, none⟩) l.length cap) w' _ _ _ rfl)
  have HD := hide h
  have HM := hide hm
  have hHT := hide hT
  have ltT := hT.lt
  have ltg := h.lt
  have h21 : ¬ (20 < (l.length : Int)) := by omega
  have hdec : decide (20 < (l.length : Int)) = false := decide_eq_false h21
  clear h hm hT
  have hdep : Fence.wide.depth = none := rfl
  refine (callsIn_wide (n := 6)).1 ?_
  refine callsIn_of_wp_marks Tryd.func57 rfl trivial ?_ rfl
  simp only [Tryd.ntmps57, List.size_toArray, List.length_cons, List.length_nil, Nat.reduceAdd, Nat.reduceSub, Array.replicate_succ, Array.replicate_zero, List.push_toArray, List.append_toArray, List.nil_append, List.cons_append]
  gi_wp2_with (first
    | (refine ⟨trivial, ?_⟩; gi_at_call 122; refine (callsIn_wide.2 (SO.out _)).mono ?_; rintro e w' ⟨rfl, hw⟩; replace hw := hw.symm; subst hw))
  refine three_boxes (Φ := fun W2 => Code.wpIn _ _ _ _ _ _ W2) ?_
  intro W2 hB2 hs2 bs br bq
  have dm2 := HD.out.later hB2
  have hJ := fJ_held (w.heap.size + 3) g (w.heap.size + 2) w.heap.size (w.heap.size + 1) W2 l s
  have hO : Hid (¬ (fun k => k < w.heap.size + 3 ∧ k ≠ g ∧ k ≠ w.heap.size + 2) g) := hide (fun c => c.2.1 rfl)
  refine wpIn_range rfl (enters_of Tryd.func154 (by kernel_rfl) rfl)
    (back_iter (w := W2) (vs := vs) (g := g) (off := off) (n := l.length) (by omega) (fun _ => rfl) (by omega) dm2.c (fun i hi => by obtain ⟨a, c, e⟩ := (dm2.op i hi (Nat.zero_le _)).shp; exact ⟨a, _, c, e⟩) bq.cell) (fun _ => rfl)
    (J := FJ (w.heap.size + 3) g (w.heap.size + 2) w.heap.size (w.heap.size + 1) W2 l s) (Jx := FX (w.heap.size + 3) g (w.heap.size + 2) w.heap.size (w.heap.size + 1) W2 l s) (O := fun k => k < w.heap.size + 3 ∧ k ≠ g ∧ k ≠ w.heap.size + 2) hJ (fX_held _ _ _ _ _ _ _ _) (Nat.le_refl _)
    (by
      rintro k (rfl | rfl)
      · exact ⟨by omega, rfl, fun c => c.2.2 rfl⟩
      · exact ⟨by omega, rfl, fun c => c.2.1 rfl⟩)
    ⟨⟨rfl, by omega, fun k _ _ _ _ _ => rfl⟩, ⟨by omega, by omega, by omega, by omega, by omega, by omega⟩, br, s, bs, hg, by simp⟩
    (cAx_held hJ vs (fun x Bx => { tmps := #[.slice (some ⟨g, off, none⟩) l.length cap, .string s, undef, .pointer (some ⟨w.heap.size, 0, none⟩), .pointer (some ⟨w.heap.size + 1, 0, none⟩), undef, .pointer (some ⟨Bx, 0, none⟩), undef, .slice (some ⟨g, off, none⟩) l.length cap, .int .i64 (l.length : Int), .bool false, .slice (some ⟨g, off, none⟩) l.length cap, .func (.func 154) #[] #[.pointer (some ⟨w.heap.size + 1 + 1, 0, none⟩)], .int .i64 (x : Int), .agg #[vs x], undef, undef, undef, undef, undef, undef, undef, undef, undef], defers := [] }))
    ?assigned ?round ?done ?stop
  case assigned =>
    rintro l1 pre x O W K hj hx hK
    have hxl : x < l.length := by have := dn_next hx; omega
    obtain ⟨va, vm, vc, ev⟩ : ∃ va vm vc, vs x = .slice va vm vc := by obtain ⟨a, c, e⟩ := (dm2.op x hxl (Nat.zero_le _)).shp; exact ⟨a, _, c, e⟩
    have hbx := bxd_new W (vs x)
    simp only [chE]
    rw [ev] at hbx ⊢
    gi_wp2
    exact hK _ _ _ ((Moves.refl _ _).alloc _) ⟨O, W.heap.size, hJ.up hj ((Below.refl _ _).alloc (Nat.le_refl _) _), fun _ => Iff.rfl, fun c => absurd (hJ.lt hj _ c) (by omega), by rw [ev]; exact hbx _, by simp only [ev]⟩
  case round =>
    rintro l1 pre x a' O W ⟨O1, Bx, ⟨hfm, hne, hrb, t, hsb, hgt, hfit⟩, hB, hnB, hbx, rfl⟩ hl1 hnl hx
    obtain ⟨hx1, hx2⟩ := dn_next hx
    have hxl : x < l.length := by omega
    have hOe := hfm.1
    have hN := hfm.2.1
    have tabW : Tab W := (hHT.out.below hB2).block (hfm.2.2 _ (by omega) (Ne.symm hgT) (by omega) (by omega) (by omega))
    have prW : PR W (vs x) l[x] := (HD.out.op x hxl (Nat.zero_le _)).keep (by omega) (fun y hy hl => (hfm.2.2 y (by omega) (HD.out.opS x hxl y hy).2 (by omega) (by omega) (by omega)).trans (hB2.block y hl))
    obtain ⟨aw, gi, ci, ev, hp⟩ := prW.pin (by omega) (HM.out.2 x hxl).1 (HM.out.2 x hxl).2
    have hgsz := good_sz hgt
    have hst := fit_step hxl t
    rw [show l.length - pre.length = x + 1 by omega, hst] at hfit
    have hlen : l.length - (pre ++ [x]).length = x := by simp; omega
    have AP : Hid (∀ w2, Below W.heap.size W w2 → _) := hide (fun w2 hb => applyI t (hp.later hb) (tabW.below hb) (by omega))
    rw [ev] at hbx
    have e1 := hbx.cell
    have e2 := hsb.cell
    have f2 := hsb.fz
    have HB := hide hB
    have HFM := hide hfm
    have HSB := hide hsb
    have HRB := hide hrb
    have HX := hide hx2
    have HNE := hide hne
    have HOE := hide hOe
    have HLE := hide hlen
    clear hx1 hx2 hx tabW prW hp hst hfm hsb hrb hB hne hOe hgt hbx hnl hnB hlen hN hl1
    have hmix : Tryd.prog.follows .mixedOrders = true := by kernel_rfl
    have MV : Hid (∀ W', Moves O1 W O1 W' → Moves O W O1 W') := hide (fun W' m => m.wider (fun k _ c => (HB.out k).2 (.inl c)) (fun k _ c => (HB.out k).2 (.inl c)))
    simp only [ev]
    cases hok : (aplO l[x] t).2 with
    | true =>
      have HG := hide (apl_gd hok)
      rw [hok, Bool.true_and] at hfit
      have HF := hide hfit
      rw [hok] at AP
      obtain ⟨T, hT⟩ : ∃ T, (aplO l[x] t).1 = T := ⟨_, rfl⟩
      rw [hT] at AP HG HF
      clear hfit hok hT
      gi_wp2_with (refine ⟨trivial, ?_⟩; gi_at_call 26; refine (callsIn_wide.2 (AP.out _ (Below.refl _ _))).mono ?_; rintro e w2 ⟨rfl, hb2⟩; have q2 := (HSB.out.up hb2).cell; have q3 := (HSB.out.up hb2).fz)
      have hOe := HOE.out
      have hne := HNE.out
      refine ⟨O1, MV.out _ ((moves_up hb2).setCell (fun _ => by rw [hOe]; exact ⟨hne.1, hne.2.1, hne.2.2.1⟩) _), ⟨hOe, ?_, fun k h1 h2 h3 h4 h5 => ?_⟩, hne, ?_, T, ?_, HG.out, ?_⟩
      · have := hb2.size; have := HFM.out.2.1; simp [World.setCell]; omega
      · exact (Below.heap_setCell _ _ _ _ (by show k ≠ w.heap.size; exact h4)).trans ((hb2.block k (by have := HFM.out.2.1; omega)).trans (HFM.out.2.2 k h1 h2 h3 h4 h5))
      · exact (HRB.out.up hb2).other (by omega) _
      · exact (HSB.out.up hb2).set _
      · rw [HLE.out]; exact HF.out
    | false =>
      rw [hok, Bool.false_and] at hfit
      have HF := hide hfit
      rw [hok] at AP
      obtain ⟨T, hT⟩ : ∃ T, (aplO l[x] t).1 = T := ⟨_, rfl⟩
      rw [hT] at AP
      clear hfit hok hT
      have KR : Hid (∀ w2, Below W.heap.size W w2 → ∀ v, (w2.setCell ⟨w.heap.size, 0, none⟩ v).cell? ⟨w.heap.size + 1, 0, none⟩ = some (.bool false) ∧ (w2.setCell ⟨w.heap.size, 0, none⟩ v).frozen? ⟨w.heap.size + 1, 0, none⟩ = false) := hide (fun w2 hb v => ⟨((HRB.out.up hb).other (by omega) _).cell, ((HRB.out.up hb).other (by omega) _).fz⟩)
      gi_wp2_with (refine ⟨trivial, ?_⟩; gi_at_call 26; refine (callsIn_wide.2 (AP.out _ (Below.refl _ _))).mono ?_; rintro e w2 ⟨rfl, hb2⟩; have q2 := (HSB.out.up hb2).cell; have q3 := (HSB.out.up hb2).fz; obtain ⟨q4, q5⟩ := KR.out w2 hb2 (.string T))
      have hOe := HOE.out
      have hne := HNE.out
      refine ⟨O1, MV.out _ (((moves_up hb2).setCell (fun _ => by rw [hOe]; exact ⟨hne.1, hne.2.1, hne.2.2.1⟩) _).setCell (fun _ => by rw [hOe]; exact ⟨hne.2.2.2.1, hne.2.2.2.2.1, hne.2.2.2.2.2⟩) _), rfl, ⟨hOe, ?_, fun k h1 h2 h3 h4 h5 => ?_⟩, hne, ?_, HF.out⟩
      · have := hb2.size; have := HFM.out.2.1; simp [World.setCell]; omega
      · exact (Below.heap_setCell _ _ _ _ (by show k ≠ w.heap.size + 1; exact h5)).trans ((Below.heap_setCell _ _ _ _ (by show k ≠ w.heap.size; exact h4)).trans ((hb2.block k (by have := HFM.out.2.1; omega)).trans (HFM.out.2.2 k h1 h2 h3 h4 h5)))
      · exact ((HRB.out.up hb2).other (by omega) _).set _
  case done =>
    rintro D O' W hD hnD ⟨hfm, hne, hrb, t, hsb, hgt, hfit⟩ mv hK
    have hB3 := fm_below hB2 hs2 hfm mv hO.out
    have hfin : Hid (fitR l.reverse s = true) := hide (by rw [hfit, dn_len, Nat.sub_self]; rfl)
    have nD : D ≠ w.heap.size + 1 := fun e => hnD (by rw [hfm.1, e]; exact ⟨hne.2.2.2.1, hne.2.2.2.2.1, hne.2.2.2.2.2⟩)
    have e1 := hrb.cell
    have f1 := hrb.fz
    have c3 := (hrb.set (.bool true)).cell
    have hK2 : (W.setCell ⟨w.heap.size + 1, 0, none⟩ (.bool true)).heap[D]? = some (.deferred (some [])) := (Below.heap_setCell _ _ _ _ nD).trans hK
    have k1 : ((W.setCell ⟨w.heap.size + 1, 0, none⟩ (.bool true)).putObj D (.deferred none)).cell? ⟨w.heap.size + 1, 0, none⟩ = some (.bool true) := (World.cell?_of_block (World.putObj_heap_other (Ne.symm nD))).trans c3
    have HE := hide ((hB3.setCell (p := ⟨w.heap.size + 1, 0, none⟩) (by show _ ≤ _ + 1; omega) (.bool true)).trans (⟨rfl, rfl, rfl, by simp, fun k hk => World.putObj_heap_other (by omega)⟩ : Below w.heap.size (W.setCell ⟨w.heap.size + 1, 0, none⟩ (.bool true)) ((W.setCell ⟨w.heap.size + 1, 0, none⟩ (.bool true)).putObj D (.deferred none))))
    clear hB3 hfm hsb hrb mv hnD hfit hgt
    gi_wp2
    refine ⟨by simp, .inl ⟨_, _, rfl, run_takeDeferred hK2, ?_⟩⟩
    refine ⟨.bool true, ?_, by rw [hfin.out], HE.out⟩
    simp [results, Tryd.f57, go_sem, k1]
  case stop =>
    rintro D c pre O' W hD hnD hpre ⟨rfl, hfm, hne, hrb, hfit⟩ mv hK
    have hB3 := fm_below hB2 hs2 hfm mv hO.out
    have hfin := hide hfit
    have nD : D ≠ w.heap.size + 1 := fun e => hnD (by rw [hfm.1, e]; exact ⟨hne.2.2.2.1, hne.2.2.2.2.1, hne.2.2.2.2.2⟩)
    have k1 : (W.putObj D (.deferred none)).cell? ⟨w.heap.size + 1, 0, none⟩ = some (.bool false) := (World.cell?_of_block (World.putObj_heap_other (Ne.symm nD))).trans hrb.cell
    have HE := hide (hB3.trans (⟨rfl, rfl, rfl, by simp, fun k hk => World.putObj_heap_other (by omega)⟩ : Below w.heap.size W (W.putObj D (.deferred none))))
    clear hB3 hfm hrb mv hnD hfit
    gi_wp2
    refine ⟨by simp, .inl ⟨_, _, rfl, run_takeDeferred hK, ?_⟩⟩
    refine ⟨.bool false, ?_, by rw [hfin.out], HE.out⟩
    simp [results, Tryd.f57, go_sem, k1]
set_option maxRecDepth 100000 in
set_option maxHeartbeats 4000000 in
theorem fitI_nil {w : World} {aq : Option Addr} {cap : Nat} {s : ByteArray} (hg : good s.data.toList = true) :
    Calls Tryd.prog 57 #[.slice aq 0 cap, .string s] w fun e w' => e = .returned (.bool true) ∧ Below w.heap.size w w' := by
  have SO := hide (fun w' => backward_any (.slice aq 0 cap) w' _ _ _ rfl)
  have hdep : Fence.wide.depth = none := rfl
  refine (callsIn_wide (n := 6)).1 ?_
  refine callsIn_of_wp_marks Tryd.func57 rfl trivial ?_ rfl
  simp only [Tryd.ntmps57, List.size_toArray, List.length_cons, List.length_nil, Nat.reduceAdd, Nat.reduceSub, Array.replicate_succ, Array.replicate_zero, List.push_toArray, List.append_toArray, List.nil_append, List.cons_append]
  gi_wp2_with (first
    | (refine ⟨trivial, ?_⟩; gi_at_call 122; refine (callsIn_wide.2 (SO.out _)).mono ?_; rintro e w' ⟨rfl, hw⟩; replace hw := hw.symm; subst hw))
  refine three_boxes (Φ := fun W2 => Code.wpIn _ _ _ _ _ _ W2) ?_
  intro W2 hB2 hs2 bs br bq
  have hJ := fJ_held (w.heap.size + 3) (w.heap.size + 2) (w.heap.size + 2) w.heap.size (w.heap.size + 1) W2 [] s
  have hO : Hid (¬ (fun k => k < w.heap.size + 3 ∧ k ≠ w.heap.size + 2 ∧ k ≠ w.heap.size + 2) (w.heap.size + 2)) := hide (fun c => c.2.1 rfl)
  refine wpIn_range rfl (enters_of Tryd.func154 (by kernel_rfl) rfl)
    (back_iter (w := W2) (vs := fun _ => undef) (g := w.heap.size + 2) (off := 0) (n := 0) (by omega) (fun c => by omega) (by omega) (fun i hi => by omega) (fun i hi => by omega) bq.cell) (fun _ => rfl)
    (J := FJ (w.heap.size + 3) (w.heap.size + 2) (w.heap.size + 2) w.heap.size (w.heap.size + 1) W2 [] s) (Jx := fun _ _ _ _ => False) (O := fun k => k < w.heap.size + 3 ∧ k ≠ w.heap.size + 2 ∧ k ≠ w.heap.size + 2) hJ (fun _ => no_held) (Nat.le_refl _)
    (by
      rintro k (rfl | rfl)
      · exact ⟨by omega, rfl, fun c => c.2.2 rfl⟩
      · exact ⟨by omega, rfl, fun c => c.2.1 rfl⟩)
    ⟨⟨rfl, by omega, fun k _ _ _ _ _ => rfl⟩, ⟨by omega, by omega, by omega, by omega, by omega, by omega⟩, br, s, bs, hg, by simp⟩
    (Ax := fun _ _ _ _ _ => False) (fun _ _ _ => no_held)
    ?assigned ?round ?done ?stop
  case assigned => exact fun _ pre x _ _ _ _ hx _ => absurd (dn_next hx).1 (by omega)
  case round => exact fun _ _ _ _ _ _ h => h.elim
  case done =>
    rintro D O' W hD hnD ⟨hfm, hne, hrb, t, hsb, hgt, hfit⟩ mv hK
    have hB3 := fm_below hB2 hs2 hfm mv hO.out
    have nD : D ≠ w.heap.size + 1 := fun e => hnD (by rw [hfm.1, e]; exact ⟨hne.2.2.2.1, hne.2.2.2.2.1, hne.2.2.2.2.2⟩)
    have e1 := hrb.cell
    have f1 := hrb.fz
    have c3 := (hrb.set (.bool true)).cell
    have hK2 : (W.setCell ⟨w.heap.size + 1, 0, none⟩ (.bool true)).heap[D]? = some (.deferred (some [])) := (Below.heap_setCell _ _ _ _ nD).trans hK
    have k1 : ((W.setCell ⟨w.heap.size + 1, 0, none⟩ (.bool true)).putObj D (.deferred none)).cell? ⟨w.heap.size + 1, 0, none⟩ = some (.bool true) := (World.cell?_of_block (World.putObj_heap_other (Ne.symm nD))).trans c3
    have HE := hide ((hB3.setCell (p := ⟨w.heap.size + 1, 0, none⟩) (by show _ ≤ _ + 1; omega) (.bool true)).trans (⟨rfl, rfl, rfl, by simp, fun k hk => World.putObj_heap_other (by omega)⟩ : Below w.heap.size (W.setCell ⟨w.heap.size + 1, 0, none⟩ (.bool true)) ((W.setCell ⟨w.heap.size + 1, 0, none⟩ (.bool true)).putObj D (.deferred none))))
    clear hB3 hfm hsb hrb mv hnD hfit hgt
    gi_wp2
    refine ⟨by simp, .inl ⟨_, _, rfl, run_takeDeferred hK2, ?_⟩⟩
    refine ⟨.bool true, ?_, rfl, HE.out⟩
    simp [results, Tryd.f57, go_sem, k1]
  case stop => exact fun _ _ _ _ _ _ _ _ h => h.elim

set_option maxRecDepth 100000 in
set_option maxHeartbeats 1000000 in
theorem fitI_long {w : World} {v : Value} {a : Option Addr} {n cap : Nat} {s : ByteArray} (ev : v = .slice a n cap) (h20 : ¬ n ≤ 20) :
    Calls Tryd.prog 57 #[v, .string s] w fun e w' => e = .returned (.bool false) ∧ Below w.heap.size w w' := by
  subst ev
  have h61 : (20 : Int) < (n : Int) := by omega
  obtain ⟨-, k2, k3, k4⟩ := cb_two w #[.string s] #[.bool false] 9 4
  have c1 := k2.cell 0 rfl
  have f1 := k2.fz 0
  have HB := hide k3
  go_enter Tryd.func57, Tryd.ntmps57
  go_wp2
  refine bodyPost_ret (v := .bool false) (by simp [results, Tryd.results57, go_sem]) rfl ⟨rfl, ?_⟩
  first | exact HB.out | exact HB.out.setCell (by show w.heap.size ≤ w.heap.size + 1; omega) _

/-- The program's. -/
theorem fitI {S : Nat → Prop} {w : World} {v : Value} {l : List (List Pt)} {s : ByteArray} (h : DR S w v l) (hm : SmC l) (hg : good s.data.toList = true) (hT : Tab w) (hS : ∀ y, S y → y ≠ 0) :
    Calls Tryd.prog 57 #[v, .string s] w fun e w' => e = .returned (.bool (fitT l s)) ∧ Below w.heap.size w w' := by
  by_cases h20 : l.length ≤ 20
  · have e20 : fitT l s = fitR l.reverse s := by unfold fitT; rw [decide_eq_true h20, Bool.and_true]
    rw [e20]
    rcases h with ⟨rfl, a, c, rfl⟩ | ⟨g, off, cap, vs, rfl, h0, a1, a2, a3⟩
    · exact fitI_nil hg
    · exact fitI_row h0 h20 a1 a2 a3 hm hg hT (hS g a3.inS)
  · have e20 : fitT l s = false := by unfold fitT; rw [decide_eq_false h20, Bool.and_false]
    rw [e20]
    obtain ⟨a, c, ev⟩ := h.shp
    exact fitI_long ev h20
end Go.Proofs.YtpeconmdmddkfaaDoor
