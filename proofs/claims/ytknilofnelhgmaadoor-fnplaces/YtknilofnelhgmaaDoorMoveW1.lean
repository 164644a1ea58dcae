/- The contract of impl.MovePlace. -/
import Derived.Test.YtknilofnelhgmaaDoorBoxes
import Derived.Test.YtknilofnelhgmaaDoorOpW3
import Derived.Test.YtknilofnelhgmaaDoorMoveSM
namespace Go.Proofs.YtknilofnelhgmaaDoor
open Go.RowKit Go.Shelf
open Doc1

attribute [local go_sem] Oper.semAt_some

/-- Four boxes laid, whatever their types. -/
theorem four_boxes {Φ : World → Prop} {W : World} {a b c d : Value} {t u v x : TypeId}
    (h : ∀ W2 : World, Below W.heap.size W W2 → W2.heap.size = W.heap.size + 4 → Bxd W2 W.heap.size a → Bxd W2 (W.heap.size + 1) b → Bxd W2 (W.heap.size + 2) c → Bxd W2 (W.heap.size + 3) d → Φ W2) :
    Φ ((((W.alloc (.cells #[a] t)).alloc (.cells #[b] u)).alloc (.cells #[c] v)).alloc (.cells #[d] x)) := by
  refine three_boxes (Φ := fun X => Φ (X.alloc (.cells #[d] x))) ?_
  intro X hb hs b1 b2 b3
  have b4 := bxd_new X d x
  rw [hs] at b4
  have hu : Below X.heap.size X (X.alloc (.cells #[d] x)) := (Below.refl _ _).alloc (Nat.le_refl _) _
  exact h _ (hb.trans (hu.mono hb.size)) (by simp [hs]) (b1.up hu) (b2.up hu) (b3.up hu) b4

/-- The place between two rounds. -/
def MJ (Ba Bt Bh Bp n : Nat) (pre : List St) (O : Nat → Prop) (W : World) : Prop :=
  ∃ t a p : Nat, pre.foldl (mvT n) mv0 = ⟨t, a, p, false⟩ ∧ (Bxd W Ba (.int .i64 (n : Int)) ∧ Bxd W Bt (.int .i64 (t : Int)) ∧ Bxd W Bh (.int .i64 (a : Int)) ∧ Bxd W Bp (.int .i64 (p : Int))) ∧ O = fun k => k ∈ [Ba, Bt, Bh, Bp]
theorem mJ_held (Ba Bt Bh Bp n : Nat) : Held (MJ Ba Bt Bh Bp n) := by
  refine ⟨?_, ?_⟩
  · rintro pre O W ⟨t, a, p, _, ⟨h1, h2, h3, h4⟩, rfl⟩ k hk
    simp only [List.mem_cons, List.not_mem_nil, or_false] at hk
    rcases hk with rfl | rfl | rfl | rfl
    · exact h1.lt
    · exact h2.lt
    · exact h3.lt
    · exact h4.lt
  · rintro pre O W W' ⟨t, a, p, he, ⟨h1, h2, h3, h4⟩, rfl⟩ hs hk
    exact ⟨t, a, p, he, ⟨h1.block (hk _ (by simp)), h2.block (hk _ (by simp)), h3.block (hk _ (by simp)), h4.block (hk _ (by simp))⟩, rfl⟩
/-- When a round has left: the place is passed. -/
def MX (Bh Bp n : Nat) (c : Code) (pre : List St) (O : Nat → Prop) (W : World) : Prop :=
  c = .exit 0 ∧ ∃ t a p : Nat, pre.foldl (mvT n) mv0 = ⟨t, a, p, true⟩ ∧ (Bxd W Bh (.int .i64 (a : Int)) ∧ Bxd W Bp (.int .i64 (p : Int))) ∧ O = fun k => k ∈ [Bh, Bp]
theorem mX_held (Bh Bp n : Nat) (c : Code) : Held (MX Bh Bp n c) := by
  refine ⟨?_, ?_⟩
  · rintro pre O W ⟨_, t, a, p, _, ⟨h1, h2⟩, rfl⟩ k hk
    simp only [List.mem_cons, List.not_mem_nil, or_false] at hk
    rcases hk with rfl | rfl
    · exact h1.lt
    · exact h2.lt
  · rintro pre O W W' ⟨hc, t, a, p, he, ⟨h1, h2⟩, rfl⟩ hs hk
    exact ⟨hc, t, a, p, he, ⟨h1.block (hk _ (by simp)), h2.block (hk _ (by simp))⟩, rfl⟩
theorem mv_pre {n : Nat} {pre xs : List St} (h : pre <+: xs) (he : (pre.foldl (mvT n) mv0).e = true) : xs.foldl (mvT n) mv0 = pre.foldl (mvT n) mv0 := by
  obtain ⟨r, rfl⟩ := h
  rw [List.foldl_append, mv_end n r _ he]
theorem mv_snoc (n : Nat) (pre : List St) (x : St) : (pre ++ [x]).foldl (mvT n) mv0 = mvT n (pre.foldl (mvT n) mv0) x := by rw [List.foldl_append]; rfl
theorem mv_bd (n : Nat) : ∀ (pre : List St) (s : MvS), (pre.foldl (mvT n) s).t ≤ s.t + pre.length ∧ (pre.foldl (mvT n) s).a + (pre.foldl (mvT n) s).p ≤ s.a + s.p + pre.length
  | [], s => by simp
  | x :: pre, s => by
    have ih := mv_bd n pre (mvT n s x)
    rw [List.foldl_cons, List.length_cons]
    have : (mvT n s x).t ≤ s.t + 1 ∧ (mvT n s x).a + (mvT n s x).p ≤ s.a + s.p + 1 := by
      unfold mvT
      split
      · omega
      · split
        · simp; omega
        · split
          · split <;> simp <;> omega
          · simp
    omega

set_option maxRecDepth 100000 in
set_option maxHeartbeats 4000000 in
theorem moveI_good {w : World} {aw : Option Addr} {g cap : Nat} {l : List Pt} (n : Nat) (f : Bool) (h : Pin w aw g cap l) (hT : Tab w) (hg : goodO l = true) (hn : (n : Int) ≤ tkL l) :
    Calls Tryd.prog 28 #[.slice aw l.length cap, .int .i64 n, .bool f] w fun e w' => e = .returned (.tuple #[.int .i64 (if f then ((mvR l n).2 : Int) else ((mvR l n).1 : Int)), .bool true]) ∧ Below w.heap.size w w' := by
  have S := hide (fun w' (hb : Below w.heap.size w w') => sizesI_any (h.later hb) (hT.below hb))
  have hsT : szT l = tkL l := by unfold szT; rw [hg]; rfl
  rw [hg, hsT] at S
  have hpk := goodO_pk hg
  have SO := hide (fun w' => stepsOf_any (.slice aw l.length cap) w' _ _ _ rfl)
  have H := hide h
  have hHT := hide hT
  have hst := st_len hg
  have hn3 : (n : Int) ≤ 300 := by have := (goodO_le hg).2.1; omega
  clear h hT hg hsT
  generalize htk : tkL l = tk at *
  clear htk
  have hdep : Fence.wide.depth = none := rfl
  refine (callsIn_wide (n := 6)).1 ?_
  refine callsIn_of_wp_marks Tryd.func28 rfl trivial ?_ rfl
  simp only [Tryd.ntmps28, List.size_toArray, List.length_cons, List.length_nil, Nat.reduceAdd, Nat.reduceSub, Array.replicate_succ, Array.replicate_zero, List.push_toArray, List.append_toArray, List.nil_append, List.cons_append]
  have hb0 : Hid (∀ a : Obj, Below w.heap.size w (w.alloc a)) := hide (fun a => (Below.refl _ _).alloc (Nat.le_refl _) _)
  have cA : Hid (∀ t : TypeId, Bxd (w.alloc (.cells #[.int .i64 (n : Int)] t)) w.heap.size (.int .i64 (n : Int))) := hide (fun t => bxd_new w _ t)
  gi_wp2_with (first
    | (refine ⟨trivial, ?_⟩; gi_at_call 16; refine (callsIn_wide.2 (S.out _ (hb0.out _))).mono ?_; rintro e w1 ⟨rfl, hb1⟩; have q1 := (cA.out _).up hb1; have ca := q1.cell)
    | (refine ⟨trivial, ?_⟩; gi_at_call 51; refine (callsIn_wide.2 (SO.out _)).mono ?_; rintro e w' ⟨rfl, hw⟩; replace hw := hw.symm; subst hw))
  have hsw : w.heap.size + 1 ≤ w1.heap.size := by have := hb1.size; simpa using this
  have R3 := hide ((hb0.out _).trans (hb1.mono (hb0.out _).size))
  refine four_boxes (Φ := fun W2 => Code.wpIn _ _ _ _ _ _ W2) ?_
  intro W2 hB2 hs2 bt bh bp bq
  have hbW : Below w.heap.size w W2 := R3.out.trans (hB2.mono R3.out.size)
  have pin2 := H.out.later hbW
  have tab2 := hHT.out.below hbW
  have ltT := hHT.out.lt
  have ltg := H.out.lt
  have qa := q1.up hB2
  have hd : w.heap.size < w1.heap.size ∧ w1.heap.size < w1.heap.size + 1 ∧ w1.heap.size + 1 < w1.heap.size + 1 + 1 := by omega
  have hJ := mJ_held w.heap.size w1.heap.size (w1.heap.size + 1) (w1.heap.size + 1 + 1) n
  refine wpIn_range rfl (enters_of Tryd.func89 (by kernel_rfl) rfl) (steps_iter pin2 tab2 bq.cell hpk) (fun _ => rfl)
    (J := MJ w.heap.size w1.heap.size (w1.heap.size + 1) (w1.heap.size + 1 + 1) n) (Jx := MX (w1.heap.size + 1) (w1.heap.size + 1 + 1) n) (O := fun k => k ∈ [w.heap.size, w1.heap.size, w1.heap.size + 1, w1.heap.size + 1 + 1]) hJ (mX_held _ _ _) (Nat.le_refl _)
    (by
      rintro k (rfl | rfl | rfl)
      · exact ⟨by omega, rfl, fun c => by simp at c; omega⟩
      · exact ⟨by omega, rfl, fun c => by simp at c; omega⟩
      · exact ⟨by omega, rfl, fun c => by simp at c; omega⟩)
    ⟨0, 0, 0, rfl, ⟨qa, bt, bh, bp⟩, rfl⟩
    (xAx_held hJ (fun x Bx => { tmps := #[.slice aw l.length cap, .int .i64 (n : Int), .bool f, undef, .pointer (some ⟨w.heap.size, 0, none⟩), undef, .int .i64 0, .bool false, .int .i64 tk, .int .i64 (szM l), .bool true,
      .pointer (some ⟨w1.heap.size, 0, none⟩), .pointer (some ⟨w1.heap.size + 1, 0, none⟩), .pointer (some ⟨w1.heap.size + 1 + 1, 0, none⟩), .pointer (some ⟨Bx, 0, none⟩), .tuple #[.int .i64 tk, .int .i64 (szM l), .bool true], .slice aw l.length cap, .tuple #[.int .i64 tk, .int .i64 (szM l), .bool true], .int .i64 tk, .int .i64 (szM l), .bool true, .bool true, .bool false, .bool false, .int .i64 (n : Int), .bool (decide ((n : Int) < 0)), .bool (decide ((n : Int) < 0)), .bool (decide ((n : Int) < 0)), .int .i64 (n : Int), .int .i64 tk, .bool (decide (tk < (n : Int))), .bool (decide ((n : Int) < 0) || decide (tk < (n : Int))), .slice aw l.length cap, .func (.func 89) #[] #[.pointer (some ⟨w1.heap.size + 1 + 1 + 1, 0, none⟩)], .agg #[.int .i64 (x.k : Int), .int .u8 (x.c.toNat : Int)], undef, undef, undef, undef, undef, undef, undef, undef, undef, undef, undef, undef, undef, undef, undef, undef, undef, undef, undef, undef, undef, undef], defers := [] }))
    ?assigned ?round ?done ?stop
  case assigned =>
    rintro l1 pre x O W K hj hx hK
    have hbx := box2_new W (.int .i64 (x.k : Int)) (.int .u8 (x.c.toNat : Int))
    simp only [stE, stV]
    gi_wp2
    exact hK _ _ _ ((Moves.refl _ _).alloc _) ⟨O, W.heap.size, hJ.up hj ((Below.refl _ _).alloc (Nat.le_refl _) _), fun _ => Iff.rfl, fun c => absurd (hJ.lt hj _ c) (by omega), hbx _, rfl⟩
  case round =>
    rintro l1 pre x a' O W ⟨O1, Bx, ⟨t, a, p, hfold, hbs, rfl⟩, hB, hnB, hbx, rfl⟩ hl1 hnl hx
    have hso := (stL_so hpk x (hx.subset (by simp))).1
    have hlen : pre.length ≤ 600 := by have := pre_len hx; simp at this; omega
    have hbd := mv_bd n pre mv0
    rw [hfold] at hbd
    simp only [mv0, Nat.zero_add] at hbd
    have ht6 : t ≤ 600 := by omega
    have ha6 : a ≤ 600 := by omega
    have hp6 : p ≤ 600 := by omega
    clear hbd
    have HF := hide hfold
    have HBS := hide hbs
    obtain ⟨b1, b2, b3, b4⟩ := hbs
    have e1 := b1.cell
    have e2 := b2.cell
    have e3 := b3.cell
    have e4 := b4.cell
    have f2 := b2.fz
    have f3 := b3.fz
    have f4 := b4.fz
    obtain ⟨c0, c1⟩ := hbx.cells
    have HB := hide hB
    have MV : Hid (∀ O' W', Moves (fun k => k ∈ [w.heap.size, w1.heap.size, w1.heap.size + 1, w1.heap.size + 1 + 1]) W O' W' → Moves O W O' W') := hide (fun O' W' m => m.wider (fun k _ c => (HB.out k).2 (.inl c)) (fun k hk c => (HB.out k).2 (.inl (m.own k hk c))))
    clear hB hx b1 b2 b3 b4 hnB hbx hnl hl1 hlen hfold
    obtain ⟨k, c⟩ := x
    rcases hso with e | e | e <;> (simp only at e; subst e)
    · by_cases hnt : n ≤ t
      · have hq : Hid ((pre ++ [(⟨1, c⟩ : St)]).foldl (mvT n) mv0 = ⟨t, a, p, true⟩) := hide (by rw [mv_snoc, HF.out]; simp [mvT, hnt])
        gi_wp2
        exact ⟨fun k => k ∈ [w1.heap.size + 1, w1.heap.size + 1 + 1], MV.out _ _ ((Moves.refl _ _).wider (fun _ _ c => c) (fun k _ c => by simp at c ⊢; omega)), rfl, t, a, p, hq.out, ⟨HBS.out.2.2.1, HBS.out.2.2.2⟩, rfl⟩
      · have hq : Hid ((pre ++ [(⟨1, c⟩ : St)]).foldl (mvT n) mv0 = ⟨t + 1, a + (p + 1), 0, false⟩) := hide (by rw [mv_snoc, HF.out]; simp [mvT, hnt])
        have X3 := HBS.out.2.2.1.set (.int .i64 ((a : Int) + ((p : Int) + 1)))
        have X4 := HBS.out.2.2.2.other (B' := w1.heap.size + 1) (by omega) (.int .i64 ((a : Int) + ((p : Int) + 1)))
        have X2 := HBS.out.2.1.other (B' := w1.heap.size + 1) (by omega) (.int .i64 ((a : Int) + ((p : Int) + 1)))
        have X1 := HBS.out.1.other (B' := w1.heap.size + 1) (by omega) (.int .i64 ((a : Int) + ((p : Int) + 1)))
        have g4 := X4.cell
        have z4 := X4.fz
        have Y2 := X2.other (B' := w1.heap.size + 1 + 1) (by omega) (.int .i64 0)
        have g2 := Y2.cell
        have z2 := Y2.fz
        have Y1 := X1.other (B' := w1.heap.size + 1 + 1) (by omega) (.int .i64 0)
        have Y3 := X3.other (B' := w1.heap.size + 1 + 1) (by omega) (.int .i64 0)
        have Y4 := X4.set (.int .i64 0)
        have Z := hide (And.intro (Y1.other (B' := w1.heap.size) (by omega) (.int .i64 ((t : Int) + 1))) (And.intro (Y2.set (.int .i64 ((t : Int) + 1))) (And.intro (Y3.other (B' := w1.heap.size) (by omega) (.int .i64 ((t : Int) + 1))) (Y4.other (B' := w1.heap.size) (by omega) (.int .i64 ((t : Int) + 1))))))
        clear X1 X2 X3 X4 Y1 Y2 Y3 Y4
        gi_wp2
        refine ⟨_, MV.out _ _ ((((Moves.refl _ _).setCell (fun _ => by simp) _).setCell (fun _ => by simp) _).setCell (fun _ => by simp) _), t + 1, a + (p + 1), 0, hq.out, ?_, rfl⟩
        rw [show ((t + 1 : Nat) : Int) = (t : Int) + 1 by omega, show ((a + (p + 1) : Nat) : Int) = (a : Int) + ((p : Int) + 1) by omega]
        exact Z.out
    · have hq : Hid ((pre ++ [(⟨2, c⟩ : St)]).foldl (mvT n) mv0 = ⟨t, a, p + 1, false⟩) := hide (by rw [mv_snoc, HF.out]; simp [mvT])
      have Z := hide (And.intro (HBS.out.1.other (B' := w1.heap.size + 1 + 1) (by omega) (.int .i64 ((p : Int) + 1))) (And.intro (HBS.out.2.1.other (B' := w1.heap.size + 1 + 1) (by omega) (.int .i64 ((p : Int) + 1))) (And.intro (HBS.out.2.2.1.other (B' := w1.heap.size + 1 + 1) (by omega) (.int .i64 ((p : Int) + 1))) (HBS.out.2.2.2.set (.int .i64 ((p : Int) + 1))))))
      gi_wp2
      refine ⟨_, MV.out _ _ ((Moves.refl _ _).setCell (fun _ => by simp) _), t, a, p + 1, hq.out, ?_, rfl⟩
      rw [show ((p + 1 : Nat) : Int) = (p : Int) + 1 by omega]
      exact Z.out
    · have hq : Hid ((pre ++ [(⟨3, c⟩ : St)]).foldl (mvT n) mv0 = ⟨t + 1, a, p, false⟩) := hide (by rw [mv_snoc, HF.out]; simp [mvT])
      have Z := hide (And.intro (HBS.out.1.other (B' := w1.heap.size) (by omega) (.int .i64 ((t : Int) + 1))) (And.intro (HBS.out.2.1.set (.int .i64 ((t : Int) + 1))) (And.intro (HBS.out.2.2.1.other (B' := w1.heap.size) (by omega) (.int .i64 ((t : Int) + 1))) (HBS.out.2.2.2.other (B' := w1.heap.size) (by omega) (.int .i64 ((t : Int) + 1))))))
      gi_wp2
      refine ⟨_, MV.out _ _ ((Moves.refl _ _).setCell (fun _ => by simp) _), t + 1, a, p, hq.out, ?_, rfl⟩
      rw [show ((t + 1 : Nat) : Int) = (t : Int) + 1 by omega]
      exact Z.out
  case done =>
    rintro D O' W hD hnD ⟨t, a, p, hfold, ⟨b1, b2, b3, b4⟩, rfl⟩ mv hK
    have hbd := mv_bd n (stL l) mv0
    rw [hfold] at hbd
    simp only [mv0, Nat.zero_add] at hbd
    have ha6 : a ≤ 600 := by omega
    have hp6 : p ≤ 600 := by omega
    have hR : Hid (mvR l n = (a, a + p)) := hide (by unfold mvR foldP; rw [hfold])
    have nD1 : D ≠ w1.heap.size + 1 := fun e => hnD (by simp [e])
    have nD2 : D ≠ w1.heap.size + 1 + 1 := fun e => hnD (by simp [e])
    have hB3 : Below w.heap.size w W := hbW.trans (mv.below (by omega) (fun k hk c => by simp at c; omega))
    clear b1 b2 mv hnD hfold hbd
    have e3 := b3.cell
    have e4 := b4.cell
    have f3 := b3.fz
    cases f
    · have hK2 := hK
      have HE := hide (hB3.trans (⟨rfl, rfl, rfl, by simp, fun k hk => World.putObj_heap_other (by omega)⟩ : Below w.heap.size W (W.putObj D (.deferred none))))
      clear b3 b4 hB3
      gi_wp2
      refine ⟨by simp, .inl ⟨_, _, rfl, run_takeDeferred hK2, ?_⟩⟩
      refine ⟨.tuple #[.int .i64 (a : Int), .bool true], ?_, by simp [hR.out], HE.out⟩
      simp [results, Tryd.f28, go_sem]
    · have c3 := (b3.set (.int .i64 ((a : Int) + (p : Int)))).cell
      have hK2 : (W.setCell ⟨w1.heap.size + 1, 0, none⟩ (.int .i64 ((a : Int) + (p : Int)))).heap[D]? = some (.deferred (some [])) := (Below.heap_setCell _ _ _ _ nD1).trans hK
      have HE := hide ((hB3.setCell (p := ⟨w1.heap.size + 1, 0, none⟩) (by show _ ≤ _ + 1; omega) (.int .i64 ((a : Int) + (p : Int)))).trans (⟨rfl, rfl, rfl, by simp, fun k hk => World.putObj_heap_other (by omega)⟩ : Below w.heap.size (W.setCell ⟨w1.heap.size + 1, 0, none⟩ (.int .i64 ((a : Int) + (p : Int)))) ((W.setCell ⟨w1.heap.size + 1, 0, none⟩ (.int .i64 ((a : Int) + (p : Int)))).putObj D (.deferred none))))
      clear b3 b4 hB3
      gi_wp2
      refine ⟨by simp, .inl ⟨_, _, rfl, run_takeDeferred hK2, ?_⟩⟩
      refine ⟨.tuple #[.int .i64 ((a : Int) + (p : Int)), .bool true], ?_, by rw [hR.out]; simp, HE.out⟩
      simp [results, Tryd.f28, go_sem]
  case stop =>
    rintro D c pre O' W hD hnD hpre ⟨rfl, t, a, p, hfold, ⟨b3, b4⟩, rfl⟩ mv hK
    have hbd := mv_bd n (stL l) mv0
    have hall := mv_pre hpre (by rw [hfold])
    rw [hall, hfold] at hbd
    simp only [mv0, Nat.zero_add] at hbd
    have ha6 : a ≤ 600 := by omega
    have hp6 : p ≤ 600 := by omega
    have hR : Hid (mvR l n = (a, a + p)) := hide (by unfold mvR foldP; rw [hall, hfold])
    have nD1 : D ≠ w1.heap.size + 1 := fun e => hnD (by simp [e])
    have nD2 : D ≠ w1.heap.size + 1 + 1 := fun e => hnD (by simp [e])
    have hB3 : Below w.heap.size w W := hbW.trans (mv.below (by omega) (fun k hk c => by simp at c; omega))
    clear mv hnD hfold hbd hall hpre
    have e3 := b3.cell
    have e4 := b4.cell
    have f3 := b3.fz
    cases f
    · have hK2 := hK
      have HE := hide (hB3.trans (⟨rfl, rfl, rfl, by simp, fun k hk => World.putObj_heap_other (by omega)⟩ : Below w.heap.size W (W.putObj D (.deferred none))))
      clear b3 b4 hB3
      gi_wp2
      refine ⟨by simp, .inl ⟨_, _, rfl, run_takeDeferred hK2, ?_⟩⟩
      refine ⟨.tuple #[.int .i64 (a : Int), .bool true], ?_, by simp [hR.out], HE.out⟩
      simp [results, Tryd.f28, go_sem]
    · have c3 := (b3.set (.int .i64 ((a : Int) + (p : Int)))).cell
      have hK2 : (W.setCell ⟨w1.heap.size + 1, 0, none⟩ (.int .i64 ((a : Int) + (p : Int)))).heap[D]? = some (.deferred (some [])) := (Below.heap_setCell _ _ _ _ nD1).trans hK
      have HE := hide ((hB3.setCell (p := ⟨w1.heap.size + 1, 0, none⟩) (by show _ ≤ _ + 1; omega) (.int .i64 ((a : Int) + (p : Int)))).trans (⟨rfl, rfl, rfl, by simp, fun k hk => World.putObj_heap_other (by omega)⟩ : Below w.heap.size (W.setCell ⟨w1.heap.size + 1, 0, none⟩ (.int .i64 ((a : Int) + (p : Int)))) ((W.setCell ⟨w1.heap.size + 1, 0, none⟩ (.int .i64 ((a : Int) + (p : Int)))).putObj D (.deferred none))))
      clear b3 b4 hB3
      gi_wp2
      refine ⟨by simp, .inl ⟨_, _, rfl, run_takeDeferred hK2, ?_⟩⟩
      refine ⟨.tuple #[.int .i64 ((a : Int) + (p : Int)), .bool true], ?_, by rw [hR.out]; simp, HE.out⟩
      simp [results, Tryd.f28, go_sem]

set_option maxRecDepth 100000 in
set_option maxHeartbeats 4000000 in
theorem moveI {w : World} {aw : Option Addr} {g cap : Nat} {l : List Pt} (a : Int) (f : Bool) (h : Pin w aw g cap l) (hT : Tab w) :
    Calls Tryd.prog 28 #[.slice aw l.length cap, .int .i64 a, .bool f] w fun e w' => e = .returned (.tuple #[.int .i64 (mvA l a f), .bool (mvK l a)]) ∧ Below w.heap.size w w' := by
  unfold mvA
  cases hk : mvK l a with
  | true =>
    have := of_decide_eq_true hk
    obtain ⟨n, rfl⟩ : ∃ n : Nat, a = n := ⟨a.toNat, by omega⟩
    simp only [if_true, Int.toNat_natCast]
    exact moveI_good n f h hT this.1 this.2.2
  | false =>
    have hno := of_decide_eq_false hk
    have S := hide (fun w' (hb : Below w.heap.size w w') => sizesI_any (h.later hb) (hT.below hb))
    simp only [Bool.false_eq_true, if_false]
    have hb0 : Hid (∀ b : Obj, Below w.heap.size w (w.alloc b)) := hide (fun b => (Below.refl _ _).alloc (Nat.le_refl _) _)
    have cA : Hid (∀ t : TypeId, Bxd (w.alloc (.cells #[.int .i64 a] t)) w.heap.size (.int .i64 a)) := hide (fun t => bxd_new w _ t)
    cases h1 : goodO l with
    | false =>
      rw [h1] at S
      clear hno hk h hT
      go_enter Tryd.func28, Tryd.ntmps28
      go_wp2_with fail
      refine (S.out _ (hb0.out _)).mono ?_
      rintro e w1 ⟨rfl, hb1⟩
      have q1 := ((cA.out _).up hb1).cell
      have hbw := (hb0.out _).trans (hb1.mono (hb0.out _).size)
      clear hb1
      go_wp2
      go_ret2
      exact ⟨rfl, hbw⟩
    | true =>
      have hsT : szT l = tkL l := by unfold szT; rw [h1]; rfl
      rw [h1, hsT] at S
      have hr : a < 0 ∨ tkL l < a := by
        rcases Int.lt_or_le a 0 with c | c
        · exact .inl c
        · rcases Int.lt_or_le (tkL l) a with d | d
          · exact .inr d
          · exact absurd ⟨h1, c, d⟩ hno
      clear hno hk h hT hsT h1
      generalize tkL l = tk at *
      go_enter Tryd.func28, Tryd.ntmps28
      go_wp2_with fail
      refine (S.out _ (hb0.out _)).mono ?_
      rintro e w1 ⟨rfl, hb1⟩
      have q1 := ((cA.out _).up hb1).cell
      have hbw := (hb0.out _).trans (hb1.mono (hb0.out _).size)
      clear hb1
      by_cases hneg : a < 0
      · clear hr
        go_wp2
        go_ret2
        exact ⟨rfl, hbw⟩
      · have hr2 : tk < a := hr.resolve_left hneg
        clear hr
        go_wp2
        go_ret2
        exact ⟨rfl, hbw⟩
end Go.Proofs.YtknilofnelhgmaaDoor
