/- The contract of impl.MovePlace. The plain mathematics of places behind a change: they keep their order, the ends stay the ends, and a byte that is kept is found. The contracts that the law FnPlaces needs: numberOf, l3Sizes of any row, MovePlace of rows of one's own, the drawing of a change and a place. -/
import Derived.Test.YtbooongkbninhaaDoorBoxes
import Derived.Test.YtbooongkbninhaaDoorOpW36
import Derived.Test.YtbooongkbninhaaDoorMoveSZ
import Derived.Test.YtbooongkbninhaaDoorMoveM
import Derived.Test.YtbooongkbninhaaDoorOwnM
import Derived.Test.YtbooongkbninhaaDoorDrwN
namespace Go.Proofs.YtbooongkbninhaaDoor
open Go.RowKit Go.Shelf
open Doc1

attribute [local go_sem] Oper.semAt_some

/-- Four boxes laid, whatever their types. -/
theorem four_boxes {Φ : World → Prop} {W : World} {a b c d : Value} {t u v x : TypeId}
    (h : ∀ W2 : World, Below W.heap.size W W2 → W2.heap.size = W.heap.size + 4 → Bxd W2 W.heap.size a → Bxd W2 (W.heap.size + 1) b → Bxd W2 (W.heap.size + 2) c → Bxd W2 (W.heap.size + 3) d → Φ W2) :
    Φ ((((W.alloc (.cells #[a] t)).alloc (.cells #[b] u)).alloc (.cells #[c] v)).alloc (.cells #[d] x)) := by
  refine three_boxes (Φ := fun X => Φ (X.alloc (.cells #[d] x))) ?_
  intro X hb hs b1 b2 b3
  have b4 := bxd_new X d x
  rw [hs] at b4
  have hu : Below X.heap.size X (X.alloc (.cells #[d] x)) := (Below.refl _ _).alloc (Nat.le_refl _) _
  exact h _ (hb.trans (hu.mono hb.size)) (by simp [hs]) (b1.up hu) (b2.up hu) (b3.up hu) b4

/-- The place between two rounds. -/
def MJ (Ba Bt Bh Bp n : Nat) (pre : List St) (O : Nat → Prop) (W : World) : Prop :=
  ∃ t a p : Nat, pre.foldl (mvT n) mv0 = ⟨t, a, p, false⟩ ∧ (Bxd W Ba (.int .i64 (n : Int)) ∧ Bxd W Bt (.int .i64 (t : Int)) ∧ Bxd W Bh (.int .i64 (a : Int)) ∧ Bxd W Bp (.int .i64 (p : Int))) ∧ O = fun k => k ∈ [Ba, Bt, Bh, Bp]
theorem mJ_held (Ba Bt Bh Bp n : Nat) : Held (MJ Ba Bt Bh Bp n) := by
  refine ⟨?_, ?_⟩
  · rintro pre O W ⟨t, a, p, _, ⟨h1, h2, h3, h4⟩, rfl⟩ k hk
    simp only [List.mem_cons, List.not_mem_nil, or_false] at hk
    rcases hk with rfl | rfl | rfl | rfl
    · exact h1.lt
    · exact h2.lt
    · exact h3.lt
    · exact h4.lt
  · rintro pre O W W' ⟨t, a, p, he, ⟨h1, h2, h3, h4⟩, rfl⟩ hs hk
    exact ⟨t, a, p, he, ⟨h1.block (hk _ (by simp)), h2.block (hk _ (by simp)), h3.block (hk _ (by simp)), h4.block (hk _ (by simp))⟩, rfl⟩
/-- When a round has left: the place is passed. -/
def MX (Bh Bp n : Nat) (c : Code) (pre : List St) (O : Nat → Prop) (W : World) : Prop :=
  c = .exit 0 ∧ ∃ t a p : Nat, pre.foldl (mvT n) mv0 = ⟨t, a, p, true⟩ ∧ (Bxd W Bh (.int .i64 (a : Int)) ∧ Bxd W Bp (.int .i64 (p : Int))) ∧ O = fun k => k ∈ [Bh, Bp]
theorem mX_held (Bh Bp n : Nat) (c : Code) : Held (MX Bh Bp n c) := by
  refine ⟨?_, ?_⟩
  · rintro pre O W ⟨_, t, a, p, _, ⟨h1, h2⟩, rfl⟩ k hk
    simp only [List.mem_cons, List.not_mem_nil, or_false] at hk
    rcases hk with rfl | rfl
    · exact h1.lt
    · exact h2.lt
  · rintro pre O W W' ⟨hc, t, a, p, he, ⟨h1, h2⟩, rfl⟩ hs hk
    exact ⟨hc, t, a, p, he, ⟨h1.block (hk _ (by simp)), h2.block (hk _ (by simp))⟩, rfl⟩
theorem mv_pre {n : Nat} {pre xs : List St} (h : pre <+: xs) (he : (pre.foldl (mvT n) mv0).e = true) : xs.foldl (mvT n) mv0 = pre.foldl (mvT n) mv0 := by
  obtain ⟨r, rfl⟩ := h
  rw [List.foldl_append, mv_end n r _ he]
theorem mv_snoc (n : Nat) (pre : List St) (x : St) : (pre ++ [x]).foldl (mvT n) mv0 = mvT n (pre.foldl (mvT n) mv0) x := by rw [List.foldl_append]; rfl
theorem mv_bd (n : Nat) : ∀ (pre : List St) (s : MvS), (pre.foldl (mvT n) s).t ≤ s.t + pre.length ∧ (pre.foldl (mvT n) s).a + (pre.foldl (mvT n) s).p ≤ s.a + s.p + pre.length
  | [], s => by simp
  | x :: pre, s => by
    have ih := mv_bd n pre (mvT n s x)
    rw [List.foldl_cons, List.length_cons]
    have : (mvT n s x).t ≤ s.t + 1 ∧ (mvT n s x).a + (mvT n s x).p ≤ s.a + s.p + 1 := by
      unfold mvT
      split
      · omega
      · split
        · simp; omega
        · split
          · split <;> simp <;> omega
          · simp
    omega

set_option maxRecDepth 100000 in
set_option maxHeartbeats 4000000 in
theorem moveI_good {w : World} {aw : Option Addr} {g cap : Nat} {l : List Pt} (n : Nat) (f : Bool) (h : Pin w aw g cap l) (hT : Tab w) (hg : goodO l = true) (hn : (n : Int) ≤ tkL l) :
    Calls Tryd.prog 26 #[.slice aw l.length cap, .int .i64 n, .bool f] w fun e w' => e = .returned (.tuple #[.int .i64 (if f then ((mvR l n).2 : Int) else ((mvR l n).1 : Int)), .bool true]) ∧ Below w.heap.size w w' := by
  have S := hide (fun w' (hb : Below w.heap.size w w') => sizesI_any (h.later hb) (hT.below hb))
  have hsT : szT l = tkL l := by unfold szT; rw [hg]; rfl
  rw [hg, hsT] at S
  have hpk := goodO_pk hg
  have SO := hide (fun w' => stepsOf_any (.slice aw l.length cap) w' _ _ _ rfl)
  have H := hide h
  have hHT := hide hT
  have hst := st_len hg
  have hn3 : (n : Int) ≤ 300 := by have := (goodO_le hg).2.1; omega
  clear h hT hg hsT
  generalize htk : tkL l = tk at *
  clear htk
  have hdep : Fence.wide.depth = none := rfl
  refine (callsIn_wide (n := 6)).1 ?_
  refine callsIn_of_wp_marks Tryd.func26 rfl trivial ?_ rfl
  simp only [Tryd.ntmps26, List.size_toArray, List.length_cons, List.length_nil, Nat.reduceAdd, Nat.reduceSub, Array.replicate_succ, Array.replicate_zero, List.push_toArray, List.append_toArray, List.nil_append, List.cons_append]
  have hb0 : Hid (∀ a : Obj, Below w.heap.size w (w.alloc a)) := hide (fun a => (Below.refl _ _).alloc (Nat.le_refl _) _)
  have cA : Hid (∀ t : TypeId, Bxd (w.alloc (.cells #[.int .i64 (n : Int)] t)) w.heap.size (.int .i64 (n : Int))) := hide (fun t => bxd_new w _ t)
  gi_wp2_with (first
    | (refine ⟨trivial, ?_⟩; gi_at_call 25; refine (callsIn_wide.2 (S.out _ (hb0.out _))).mono ?_; rintro e w1 ⟨rfl, hb1⟩; have q1 := (cA.out _).up hb1; have ca := q1.cell)
    | (refine ⟨trivial, ?_⟩; gi_at_call 51; refine (callsIn_wide.2 (SO.out _)).mono ?_; rintro e w' ⟨rfl, hw⟩; replace hw := hw.symm; subst hw))
  have hsw : w.heap.size + 1 ≤ w1.heap.size := by have := hb1.size; simpa using this
  have R3 := hide ((hb0.out _).trans (hb1.mono (hb0.out _).size))
  refine four_boxes (Φ := fun W2 => Code.wpIn _ _ _ _ _ _ W2) ?_
  intro W2 hB2 hs2 bt bh bp bq
  have hbW : Below w.heap.size w W2 := R3.out.trans (hB2.mono R3.out.size)
  have pin2 := H.out.later hbW
  have tab2 := hHT.out.below hbW
  have ltT := hHT.out.lt
  have ltg := H.out.lt
  have qa := q1.up hB2
  have hd : w.heap.size < w1.heap.size ∧ w1.heap.size < w1.heap.size + 1 ∧ w1.heap.size + 1 < w1.heap.size + 1 + 1 := by omega
  have hJ := mJ_held w.heap.size w1.heap.size (w1.heap.size + 1) (w1.heap.size + 1 + 1) n
  refine wpIn_range rfl (enters_of Tryd.func78 (by kernel_rfl) rfl) (steps_iter pin2 tab2 bq.cell hpk) (fun _ => rfl)
    (J := MJ w.heap.size w1.heap.size (w1.heap.size + 1) (w1.heap.size + 1 + 1) n) (Jx := MX (w1.heap.size + 1) (w1.heap.size + 1 + 1) n) (O := fun k => k ∈ [w.heap.size, w1.heap.size, w1.heap.size + 1, w1.heap.size + 1 + 1]) hJ (mX_held _ _ _) (Nat.le_refl _)
    (by
      rintro k (rfl | rfl | rfl)
      · exact ⟨by omega, rfl, fun c => by simp at c; omega⟩
      · exact ⟨by omega, rfl, fun c => by simp at c; omega⟩
      · exact ⟨by omega, rfl, fun c => by simp at c; omega⟩)
    ⟨0, 0, 0, rfl, ⟨qa, bt, bh, bp⟩, rfl⟩
    (xAx_held hJ (fun x Bx => { tmps := #[.slice aw l.length cap, .int .i64 (n : Int), .bool f, undef, .pointer (some ⟨w.heap.size, 0, none⟩), undef, .int .i64 0, .bool false, .int .i64 tk, .int .i64 (szM l), .bool true,
      .pointer (some ⟨w1.heap.size, 0, none⟩), .pointer (some ⟨w1.heap.size + 1, 0, none⟩), .pointer (some ⟨w1.heap.size + 1 + 1, 0, none⟩), .pointer (some ⟨Bx, 0, none⟩), .tuple #[.int .i64 tk, .int .i64 (szM l), .bool true], .slice aw l.length cap, .tuple #[.int .i64 tk, .int .i64 (szM l), .bool true], .int .i64 tk, .int .i64 (szM l), .bool true, .bool true, .bool false, .bool false, .int .i64 (n : Int), .bool (decide ((n : Int) < 0)), .bool (decide ((n : Int) < 0)), .bool (decide ((n : Int) < 0)), .int .i64 (n : Int), .int .i64 tk, .bool (decide (tk < (n : Int))), .bool (decide ((n : Int) < 0) || decide (tk < (n : Int))), .slice aw l.length cap, .func (.func 78) #[] #[.pointer (some ⟨w1.heap.size + 1 + 1 + 1, 0, none⟩)], .agg #[.int .i64 (x.k : Int), .int .u8 (x.c.toNat : Int)], undef, undef, undef, undef, undef, undef, undef, undef, undef, undef, undef, undef, undef, undef, undef, undef, undef, undef, undef, undef, undef, undef], defers := [] }))
    ?assigned ?round ?done ?stop
  case assigned =>
    rintro l1 pre x O W K hj hx hK
    have hbx := box2_new W (.int .i64 (x.k : Int)) (.int .u8 (x.c.toNat : Int))
    simp only [stE, stV]
    gi_wp2
    exact hK _ _ _ ((Moves.refl _ _).alloc _) ⟨O, W.heap.size, hJ.up hj ((Below.refl _ _).alloc (Nat.le_refl _) _), fun _ => Iff.rfl, fun c => absurd (hJ.lt hj _ c) (by omega), hbx _, rfl⟩
  case round =>
    rintro l1 pre x a' O W ⟨O1, Bx, ⟨t, a, p, hfold, hbs, rfl⟩, hB, hnB, hbx, rfl⟩ hl1 hnl hx
    have hso := (stL_so hpk x (hx.subset (by simp))).1
    have hlen : pre.length ≤ 600 := by have := pre_len hx; simp at this; omega
    have hbd := mv_bd n pre mv0
    rw [hfold] at hbd
    simp only [mv0, Nat.zero_add] at hbd
    have ht6 : t ≤ 600 := by omega
    have ha6 : a ≤ 600 := by omega
    have hp6 : p ≤ 600 := by omega
    clear hbd
    have HF := hide hfold
    have HBS := hide hbs
    obtain ⟨b1, b2, b3, b4⟩ := hbs
    have e1 := b1.cell
    have e2 := b2.cell
    have e3 := b3.cell
    have e4 := b4.cell
    have f2 := b2.fz
    have f3 := b3.fz
    have f4 := b4.fz
    obtain ⟨c0, c1⟩ := hbx.cells
    have HB := hide hB
    have MV : Hid (∀ O' W', Moves (fun k => k ∈ [w.heap.size, w1.heap.size, w1.heap.size + 1, w1.heap.size + 1 + 1]) W O' W' → Moves O W O' W') := hide (fun O' W' m => m.wider (fun k _ c => (HB.out k).2 (.inl c)) (fun k hk c => (HB.out k).2 (.inl (m.own k hk c))))
    clear hB hx b1 b2 b3 b4 hnB hbx hnl hl1 hlen hfold
    obtain ⟨k, c⟩ := x
    rcases hso with e | e | e <;> (simp only at e; subst e)
    · by_cases hnt : n ≤ t
      · have hq : Hid ((pre ++ [(⟨1, c⟩ : St)]).foldl (mvT n) mv0 = ⟨t, a, p, true⟩) := hide (by rw [mv_snoc, HF.out]; simp [mvT, hnt])
        gi_wp2
        exact ⟨fun k => k ∈ [w1.heap.size + 1, w1.heap.size + 1 + 1], MV.out _ _ ((Moves.refl _ _).wider (fun _ _ c => c) (fun k _ c => by simp at c ⊢; omega)), rfl, t, a, p, hq.out, ⟨HBS.out.2.2.1, HBS.out.2.2.2⟩, rfl⟩
      · have hq : Hid ((pre ++ [(⟨1, c⟩ : St)]).foldl (mvT n) mv0 = ⟨t + 1, a + (p + 1), 0, false⟩) := hide (by rw [mv_snoc, HF.out]; simp [mvT, hnt])
        have X3 := HBS.out.2.2.1.set (.int .i64 ((a : Int) + ((p : Int) + 1)))
        have X4 := HBS.out.2.2.2.other (B' := w1.heap.size + 1) (by omega) (.int .i64 ((a : Int) + ((p : Int) + 1)))
        have X2 := HBS.out.2.1.other (B' := w1.heap.size + 1) (by omega) (.int .i64 ((a : Int) + ((p : Int) + 1)))
        have X1 := HBS.out.1.other (B' := w1.heap.size + 1) (by omega) (.int .i64 ((a : Int) + ((p : Int) + 1)))
        have g4 := X4.cell
        have z4 := X4.fz
        have Y2 := X2.other (B' := w1.heap.size + 1 + 1) (by omega) (.int .i64 0)
        have g2 := Y2.cell
        have z2 := Y2.fz
        have Y1 := X1.other (B' := w1.heap.size + 1 + 1) (by omega) (.int .i64 0)
        have Y3 := X3.other (B' := w1.heap.size + 1 + 1) (by omega) (.int .i64 0)
        have Y4 := X4.set (.int .i64 0)
        have Z := hide (And.intro (Y1.other (B' := w1.heap.size) (by omega) (.int .i64 ((t : Int) + 1))) (And.intro (Y2.set (.int .i64 ((t : Int) + 1))) (And.intro (Y3.other (B' := w1.heap.size) (by omega) (.int .i64 ((t : Int) + 1))) (Y4.other (B' := w1.heap.size) (by omega) (.int .i64 ((t : Int) + 1))))))
        clear X1 X2 X3 X4 Y1 Y2 Y3 Y4
        gi_wp2
        refine ⟨_, MV.out _ _ ((((Moves.refl _ _).setCell (fun _ => by simp) _).setCell (fun _ => by simp) _).setCell (fun _ => by simp) _), t + 1, a + (p + 1), 0, hq.out, ?_, rfl⟩
        rw [show ((t + 1 : Nat) : Int) = (t : Int) + 1 by omega, show ((a + (p + 1) : Nat) : Int) = (a : Int) + ((p : Int) + 1) by omega]
        exact Z.out
    · have hq : Hid ((pre ++ [(⟨2, c⟩ : St)]).foldl (mvT n) mv0 = ⟨t, a, p + 1, false⟩) := hide (by rw [mv_snoc, HF.out]; simp [mvT])
      have Z := hide (And.intro (HBS.out.1.other (B' := w1.heap.size + 1 + 1) (by omega) (.int .i64 ((p : Int) + 1))) (And.intro (HBS.out.2.1.other (B' := w1.heap.size + 1 + 1) (by omega) (.int .i64 ((p : Int) + 1))) (And.intro (HBS.out.2.2.1.other (B' := w1.heap.size + 1 + 1) (by omega) (.int .i64 ((p : Int) + 1))) (HBS.out.2.2.2.set (.int .i64 ((p : Int) + 1))))))
      gi_wp2
      refine ⟨_, MV.out _ _ ((Moves.refl _ _).setCell (fun _ => by simp) _), t, a, p + 1, hq.out, ?_, rfl⟩
      rw [show ((p + 1 : Nat) : Int) = (p : Int) + 1 by omega]
      exact Z.out
    · have hq : Hid ((pre ++ [(⟨3, c⟩ : St)]).foldl (mvT n) mv0 = ⟨t + 1, a, p, false⟩) := hide (by rw [mv_snoc, HF.out]; simp [mvT])
      have Z := hide (And.intro (HBS.out.1.other (B' := w1.heap.size) (by omega) (.int .i64 ((t : Int) + 1))) (And.intro (HBS.out.2.1.set (.int .i64 ((t : Int) + 1))) (And.intro (HBS.out.2.2.1.other (B' := w1.heap.size) (by omega) (.int .i64 ((t : Int) + 1))) (HBS.out.2.2.2.other (B' := w1.heap.size) (by omega) (.int .i64 ((t : Int) + 1))))))
      gi_wp2
      refine ⟨_, MV.out _ _ ((Moves.refl _ _).setCell (fun _ => by simp) _), t + 1, a, p, hq.out, ?_, rfl⟩
      rw [show ((t + 1 : Nat) : Int) = (t : Int) + 1 by omega]
      exact Z.out
  case done =>
    rintro D O' W hD hnD ⟨t, a, p, hfold, ⟨b1, b2, b3, b4⟩, rfl⟩ mv hK
    have hbd := mv_bd n (stL l) mv0
    rw [hfold] at hbd
    simp only [mv0, Nat.zero_add] at hbd
    have ha6 : a ≤ 600 := by omega
    have hp6 : p ≤ 600 := by omega
    have hR : Hid (mvR l n = (a, a + p)) := hide (by unfold mvR foldP; rw [hfold])
    have nD1 : D ≠ w1.heap.size + 1 := fun e => hnD (by simp [e])
    have nD2 : D ≠ w1.heap.size + 1 + 1 := fun e => hnD (by simp [e])
    have hB3 : Below w.heap.size w W := hbW.trans (mv.below (by omega) (fun k hk c => by simp at c; omega))
    clear b1 b2 mv hnD hfold hbd
    have e3 := b3.cell
    have e4 := b4.cell
    have f3 := b3.fz
    cases f
    · have hK2 := hK
      have HE := hide (hB3.trans (⟨rfl, rfl, rfl, by simp, fun k hk => World.putObj_heap_other (by omega)⟩ : Below w.heap.size W (W.putObj D (.deferred none))))
      clear b3 b4 hB3
      gi_wp2
      refine ⟨by simp, .inl ⟨_, _, rfl, run_takeDeferred hK2, ?_⟩⟩
      refine ⟨.tuple #[.int .i64 (a : Int), .bool true], ?_, by simp [hR.out], HE.out⟩
      simp [results, Tryd.f26, go_sem]
    · have c3 := (b3.set (.int .i64 ((a : Int) + (p : Int)))).cell
      have hK2 : (W.setCell ⟨w1.heap.size + 1, 0, none⟩ (.int .i64 ((a : Int) + (p : Int)))).heap[D]? = some (.deferred (some [])) := (Below.heap_setCell _ _ _ _ nD1).trans hK
      have HE := hide ((hB3.setCell (p := ⟨w1.heap.size + 1, 0, none⟩) (by show _ ≤ _ + 1; omega) (.int .i64 ((a : Int) + (p : Int)))).trans (⟨rfl, rfl, rfl, by simp, fun k hk => World.putObj_heap_other (by omega)⟩ : Below w.heap.size (W.setCell ⟨w1.heap.size + 1, 0, none⟩ (.int .i64 ((a : Int) + (p : Int)))) ((W.setCell ⟨w1.heap.size + 1, 0, none⟩ (.int .i64 ((a : Int) + (p : Int)))).putObj D (.deferred none))))
      clear b3 b4 hB3
      gi_wp2
      refine ⟨by simp, .inl ⟨_, _, rfl, run_takeDeferred hK2, ?_⟩⟩
      refine ⟨.tuple #[.int .i64 ((a : Int) + (p : Int)), .bool true], ?_, by rw [hR.out]; simp, HE.out⟩
      simp [results, Tryd.f26, go_sem]
  case stop =>
    rintro D c pre O' W hD hnD hpre ⟨rfl, t, a, p, hfold, ⟨b3, b4⟩, rfl⟩ mv hK
    have hbd := mv_bd n (stL l) mv0
    have hall := mv_pre hpre (by rw [hfold])
    rw [hall, hfold] at hbd
    simp only [mv0, Nat.zero_add] at hbd
    have ha6 : a ≤ 600 := by omega
    have hp6 : p ≤ 600 := by omega
    have hR : Hid (mvR l n = (a, a + p)) := hide (by unfold mvR foldP; rw [hall, hfold])
    have nD1 : D ≠ w1.heap.size + 1 := fun e => hnD (by simp [e])
    have nD2 : D ≠ w1.heap.size + 1 + 1 := fun e => hnD (by simp [e])
    have hB3 : Below w.heap.size w W := hbW.trans (mv.below (by omega) (fun k hk c => by simp at c; omega))
    clear mv hnD hfold hbd hall hpre
    have e3 := b3.cell
    have e4 := b4.cell
    have f3 := b3.fz
    cases f
    · have hK2 := hK
      have HE := hide (hB3.trans (⟨rfl, rfl, rfl, by simp, fun k hk => World.putObj_heap_other (by omega)⟩ : Below w.heap.size W (W.putObj D (.deferred none))))
      clear b3 b4 hB3
      gi_wp2
      refine ⟨by simp, .inl ⟨_, _, rfl, run_takeDeferred hK2, ?_⟩⟩
      refine ⟨.tuple #[.int .i64 (a : Int), .bool true], ?_, by simp [hR.out], HE.out⟩
      simp [results, Tryd.f26, go_sem]
    · have c3 := (b3.set (.int .i64 ((a : Int) + (p : Int)))).cell
      have hK2 : (W.setCell ⟨w1.heap.size + 1, 0, none⟩ (.int .i64 ((a : Int) + (p : Int)))).heap[D]? = some (.deferred (some [])) := (Below.heap_setCell _ _ _ _ nD1).trans hK
      have HE := hide ((hB3.setCell (p := ⟨w1.heap.size + 1, 0, none⟩) (by show _ ≤ _ + 1; omega) (.int .i64 ((a : Int) + (p : Int)))).trans (⟨rfl, rfl, rfl, by simp, fun k hk => World.putObj_heap_other (by omega)⟩ : Below w.heap.size (W.setCell ⟨w1.heap.size + 1, 0, none⟩ (.int .i64 ((a : Int) + (p : Int)))) ((W.setCell ⟨w1.heap.size + 1, 0, none⟩ (.int .i64 ((a : Int) + (p : Int)))).putObj D (.deferred none))))
      clear b3 b4 hB3
      gi_wp2
      refine ⟨by simp, .inl ⟨_, _, rfl, run_takeDeferred hK2, ?_⟩⟩
      refine ⟨.tuple #[.int .i64 ((a : Int) + (p : Int)), .bool true], ?_, by rw [hR.out]; simp, HE.out⟩
      simp [results, Tryd.f26, go_sem]

set_option maxRecDepth 100000 in
set_option maxHeartbeats 4000000 in
theorem moveI {w : World} {aw : Option Addr} {g cap : Nat} {l : List Pt} (a : Int) (f : Bool) (h : Pin w aw g cap l) (hT : Tab w) :
    Calls Tryd.prog 26 #[.slice aw l.length cap, .int .i64 a, .bool f] w fun e w' => e = .returned (.tuple #[.int .i64 (mvA l a f), .bool (mvK l a)]) ∧ Below w.heap.size w w' := by
  unfold mvA
  cases hk : mvK l a with
  | true =>
    have := of_decide_eq_true hk
    obtain ⟨n, rfl⟩ : ∃ n : Nat, a = n := ⟨a.toNat, by omega⟩
    simp only [if_true, Int.toNat_natCast]
    exact moveI_good n f h hT this.1 this.2.2
  | false =>
    have hno := of_decide_eq_false hk
    have S := hide (fun w' (hb : Below w.heap.size w w') => sizesI_any (h.later hb) (hT.below hb))
    simp only [Bool.false_eq_true, if_false]
    have hb0 : Hid (∀ b : Obj, Below w.heap.size w (w.alloc b)) := hide (fun b => (Below.refl _ _).alloc (Nat.le_refl _) _)
    have cA : Hid (∀ t : TypeId, Bxd (w.alloc (.cells #[.int .i64 a] t)) w.heap.size (.int .i64 a)) := hide (fun t => bxd_new w _ t)
    cases h1 : goodO l with
    | false =>
      rw [h1] at S
      clear hno hk h hT
      go_enter Tryd.func26, Tryd.ntmps26
      go_wp2_with fail
      refine (S.out _ (hb0.out _)).mono ?_
      rintro e w1 ⟨rfl, hb1⟩
      have q1 := ((cA.out _).up hb1).cell
      have hbw := (hb0.out _).trans (hb1.mono (hb0.out _).size)
      clear hb1
      go_wp2
      go_ret2
      exact ⟨rfl, hbw⟩
    | true =>
      have hsT : szT l = tkL l := by unfold szT; rw [h1]; rfl
      rw [h1, hsT] at S
      have hr : a < 0 ∨ tkL l < a := by
        rcases Int.lt_or_le a 0 with c | c
        · exact .inl c
        · rcases Int.lt_or_le (tkL l) a with d | d
          · exact .inr d
          · exact absurd ⟨h1, c, d⟩ hno
      clear hno hk h hT hsT h1
      generalize tkL l = tk at *
      go_enter Tryd.func26, Tryd.ntmps26
      go_wp2_with fail
      refine (S.out _ (hb0.out _)).mono ?_
      rintro e w1 ⟨rfl, hb1⟩
      have q1 := ((cA.out _).up hb1).cell
      have hbw := (hb0.out _).trans (hb1.mono (hb0.out _).size)
      clear hb1
      by_cases hneg : a < 0
      · clear hr
        go_wp2
        go_ret2
        exact ⟨rfl, hbw⟩
      · have hr2 : tk < a := hr.resolve_left hneg
        clear hr
        go_wp2
        go_ret2
        exact ⟨rfl, hbw⟩
end Go.Proofs.YtbooongkbninhaaDoor

namespace Go.Proofs.YtbooongkbninhaaDoor.Doc1

theorem mv_le {n m : Nat} (h : n ≤ m) : ∀ (L : List St) (s t : MvS), (s = t ∨ (s.e = true ∧ s.a ≤ t.a ∧ s.a + s.p ≤ t.a + t.p)) → (L.foldl (mvT n) s).a ≤ (L.foldl (mvT m) t).a ∧ (L.foldl (mvT n) s).a + (L.foldl (mvT n) s).p ≤ (L.foldl (mvT m) t).a + (L.foldl (mvT m) t).p
  | [], s, t, hs => by
    rcases hs with rfl | ⟨_, h1, h2⟩
    · exact ⟨Nat.le_refl _, Nat.le_refl _⟩
    · exact ⟨h1, h2⟩
  | x :: L, s, t, hs => by
    rw [List.foldl_cons, List.foldl_cons]
    refine mv_le h L _ _ ?_
    rcases hs with rfl | ⟨he, h1, h2⟩
    · obtain ⟨st, sa, sp, se⟩ := s
      cases se with
      | true => exact .inl (by simp [mvT])
      | false =>
        unfold mvT
        simp only [Bool.false_eq_true, if_false]
        split
        · exact .inl rfl
        · split
          · by_cases hn : n ≤ st
            · rw [if_pos hn]
              by_cases hm : m ≤ st
              · rw [if_pos hm]; exact .inl rfl
              · rw [if_neg hm]; exact .inr ⟨rfl, by simp only; omega, by simp only; omega⟩
            · rw [if_neg hn, if_neg (by omega)]; exact .inl rfl
          · exact .inl rfl
    · refine .inr ?_
      have e1 : mvT n s x = s := by unfold mvT; rw [if_pos he]
      rw [e1]
      refine ⟨he, ?_⟩
      obtain ⟨tt, ta, tp, te⟩ := t
      simp only at h1 h2
      cases te with
      | true => simp [mvT]; omega
      | false =>
        unfold mvT
        simp only [Bool.false_eq_true, if_false]
        split
        · simp only; omega
        · split
          · split <;> (simp only; omega)
          · simp only; omega
theorem mv_first : ∀ (L : List St) (s : MvS), s.a = 0 → (L.foldl (mvT 0) s).a = 0
  | [], _, h => h
  | x :: L, s, h => by
    rw [List.foldl_cons]
    refine mv_first L _ ?_
    unfold mvT
    split
    · exact h
    · split
      · exact h
      · split
        · rw [if_pos (Nat.zero_le _)]; exact h
        · exact h
/-- As long as the place is not passed. -/
theorem mv_on (n : Nat) : ∀ (L : List St) (s : MvS), s.e = false → (∀ x ∈ L, sk x) → s.t + ctk L ≤ n → (L.foldl (mvT n) s).e = false ∧ (L.foldl (mvT n) s).t = s.t + ctk L ∧ (L.foldl (mvT n) s).a + (L.foldl (mvT n) s).p = s.a + s.p + cmk L
  | [], s, he, _, _ => ⟨he, by simp [ctk], by simp [cmk]⟩
  | ⟨k, c⟩ :: L, ⟨t, a, p, e⟩, he, hk, hn => by
    simp only at he
    subst he
    rw [List.foldl_cons]
    have hs := hk ⟨k, c⟩ (by simp)
    have hk' : ∀ x ∈ L, sk x := fun x hx => hk x (by simp [hx])
    rcases hs with q | q | q <;> (simp only at q; subst q)
    · have e1 : ctk ((⟨1, c⟩ : St) :: L) = ctk L + 1 := by simp [ctk]
      have e2 : cmk ((⟨1, c⟩ : St) :: L) = cmk L + 1 := by simp [cmk]
      rw [e1] at hn
      simp only at hn
      have em : mvT n ⟨t, a, p, false⟩ ⟨1, c⟩ = ⟨t + 1, a + (p + 1), 0, false⟩ := by
        unfold mvT
        simp only [Bool.false_eq_true, if_false, Nat.reduceEqDiff, if_true]
        rw [if_neg (by omega)]
      rw [em, e1, e2]
      obtain ⟨r1, r2, r3⟩ := mv_on n L ⟨t + 1, a + (p + 1), 0, false⟩ rfl hk' (by simp only; omega)
      simp only at r2 r3
      exact ⟨r1, by simp only; omega, by simp only; omega⟩
    · have e1 : ctk ((⟨2, c⟩ : St) :: L) = ctk L := by simp [ctk]
      have e2 : cmk ((⟨2, c⟩ : St) :: L) = cmk L + 1 := by simp [cmk]
      rw [e1] at hn
      simp only at hn
      have em : mvT n ⟨t, a, p, false⟩ ⟨2, c⟩ = ⟨t, a, p + 1, false⟩ := by simp [mvT]
      rw [em, e1, e2]
      obtain ⟨r1, r2, r3⟩ := mv_on n L ⟨t, a, p + 1, false⟩ rfl hk' (by simp only; omega)
      simp only at r2 r3
      exact ⟨r1, by simp only; omega, by simp only; omega⟩
    · have e1 : ctk ((⟨3, c⟩ : St) :: L) = ctk L + 1 := by simp [ctk]
      have e2 : cmk ((⟨3, c⟩ : St) :: L) = cmk L := by simp [cmk]
      rw [e1] at hn
      simp only at hn
      have em : mvT n ⟨t, a, p, false⟩ ⟨3, c⟩ = ⟨t + 1, a, p, false⟩ := by simp [mvT]
      rw [em, e1, e2]
      obtain ⟨r1, r2, r3⟩ := mv_on n L ⟨t + 1, a, p, false⟩ rfl hk' (by simp only; omega)
      simp only at r2 r3
      exact ⟨r1, by simp only; omega, by simp only; omega⟩
theorem mvR_le (l : List Pt) {n m : Nat} (h : n ≤ m) : (mvR l n).1 ≤ (mvR l m).1 ∧ (mvR l n).2 ≤ (mvR l m).2 := mv_le h (stL l) mv0 mv0 (.inl rfl)
theorem mvR_zero (l : List Pt) : (mvR l 0).1 = 0 := mv_first (stL l) mv0 rfl
theorem mvR_last {l : List Pt} (hp : ∀ p ∈ l, pk p ≠ 0) {n : Nat} (hn : (n : Int) = tkL l) : ((mvR l n).2 : Int) = mkL l := by
  obtain ⟨s1, s2⟩ := stL_sums l hp
  obtain ⟨_, _, h3⟩ := mv_on n (stL l) mv0 rfl (fun x hx => (stL_so hp x hx).1) (by show 0 + _ ≤ _; omega)
  have e : (mvR l n).2 = cmk (stL l) := by
    unfold mvR foldP
    simp only
    rw [h3]
    simp [mv0]
  rw [e]; exact s2
/-- A byte that is kept is found at its place. -/
theorem mv_kept {pre post : List St} {c : UInt8} {n : Nat} (hk : ∀ x ∈ pre, sk x) (hn : ctk pre = n) : ((pre ++ (⟨1, c⟩ : St) :: post).foldl (mvT n) mv0).a + ((pre ++ (⟨1, c⟩ : St) :: post).foldl (mvT n) mv0).p = cmk pre := by
  rw [List.foldl_append, List.foldl_cons]
  obtain ⟨h1, h2, h3⟩ := mv_on n pre mv0 rfl hk (by show 0 + _ ≤ _; omega)
  generalize pre.foldl (mvT n) mv0 = s at *
  obtain ⟨t, a, p, e⟩ := s
  simp only at h1 h2 h3
  subst h1
  have em : mvT n ⟨t, a, p, false⟩ ⟨1, c⟩ = ⟨t, a, p, true⟩ := by
    unfold mvT
    simp only [Bool.false_eq_true, if_false, Nat.reduceEqDiff, if_true]
    rw [if_pos (by rw [h2]; show n ≤ 0 + _; omega)]
  rw [em, mv_end n post _ rfl]
  simp only
  rw [h3]
  simp [mv0]
theorem stL_apps (a b : List Pt) : stL (a ++ b) = stL a ++ stL b := by simp [stL]
/-- In the normal change: the place of a kept byte. -/
theorem mvR_kept {l : List Pt} (hp : ∀ p ∈ l, pk p ≠ 0) (hq : ∀ p ∈ normL l, pk p ≠ 0) {k i : Nat} (hk : k < (normL l).length) (hi : (i : Int) < (normL l)[k].keep) {n : Nat} (hn : tkL ((normL l).take k) + i = n) :
    ((mvR l n).2 : Int) = mkL ((normL l).take k) + i ∧ (normL l)[k].put.size = 0 := by
  have hmem := List.getElem_mem hk
  have hgq := gq_norm hp _ hmem
  have hkp : ∃ m, (normL l)[k] = kp m := by
    rcases hgq with ⟨m, hm, e⟩ | ⟨b, hb, _, e⟩ | ⟨b, hb, _, e⟩
    · exact ⟨m, e⟩
    · exfalso; rw [e] at hi; simp [pp] at hi; omega
    · exfalso; rw [e] at hi; simp [dp] at hi; omega
  obtain ⟨m, hm⟩ := hkp
  rw [hm] at hi ⊢
  have him : i < m := by simp [kp] at hi; exact hi
  refine ⟨?_, by show (ba []).size = 0; rfl⟩
  have hsplit : normL l = (normL l).take k ++ (normL l)[k] :: (normL l).drop (k + 1) := by
    rw [List.getElem_cons_drop]; exact (List.take_append_drop k _).symm
  have hst : stL (normL l) = (stL ((normL l).take k) ++ List.replicate i (⟨1, 0⟩ : St)) ++ (⟨1, 0⟩ : St) :: (List.replicate (m - i - 1) ⟨1, 0⟩ ++ stL ((normL l).drop (k + 1))) := by
    conv => lhs; rw [hsplit, hm]
    rw [stL_apps]
    have e1 : stL (kp m :: (normL l).drop (k + 1)) = List.replicate m (⟨1, 0⟩ : St) ++ stL ((normL l).drop (k + 1)) := by
      simp [stL, stp, kp, ba]
    have e2 : List.replicate m (⟨1, 0⟩ : St) = List.replicate i ⟨1, 0⟩ ++ ((⟨1, 0⟩ : St) :: List.replicate (m - i - 1) ⟨1, 0⟩) := by
      rw [← List.replicate_succ, List.replicate_append_replicate]
      congr 1; omega
    rw [e1, e2]
    simp
  have hpk : ∀ p ∈ (normL l).take k, pk p ≠ 0 := fun p h => hq p (List.mem_of_mem_take h)
  obtain ⟨s1, s2⟩ := stL_sums _ hpk
  have c1 : ctk (stL ((normL l).take k) ++ List.replicate i (⟨1, 0⟩ : St)) = ctk (stL ((normL l).take k)) + i := by simp [ctk]
  have c2 : cmk (stL ((normL l).take k) ++ List.replicate i (⟨1, 0⟩ : St)) = cmk (stL ((normL l).take k)) + i := by simp [cmk]
  have hsk : ∀ x ∈ stL ((normL l).take k) ++ List.replicate i (⟨1, 0⟩ : St), sk x := by
    intro x hx
    rcases List.mem_append.1 hx with c | c
    · exact (stL_so hpk x c).1
    · rw [List.eq_of_mem_replicate c]; exact .inl rfl
  have key := mv_kept (c := 0) (post := List.replicate (m - i - 1) ⟨1, 0⟩ ++ stL ((normL l).drop (k + 1))) hsk (n := n) (by omega)
  rw [← hst, c2] at key
  have en : (mvR l n).2 = (mvR (normL l) n).2 := by
    unfold mvR
    rw [norm_fold (f := mvT n) (fun s c d => mvT_comm n s c d) (fun s c => mvT_keep n s c) hp mv0]
  rw [en]
  have e2 : (mvR (normL l) n).2 = cmk (stL ((normL l).take k)) + i := key
  rw [e2]
  omega
end Go.Proofs.YtbooongkbninhaaDoor.Doc1

namespace Go.Proofs.YtbooongkbninhaaDoor
open Go.RowKit
open Doc1

theorem sm_sums : ∀ (l : List Pt), (∀ p ∈ l, smP p) → (-(l.length : Int) ≤ tkL l ∧ tkL l ≤ 601 * l.length) ∧ (-(l.length : Int) ≤ mkL l ∧ mkL l ≤ 601 * l.length)
  | [], _ => by simp [tkL, mkL]
  | p :: l, h => by
    have ih := sm_sums l (fun q hq => h q (by simp [hq]))
    have hp := h p (by simp)
    have e1 : tkL (p :: l) = tk1 p + tkL l := by simp [tkL]
    have e2 : mkL (p :: l) = mk1 p + mkL l := by simp [mkL]
    rw [e1, e2]
    unfold tk1 mk1
    obtain ⟨⟨h1, h2⟩, h3, h4⟩ := hp
    simp only [List.length_cons]
    omega
theorem own_row {w : World} {B : Nat} {v : Value} {l : List Pt} (h : POwn w B v l) (hT : Tab w) : ∃ aw g cap, v = .slice aw l.length cap ∧ (l.length ≤ cap ∧ cap ≤ maxLen) ∧ CLs w g (encP l) ∧ g < w.heap.size ∧ ∀ k, k < l.length → aw = some ⟨g, 0, none⟩ := by
  rcases Nat.eq_zero_or_pos l.length with h0 | h0
  · obtain rfl := List.eq_nil_of_length_eq_zero h0
    obtain ⟨a, cap, rfl, h1, h2⟩ := own_shp h
    exact ⟨a, 0, cap, rfl, ⟨h1, h2⟩, (fun j u hu => by simp [encP] at hu), hT.lt, fun k hk => absurd hk (by simp)⟩
  · obtain ⟨g, cap, rfl, hle, hm, hB, hlt, hc, hbk⟩ := own_cat h h0
    exact ⟨_, g, cap, rfl, ⟨hle, hm⟩, hc, hlt, fun _ _ => rfl⟩

set_option maxRecDepth 100000 in
set_option maxHeartbeats 2000000 in
theorem l3Sizes_own {w : World} {B : Nat} {v : Value} {l : List Pt} (h : POwn w B v l) (hT : Tab w) (hl : l.length ≤ 2586186935076) (hsm : ∀ p ∈ l, smP p) :
    Calls Tryd.prog 23 #[v] w fun e w' => e = .returned (.tuple #[.int .i64 (tkL l), .int .i64 (mkL l)]) ∧ Below w.heap.size w w' := by
  obtain ⟨aw, g, cap, rfl, hcp, hc, hg, hadr⟩ := own_row h hT
  have HC := hide hc
  have HA := hide hadr
  have HS := hide hsm
  clear h hc hadr hsm
  go_enter Tryd.func23, Tryd.ntmps23
  go_wp2
  go_loopw [4, 5, 10] (fun a b i wr => ∃ k : Nat, k ≤ l.length ∧ i = .int .i64 k ∧ a = .int .i64 (tkL (l.take k)) ∧ b = .int .i64 (mkL (l.take k)) ∧ Below w.heap.size w wr) (fun _ _ i _ => l.length - (intOf i).toNat)
  case atStart => exact ⟨0, by omega, rfl, rfl, rfl, Below.refl _ _⟩
  case round =>
    obtain ⟨k, hk, rfl, rfl, rfl, hbel⟩ := hrel
    by_cases hlt : k < l.length
    · obtain rfl := HA.out k hlt
      obtain ⟨c0, c1, c2⟩ := (HC.out.later hbel hg).ptat k hlt
      have b1 := sm_sums (l.take k) (fun p hp => HS.out p (List.mem_of_mem_take hp))
      have b2 := HS.out l[k] (List.getElem_mem hlt)
      have hl1 : (l.take k).length ≤ 2586186935076 := by rw [List.length_take]; omega
      have hs := hide (And.intro (tkL_snoc (l.take k) l[k]) (mkL_snoc (l.take k) l[k]))
      have ht : l.take k ++ [l[k]] = l.take (k + 1) := (List.take_succ_eq_append_getElem hlt).symm
      rw [ht] at hs
      unfold tk1 mk1 at hs
      unfold smP at b2
      generalize tkL (l.take k) = A at *
      generalize mkL (l.take k) = B at *
      go_wp2
      refine ⟨⟨k + 1, by omega, by go_num, by rw [hs.out.1], by rw [hs.out.2], hbel.alloc hbel.size _⟩, by simp [intOf]; omega⟩
    · obtain rfl : k = l.length := by omega
      rw [List.take_length]
      go_wp2
      go_ret2
      exact ⟨rfl, hbel⟩

set_option maxRecDepth 100000 in
set_option maxHeartbeats 1000000 in
theorem moveI_big {w : World} (a : Option Addr) (n cap : Nat) (p : Int) (f : Bool) (h60 : 60 < n) :
    Calls Tryd.prog 26 #[.slice a n cap, .int .i64 p, .bool f] w fun e w' => e = .returned (.tuple #[.int .i64 0, .bool false]) ∧ Below w.heap.size w w' := by
  have S := hide (fun w' (_ : Below w.heap.size w w') => sizesI_big (w := w') a n cap h60)
  have hb0 : Hid (∀ b : Obj, Below w.heap.size w (w.alloc b)) := hide (fun b => (Below.refl _ _).alloc (Nat.le_refl _) _)
  have cA : Hid (∀ t : TypeId, Bxd (w.alloc (.cells #[.int .i64 p] t)) w.heap.size (.int .i64 p)) := hide (fun t => bxd_new w _ t)
  go_enter Tryd.func26, Tryd.ntmps26
  go_wp2_with fail
  refine (S.out _ (hb0.out _)).mono ?_
  rintro e w1 ⟨rfl, hb1⟩
  have q1 := ((cA.out _).up hb1).cell
  have hbw := (hb0.out _).trans (hb1.mono (hb0.out _).size)
  clear hb1
  go_wp2
  go_ret2
  exact ⟨rfl, hbw⟩

/-- What the drawing of a change and a place leaves. -/
def PlPost (w : World) (e : Ending) (w' : World) : Prop := ∃ (v : Value) (L : List Pt) (a : Int) (f : Bool), e = .returned (.tuple #[v, .int .i64 a, .bool f]) ∧ POwn w' w.heap.size v L ∧ (∀ p ∈ L, smP p) ∧ (-1 ≤ a ∧ a ≤ 65535) ∧ Below w.heap.size w w'

end Go.Proofs.YtbooongkbninhaaDoor
