/- The iterator stepsOf, by footprints. -/
import Derived.Test.YtkjioadmebkaoaaDoorOpW4
import Derived.Test.YtkjioadmebkaoaaDoorOpsM
import Derived.RangeFuncLeaves
namespace Go.Proofs.YtkjioadmebkaoaaDoor
open Go.RowKit Go.Shelf
open Doc1

attribute [local go_sem] Oper.semAt_some

/-- What the iterator hands on: the step. -/
def stV (x : St) : Value := .agg #[.int .i64 (x.k : Int), .int .u8 (x.c.toNat : Int)]
def stE (x : St) : Array Value := #[stV x]
theorem roundIn_in {m m' : Nat} {P : Program} {l l0 : Nat} {fn : FuncId} {tmps : Array Value} {assign body : Code} {W : World} {R : Ending → World → Prop}
    (h : RoundIn Fence.wide m P l fn tmps assign body W R) : RoundIn (Fence.wide.inRound l0) m' P l fn tmps assign body W R :=
  ⟨trivial, fun c cs _ => h.2 c cs (room_wide _)⟩
theorem stp_pk {p : Pt} (h : pk p ≠ 0) : stp p = List.replicate p.keep.toNat ⟨pk p, 0⟩ ++ (p.put ++ p.drop).data.toList.map (fun c => (⟨pk p, c⟩ : St)) := by
  have e : (p.put ++ p.drop).data.toList = p.put.data.toList ++ p.drop.data.toList := by simp
  rw [e]
  unfold stp
  unfold pk at h ⊢
  split
  · rename_i hh; rw [hh.1, hh.2.1]; simp
  · rename_i h1
    rw [if_neg h1] at h
    split
    · rename_i hh; rw [hh.1, hh.2.1]; simp
    · rename_i h2
      rw [if_neg h2] at h
      split
      · rename_i hh; rw [hh.1, hh.2.1]; simp
      · rename_i h3; rw [if_neg h3] at h; exact absurd rfl h
theorem stL_snoc (l : List Pt) (p : Pt) : stL (l ++ [p]) = stL l ++ stp p := by simp [stL]
theorem stL_prefix {a b : List Pt} (h : a <+: b) : stL a <+: stL b := by
  obtain ⟨c, rfl⟩ := h
  exact ⟨stL c, by simp [stL]⟩
theorem rep_pre {A : List St} {x : St} {n j : Nat} {B C : List St} (h : A ++ (List.replicate n x ++ B) <+: C) (hj : j < n) : A ++ List.replicate j x ++ [x] <+: C := by
  refine List.IsPrefix.trans ?_ h
  rw [List.append_assoc, ← List.replicate_succ']
  refine (List.prefix_append_right_inj A).2 ⟨List.replicate (n - (j + 1)) x ++ B, ?_⟩
  rw [← List.append_assoc, List.replicate_append_replicate, show j + 1 + (n - (j + 1)) = n by omega]
theorem map_pre {A : List St} {f : UInt8 → St} {b : List UInt8} {j : Nat} {C : List St} (h : A ++ b.map f <+: C) (hj : j < b.length) : A ++ (b.take j).map f ++ [f b[j]] <+: C := by
  refine List.IsPrefix.trans ?_ h
  rw [List.append_assoc, ← List.map_singleton (f := f), ← List.map_append, ← List.take_succ_eq_append_getElem hj]
  exact (List.prefix_append_right_inj A).2 (List.IsPrefix.map f (List.take_prefix _ _))

/-- What holds between two rounds of the inner loop: the outer caller's word, and the box of yield. -/
def JIn (J : List St → (Nat → Prop) → World → Prop) (By li : Nat) (pre : List Pt) (B : Nat → Prop) (W : World) : Prop :=
  ∃ O, J (stL pre) O W ∧ (∀ k, B k ↔ O k ∨ k = By) ∧ ¬ O By ∧ W.cell? ⟨By, 0, none⟩ = some (.func (.yield li) #[] #[])
theorem jIn_held {J : List St → (Nat → Prop) → World → Prop} (hJ : Held J) (By li : Nat) : Held (JIn J By li) :=
  ⟨fun ⟨O, j, hB, _, hc⟩ k hk => by
      rcases (hB k).1 hk with c | rfl
      · exact hJ.lt j k c
      · exact World.block_lt_of_cell? _ _ hc,
    fun ⟨O, j, hB, hn, hc⟩ hs hk => ⟨O, hJ.kept j hs (fun k c => hk k ((hB k).2 (.inl c))), hB, hn, (World.cell?_of_block (hk By ((hB By).2 (.inr rfl)))).trans hc⟩⟩
def JOut (Jx : List St → (Nat → Prop) → World → Prop) (xs : List St) (c : Code) (_ : List Pt) (B : Nat → Prop) (W : World) : Prop := c = .ret ∧ ∃ pre, pre <+: xs ∧ Jx pre B W
theorem jOut_held {Jx : List St → (Nat → Prop) → World → Prop} (hJ : Held Jx) (xs : List St) (c : Code) : Held (JOut Jx xs c) :=
  ⟨fun ⟨_, _, _, j⟩ => hJ.lt j, fun ⟨h, p, hp, j⟩ hs hk => ⟨h, p, hp, hJ.kept j hs hk⟩⟩
/-- What holds within a round: besides, the box of the part. -/
def JAx (J : List St → (Nat → Prop) → World → Prop) (By li : Nat) (act : Pt → Nat → Act) (pre : List Pt) (x : Pt) (a' : Act) (B : Nat → Prop) (W : World) : Prop :=
  ∃ O Bx, J (stL pre) O W ∧ (∀ k, B k ↔ O k ∨ k = By ∨ k = Bx) ∧ (¬ O By ∧ ¬ O Bx) ∧ W.cell? ⟨By, 0, none⟩ = some (.func (.yield li) #[] #[]) ∧
    (W.cell? ⟨Bx, 0, none⟩ = some (.int .i64 x.keep) ∧ W.cell? ⟨Bx, 1, none⟩ = some (.string x.put) ∧ W.cell? ⟨Bx, 2, none⟩ = some (.string x.drop)) ∧ a' = act x Bx
theorem jAx_held {J : List St → (Nat → Prop) → World → Prop} (hJ : Held J) (By li : Nat) (act : Pt → Nat → Act) (pre : List Pt) (x : Pt) (a' : Act) : Held (fun (_ : Unit) => JAx J By li act pre x a') :=
  ⟨fun ⟨O, Bx, j, hB, _, hc, hx, _⟩ k hk => by
      rcases (hB k).1 hk with c | rfl | rfl
      · exact hJ.lt j k c
      · exact World.block_lt_of_cell? _ _ hc
      · exact World.block_lt_of_cell? _ _ hx.1,
    fun ⟨O, Bx, j, hB, hn, hc, hx, ha⟩ hs hk =>
      have e := hk Bx ((hB Bx).2 (.inr (.inr rfl)))
      ⟨O, Bx, hJ.kept j hs (fun k c => hk k ((hB k).2 (.inl c))), hB, hn, (World.cell?_of_block (hk By ((hB By).2 (.inr (.inl rfl))))).trans hc,
        ⟨(World.cell?_of_block e).trans hx.1, (World.cell?_of_block e).trans hx.2.1, (World.cell?_of_block e).trans hx.2.2⟩, ha⟩⟩

theorem cells3_new' (w : World) (a b c : Value) : (∀ t, (w.alloc (.cells #[a, b, c] t)).cell? ⟨w.heap.size, 0, none⟩ = some a) ∧ (∀ t, (w.alloc (.cells #[a, b, c] t)).cell? ⟨w.heap.size, 1, none⟩ = some b) ∧ (∀ t, (w.alloc (.cells #[a, b, c] t)).cell? ⟨w.heap.size, 2, none⟩ = some c) := by
  refine ⟨fun t => ?_, fun t => ?_, fun t => ?_⟩
  all_goals
    unfold World.cell?
    rw [heap_alloc_new]; rfl
/-- Two boxes laid, whatever their types. -/
theorem two_boxes {Φ : World → Prop} {W : World} {a b : Value} {t u : TypeId}
    (h : ∀ W2 : World, Below W.heap.size W W2 → W2.heap.size = W.heap.size + 2 → W2.cell? ⟨W.heap.size, 0, none⟩ = some a → W2.cell? ⟨W.heap.size + 1, 0, none⟩ = some b → Φ W2) : Φ ((W.alloc (.cells #[a] t)).alloc (.cells #[b] u)) := by
  refine h _ (((Below.refl _ _).alloc (Nat.le_refl _) _).alloc (by simp) _) (by simp) ?_ ?_
  · refine (World.cell?_of_block (Below.heap_alloc _ _ _ (by simp))).trans ?_
    unfold World.cell?
    rw [heap_alloc_new]; rfl
  · rw [show W.heap.size + 1 = (W.alloc (.cells #[a] t)).heap.size by simp]
    unfold World.cell?
    rw [heap_alloc_new]; rfl
/-- Behind the loop: only what the caller owned has changed. -/
theorem fin_moves {O Oi Oo : Nat → Prop} {W W2 Wd : World} {By D : Nat} (hb : Below W.heap.size W W2) (mv : Moves (fun k => O k ∨ k = By) W2 Oi Wd) (hBy : W.heap.size ≤ By) (hD : W.heap.size ≤ D) (hO : ∀ k, k < W.heap.size → Oo k → Oi k) (o : Obj) : Moves O W Oo (Wd.putObj D o) := by
  have sz := hb.size
  refine ⟨mv.os.trans hb.os, mv.tape.trans hb.tape, mv.output.trans hb.output, by have := mv.size; simp; omega, fun k hk no => ?_, fun k hk c => ?_⟩
  · exact (World.putObj_heap_other (by omega)).trans ((mv.same k (by omega) (by rintro (c | c) <;> first | exact no c | omega)).trans (hb.block k hk))
  · rcases mv.own k (by omega) (hO k hk c) with c | c
    · exact c
    · omega

theorem pk_sizes {p : Pt} (h : pk p ≠ 0) : (0 ≤ p.keep ∧ p.keep ≤ 300) ∧ p.put.size ≤ 300 ∧ p.drop.size ≤ 300 ∧ pk p ≤ 3 := by
  have hb := pk_bd h
  unfold tk1 mk1 at hb
  have h3 : pk p ≤ 3 := by
    unfold pk
    split
    · omega
    · split
      · omega
      · split <;> omega
  have hk : 0 ≤ p.keep := by
    unfold pk at h
    split at h
    · rename_i hh; omega
    · split at h
      · rename_i hh; omega
      · split at h
        · rename_i hh; omega
        · exact absurd rfl h
  omega

set_option maxRecDepth 100000 in
set_option maxHeartbeats 4000000 in
theorem steps_iter {w : World} {aw : Option Addr} {g cap Bs : Nat} {l : List Pt} (hp : Pin w aw g cap l) (hT : Tab w) (hBs : w.cell? ⟨Bs, 0, none⟩ = some (.slice aw l.length cap)) (hgd : ∀ p ∈ l, pk p ≠ 0) :
    Iter Tryd.prog 152 #[.pointer (some ⟨Bs, 0, none⟩)] stE (stL l) (fun k => k = Bs ∨ k = g ∨ k = 0) w := by
  intro n li J Jx O W hJ hJx hsz0 need hY h0
  obtain ⟨eBs, nBs⟩ := need Bs (.inl rfl)
  obtain ⟨eg, ng⟩ := need g (.inr (.inl rfl))
  obtain ⟨eT, nT⟩ := need 0 (.inr (.inr rfl))
  have hpW := hp.block eg hsz0
  have hTW := hT.block eT
  have hBW := (World.cell?_of_block (a := ⟨Bs, 0, none⟩) eBs).trans hBs
  have PO := hide (fun w' => partsOf_any (.slice aw l.length cap) w' _ _ _ rfl)
  have HP := hide hpW
  have HT := hide hTW
  have ltT := hTW.lt
  have ltg := hpW.lt
  have ltB := World.block_lt_of_cell? _ _ hBW
  have hsz := hide hpW.sz
  clear eBs eg eT hp hT hBs need hpW hTW hsz0 w
  have hdep : Fence.wide.depth = none := rfl
  refine callsIn_of_wp_marks Tryd.func152 rfl trivial ?_ rfl
  simp only [Tryd.ntmps152, List.size_toArray, List.length_cons, List.length_nil, Nat.reduceAdd, Nat.reduceSub, Array.replicate_succ, Array.replicate_zero, List.push_toArray, List.append_toArray, List.nil_append, List.cons_append]
  gi_wp2_with (refine ⟨trivial, ?_⟩; gi_at_call 149; refine (callsIn_wide.2 (PO.out _)).mono ?_; rintro e w' ⟨rfl, hw⟩; replace hw := hw.symm; subst hw)
  refine two_boxes (Φ := fun W2 => Code.wpIn _ _ _ _ _ _ W2) ?_
  intro W2 hB2 hs2 cy cp
  have pin2 := HP.out.later hB2
  have tab2 := HT.out.below hB2
  have hJ0 : J [] O W2 := hJ.up h0 hB2
  refine wpIn_range rfl (enters_of Tryd.func186 (by kernel_rfl) rfl) (parts_iter pin2 tab2 cp) (fun _ => rfl)
    (J := JIn J W.heap.size li) (Jx := JOut Jx (stL l)) (O := fun k => O k ∨ k = W.heap.size) (jIn_held hJ _ _) (jOut_held hJx _) (Nat.le_refl _)
    (by
      rintro k (rfl | rfl | rfl)
      · exact ⟨by omega, rfl, fun c => c.elim (fun c => absurd (hJ.lt h0 _ c) (by omega)) (fun c => by omega)⟩
      · exact ⟨by omega, rfl, fun c => c.elim ng (fun c => by omega)⟩
      · exact ⟨by omega, rfl, fun c => c.elim nT (fun c => by omega)⟩)
    ⟨O, hJ0, fun _ => Iff.rfl, fun c => absurd (hJ.lt h0 _ c) (by omega), cy⟩
    (jAx_held hJ W.heap.size li (fun x Bx => { tmps := #[.func (.yield li) #[] #[], .pointer (some ⟨Bs, 0, none⟩), .pointer (some ⟨W.heap.size, 0, none⟩), .int .i64 (pk x : Int), .pointer (some ⟨Bx, 0, none⟩), undef, undef, .slice aw l.length cap, .func (.func 186) #[] #[.pointer (some ⟨W.heap.size + 1, 0, none⟩)], .int .i64 (pk x : Int), .agg #[.int .i64 x.keep, .string x.put, .string x.drop], undef, undef, undef, undef, undef, undef, undef, undef, undef, undef, undef, undef, undef, undef, undef, undef, undef, undef, undef, undef, undef, undef, undef, undef, undef, undef, undef, undef, undef], defers := [] }))
    ?assigned ?round ?done ?stop
  case assigned =>
    rintro l1 pre x Oi W1 K ⟨Oo, j, hB, hn, hc⟩ hx hK
    obtain ⟨y0, y1, y2⟩ := cells3_new' W1 (.int .i64 x.keep) (.string x.put) (.string x.drop)
    have lb := World.block_lt_of_cell? _ _ hc
    simp only [ptE, ptV]
    gi_wp2
    refine hK _ _ _ ((Moves.refl _ _).alloc _) ⟨Oo, W1.heap.size, hJ.up j ((Below.refl _ _).alloc (Nat.le_refl _) _), fun k => by show (Oi k ∨ k = W1.heap.size) ↔ _; rw [hB k, or_assoc], ⟨hn, fun c => absurd (hJ.lt j _ c) (by omega)⟩, (World.cell?_of_block (Below.heap_alloc _ _ _ lb)).trans hc, ⟨y0 _, y1 _, y2 _⟩, rfl⟩
  case round =>
    rintro l1 pre x a' Oi W1 ⟨Oo, Bx, j, hB, ⟨nBy, nBx⟩, cy1, ⟨x0, x1, x2⟩, rfl⟩ hl1 hnl hx
    have hmem : x ∈ l := hx.subset (by simp)
    have hpk := hgd x hmem
    obtain ⟨hk, hps, hds, hp3⟩ := pk_sizes hpk
    have ltBy := World.block_lt_of_cell? _ _ cy1
    have ltBx := World.block_lt_of_cell? _ _ x0
    have hst : stL pre ++ (List.replicate x.keep.toNat ⟨pk x, 0⟩ ++ (x.put ++ x.drop).data.toList.map (fun c => (⟨pk x, c⟩ : St))) <+: stL l := by
      rw [← stp_pk hpk, ← stL_snoc]; exact stL_prefix hx
    have HST := hide hst
    have hfin := hide (show stL (pre ++ [x]) = stL pre ++ List.replicate x.keep.toNat ⟨pk x, 0⟩ ++ (x.put ++ x.drop).data.toList.map (fun c => (⟨pk x, c⟩ : St)) by rw [stL_snoc, stp_pk hpk, List.append_assoc])
    clear hst
    gi_wp2
    gi_loopw [13] (fun i wr => ∃ j : Nat, (j : Int) ≤ x.keep ∧ i = .int .i64 j ∧ ∃ O1, J (stL pre ++ List.replicate j ⟨pk x, 0⟩) O1 wr ∧ Moves Oo W1 O1 wr) (fun i _ => x.keep.toNat - (intOf i).toNat)
    case atStart => exact ⟨0, hk.1, rfl, Oo, by simpa using j, Moves.refl _ _⟩
    case round =>
      obtain ⟨j1, hj1, rfl, O1, hJ1, mv1⟩ := hrel
      have cyr := (World.cell?_of_block (mv1.same _ ltBy nBy)).trans cy1
      have f0 := World.cell?_of_block (a := ⟨Bx, 1, none⟩) (mv1.same _ ltBx nBx)
      have x1r := f0.trans x1
      have x2r := (World.cell?_of_block (a := ⟨Bx, 2, none⟩) (mv1.same _ ltBx nBx)).trans x2
      by_cases hlt : (j1 : Int) < x.keep
      · obtain ⟨fn, tmps, assign, body, hy, hR⟩ := hY (stL pre ++ List.replicate j1 ⟨pk x, 0⟩) ⟨pk x, 0⟩ O1 wr hJ1 (rep_pre HST.out (by omega))
        have hR2 := hide (yield_m hR)
        have hy0 : (UInt8.toNat 0 : Int) = 0 := rfl
        unfold stE stV at hy
        simp only [hy0] at hy
        clear hR
        gi_wp2_with fail
        refine (roundIn_in hR2.out).mono ?_
        rintro e w3 ⟨b, rfl, O3, mv3, h3⟩
        have mvo := mv1.trans mv3
        cases b with
        | true =>
          have hJ3 := h3.1 rfl
          rw [List.append_assoc, ← List.replicate_succ'] at hJ3
          clear h3 hy hR2 mv3 cyr x1r x2r f0
          gi_wp2
          go_roundw
          case rel => exact ⟨j1 + 1, by omega, by simp, O3, hJ3, mvo⟩
          case measure => simp [intOf]; omega
        | false =>
          have hJ3 := h3.2 rfl
          clear h3 hy hR2 mv3 cyr x1r x2r f0
          gi_wp2
          exact ⟨O3, mvo.wider (fun k _ c => (hB k).2 (.inl c)) (fun k hk c => (hB k).2 (.inl (mvo.own k hk c))), rfl, _, rep_pre HST.out (by omega), hJ3⟩
      · have hje : (j1 : Int) = x.keep := by omega
        have hjn : x.keep.toNat = j1 := by omega
        have hb1 : x.put.size + x.drop.size ≤ 600 := by omega
        have hb2 : ¬ (9223372036854775807 < x.put.size + x.drop.size) := by omega
        rw [hjn] at HST hfin
        clear f0 hje hjn
        gi_wp2
        rw [show ((x.put.size : Int) + (x.drop.size : Int)) = ((x.put ++ x.drop).size : Int) by simp]
        have hts : (x.put ++ x.drop).size ≤ 600 := by simp; omega
        have HST2 := hide (show stL pre ++ List.replicate j1 ⟨pk x, 0⟩ ++ (x.put ++ x.drop).data.toList.map (fun c => (⟨pk x, c⟩ : St)) <+: stL l by rw [List.append_assoc]; exact HST.out)
        clear HST hb1 hb2 x1r x2r x0 x1 x2 cyr
        generalize x.put ++ x.drop = tx at *
        have hln : tx.data.toList.length = tx.size := (sz_list tx).symm
        gi_loopw [28] (fun i wq => ∃ j : Nat, j ≤ tx.size ∧ i = .int .i64 j ∧ ∃ O2, J (stL pre ++ List.replicate j1 ⟨pk x, 0⟩ ++ (tx.data.toList.take j).map (fun c => (⟨pk x, c⟩ : St))) O2 wq ∧ Moves Oo W1 O2 wq) (fun i _ => tx.size - (intOf i).toNat)
        case atStart => exact ⟨0, Nat.zero_le _, rfl, O1, by simpa using hJ1, mv1⟩
        case round =>
          obtain ⟨j2, hj2, rfl, O2, hJ2, mv2⟩ := hrel
          have cyq := (World.cell?_of_block (mv2.same _ ltBy nBy)).trans cy1
          by_cases hlt2 : j2 < tx.size
          · have hl2 : j2 < tx.data.toList.length := by rw [hln]; exact hlt2
            have hget : tx.data.toList[j2] = tx[j2] := by simp [ByteArray.getElem_eq_getElem_data]
            have hpre := hide (map_pre HST2.out hl2)
            obtain ⟨fn, tmps, assign, body, hy, hR⟩ := hY _ ⟨pk x, tx.data.toList[j2]⟩ O2 wr.drew (hJ.up hJ2 (Below.refl _ _).drew) hpre.out
            have hR2 := hide (yield_m hR)
            unfold stE stV at hy
            simp only [hget] at hy
            clear hR hln
            have hmix : Tryd.prog.follows .mixedOrders = true := by kernel_rfl
            gi_wp2_with fail
            gi_region_with_o (first
              | (refine (roundIn_in hR2.out).mono ?_; rintro e w3 ⟨b, rfl, O3, mv3, h3⟩))
            all_goals
              have mvo : Moves Oo W1 O3 w3 := mv2.trans ((Moves.refl _ _).drew.trans mv3)
              cases b with
              | true =>
                have hJ3 := h3.1 rfl
                rw [List.append_assoc, ← List.map_singleton (f := fun c => (⟨pk x, c⟩ : St)), ← List.map_append, ← List.take_succ_eq_append_getElem hl2] at hJ3
                clear h3 hy hR2 mv3 cyq
                gi_wp2
                go_roundw
                case rel => exact ⟨j2 + 1, by omega, by simp, O3, hJ3, mvo⟩
                case measure => simp [intOf]; omega
              | false =>
                have hJ3 := h3.2 rfl
                clear h3 hy hR2 mv3 cyq
                gi_wp2
                exact ⟨O3, mvo.wider (fun k _ c => (hB k).2 (.inl c)) (fun k hk c => (hB k).2 (.inl (mvo.own k hk c))), rfl, _, hpre.out, hJ3⟩
          · have hje : j2 = tx.data.toList.length := by omega
            rw [hje, List.take_length, ← hfin.out] at hJ2
            clear hje
            gi_wp2
            refine ⟨fun k => O2 k ∨ k = W.heap.size, mv2.wider (fun k _ c => (hB k).2 (.inl c)) (fun k hk c => (hB k).2 ?_), O2, hJ2, fun _ => Iff.rfl, fun c => nBy (mv2.own _ ltBy c), cyq⟩
            rcases c with c | c
            · exact .inl (mv2.own k hk c)
            · exact .inr (.inl c)
  case done =>
    rintro D Oi Wd hD hnD ⟨Oo, j, hB, hn, hc⟩ mv hK
    have hnDo : ¬ Oo D := fun c => hnD ((hB D).2 (.inl c))
    gi_wp2
    refine ⟨by simp, .inl ⟨_, _, rfl, run_takeDeferred hK, ?_⟩⟩
    refine ⟨.tuple #[], results_none rfl _ _ _, ⟨_, rfl⟩, Oo, fin_moves hB2 mv (Nat.le_refl _) (by omega) (fun k _ c => (hB k).2 (.inl c)) _, .inl (hJ.turn _ hnDo j)⟩
  case stop =>
    rintro D c pre Oi Wd hD hnD hpre ⟨rfl, pre', hp', jx⟩ mv hK
    gi_wp2
    refine ⟨by simp, .inl ⟨_, _, rfl, run_takeDeferred hK, ?_⟩⟩
    refine ⟨.tuple #[], results_none rfl _ _ _, ⟨_, rfl⟩, Oi, fin_moves hB2 mv (Nat.le_refl _) (by omega) (fun k _ c => c) _, .inr ⟨_, hp', hJx.turn _ hnD jx⟩⟩
end Go.Proofs.YtkjioadmebkaoaaDoor
