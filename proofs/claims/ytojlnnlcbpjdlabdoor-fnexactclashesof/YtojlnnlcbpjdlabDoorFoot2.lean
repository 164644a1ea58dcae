/- The contract of impl.footprintOf. -/
import Derived.Test.YtojlnnlcbpjdlabDoorFoot1
set_option linter.unusedVariables false
namespace Go.Proofs.YtojlnnlcbpjdlabDoor
open Go.RowKit Go.Shelf
open Doc1

attribute [local go_sem] Oper.semAt_some

theorem ft_len (l : List Pt) (h : ∀ p ∈ l, pk p ≠ 0) : (ftL l).1.length ≤ 300 * l.length ∧ (ftL l).2.length ≤ l.length := by
  suffices H : ∀ (l : List Pt) (s : List Bool × List Nat), (∀ p ∈ l, pk p ≠ 0) → (l.foldl ftS s).1.length ≤ s.1.length + 300 * l.length ∧ (l.foldl ftS s).2.length ≤ s.2.length + l.length by
    have := H l ([], []) h
    simpa [ftL] using this
  intro l
  induction l with
  | nil => intro s _; simp
  | cons p l ih =>
    intro s h
    have h1 := ih (ftS s p) (fun q hq => h q (by simp [hq]))
    have h2 := (pk_bd (h p (by simp))).1
    obtain ⟨K, hK, hk⟩ := pk_nat (h p (by simp))
    unfold tk1 at h2
    have e1 : (ftS s p).1.length = s.1.length + (p.keep.toNat + p.drop.size) := by simp [ftS, fdP]
    have e2 : (ftS s p).2.length ≤ s.2.length + 1 := by unfold ftS; simp only; split <;> simp
    rw [List.foldl_cons, List.length_cons]
    omega
theorem pk_szs' {p : Pt} (h : pk p ≠ 0) : p.put.size ≤ 300 ∧ p.drop.size ≤ 300 := by
  have := pk_Bd h
  exact ⟨this.2.1, this.2.2⟩
theorem own_pinF {w : World} {B : Nat} {v : Value} {l : List Pt} (h : POwn w B v l) (hT : Tab w) (hs : ∀ p ∈ l, p.put.size ≤ 1048576 ∧ p.drop.size ≤ 1048576) (hl : l.length ≤ 1048576) :
    ∃ aw g cap, v = .slice aw l.length cap ∧ Pin w aw g cap l ∧ (g = 0 ∨ B ≤ g) := by
  have hsi : ∀ i (hi : i < l.length), l[i].put.size ≤ 1048576 ∧ l[i].drop.size ≤ 1048576 := fun i hi => hs _ (List.getElem_mem hi)
  rcases h.2 with ⟨rfl, h0⟩ | ⟨g, cap, cur, rfl, hb, hh, hle, hm, hz, ht⟩
  · obtain rfl := List.eq_nil_of_length_eq_zero h0
    exact ⟨none, 0, 0, rfl, ⟨⟨by simp, by unfold maxLen; omega⟩, hsi, hl, (fun j u hu => by simp [encP] at hu), hT.lt, fun c => absurd rfl c⟩, .inl rfl⟩
  · refine ⟨_, g, cap, rfl, ⟨⟨hle, hm⟩, hsi, hl, fun j u hu => ?_, (Array.getElem?_eq_some_iff.1 hh).1, fun _ => rfl⟩, .inr hb⟩
    have := h.cells (g := g) rfl j u hu
    have hadd : (⟨g, 0, none⟩ : Addr).add j = ⟨g, j, none⟩ := by unfold Addr.add; split <;> simp_all
    rwa [hadd] at this
theorem two_new (w : World) (a b : Value) (t : TypeId) : (w.alloc (.cells #[a, b] t)).heap[w.heap.size]? = some (.cells #[a, b] t) := heap_alloc_new w _
theorem infoBool : (Tryd.prog.info? 4).map (fun i => (i.zero, i.size, i.bytes)) = some (some (.bool false), 1, 1) := by kernel_rfl
theorem infoInt : (Tryd.prog.info? 3).map (fun i => (i.zero, i.size, i.bytes)) = some (some (.int .i64 0), 1, 8) := by kernel_rfl

set_option maxRecDepth 100000 in
set_option maxHeartbeats 4000000 in
theorem footprintI {w : World} {aw : Option Addr} {g cap : Nat} {l : List Pt} (h : Pin w aw g cap l) (hT : Tab w) (hg : goodO l = true) :
    Calls Tryd.prog 17 #[.slice aw l.length cap] w fun e w' => ∃ vd vp, e = .returned (.agg #[vd, vp]) ∧ w'.ownsRow w.heap.size 4 1 vd (ftL (norO l)).1.length (blS (ftL (norO l)).1) ∧ w'.ownsRow w.heap.size 3 1 vp (ftL (norO l)).2.length (nmS (ftL (norO l)).2) ∧ Below w.heap.size w w' := by
  have NO := hide (fun w' (hb : Below w.heap.size w w') => normalI (h.later hb) (hT.below hb))
  rw [hg] at NO
  have hn : goodO (norO l) = true := by
    unfold norO; rw [if_pos hg]
    have := normG hg
    rw [← this.2]; exact this.1
  have hHT := hide hT
  have HGN := hide hn
  have hnpk := goodO_pk hn
  have hn60 := (goodO_le hn).1
  clear h hT hg
  have hdep : Fence.wide.depth = none := rfl
  refine (callsIn_wide (n := 6)).1 ?_
  refine callsIn_of_wp_marks Tryd.func17 rfl trivial ?_ rfl
  simp only [Tryd.ntmps17, List.size_toArray, List.length_cons, List.length_nil, Nat.reduceAdd, Nat.reduceSub, Array.replicate_succ, Array.replicate_zero, List.push_toArray, List.append_toArray, List.nil_append, List.cons_append]
  gi_wp2_with fail
  refine ⟨trivial, ?_⟩
  gi_at_call 30
  have hb0 : Below w.heap.size w ((w.alloc (.cells #[.slice none 0 0, .slice none 0 0] 47)).alloc (.cells #[.slice none 0 0, .slice none 0 0] 47)) := ((Below.refl _ _).alloc (Nat.le_refl _) _).alloc (by simp) _
  refine (callsIn_wide.2 (NO.out _ hb0)).mono ?_
  rintro e w1 ⟨v, rfl, ho, hb1⟩
  have hT1 := hHT.out.below (hb0.trans (hb1.mono (by simp; omega)))
  obtain ⟨awn, gn, capn, rfl, pn, hgn⟩ := own_pinF ho hT1 (fun p hp => by have := pk_szs' (hnpk p hp); omega) (by omega)
  have PO := hide (fun w' => partsOf_any (.slice awn (norO l).length capn) w' _ _ _ rfl)
  have hs1 := hb1.size
  simp only [World.size_alloc] at hs1 hgn
  have hrb : w1.heap[w.heap.size]? = some (.cells #[.slice none 0 0, .slice none 0 0] 47) := by
    rw [hb1.block w.heap.size (by simp; omega), heap_alloc2_old]
  have hfb : w1.heap[w.heap.size + 1]? = some (.cells #[.slice none 0 0, .slice none 0 0] 47) := by
    rw [hb1.block (w.heap.size + 1) (by simp), heap_alloc2_new]
  have hbw1 : Below w.heap.size w w1 := hb0.trans (hb1.mono (by simp; omega))
  clear NO ho hb0 hb1
  gi_wp2_with (refine ⟨trivial, ?_⟩; gi_at_call 31; refine (callsIn_wide.2 (PO.out _)).mono ?_; rintro e w' ⟨rfl, hw⟩; replace hw := hw.symm; subst hw)
  have hB2 : Below w1.heap.size w1 (w1.alloc (.cells #[.slice awn (norO l).length capn] 26)) := (Below.refl _ _).alloc (Nat.le_refl _) _
  have hs2 : (w1.alloc (.cells #[.slice awn (norO l).length capn] 26)).heap.size = w1.heap.size + 1 := by simp
  have hcs : (w1.alloc (.cells #[.slice awn (norO l).length capn] 26)).cell? ⟨w1.heap.size, 0, none⟩ = some (.slice awn (norO l).length capn) := by
    unfold World.cell?; rw [heap_alloc_new]; rfl
  obtain ⟨W2, hW2⟩ : ∃ W2, w1.alloc (.cells #[.slice awn (norO l).length capn] 26) = W2 := ⟨_, rfl⟩
  rw [hW2] at hB2 hs2 hcs ⊢
  clear hW2 PO
  have pin2 := pn.later hB2
  have tab2 := hT1.below hB2
  have hfb2 := (hB2.block (w.heap.size + 1) (by omega)).trans hfb
  have hrb2 := (hB2.block w.heap.size (by omega)).trans hrb
  have start : FKo (w.heap.size + 1) [] [] (.slice none 0 0) (.slice none 0 0) W2 :=
    ⟨by rw [cell_of_row _ _ _ _ _ _ hfb2]; rfl, by rw [cell_of_row _ _ _ _ _ _ hfb2]; rfl, frozen_of_row _ _ _ _ _ hfb2, frozen_of_row _ _ _ _ _ hfb2, World.ownsRow_nil _ _ _ _, World.ownsRow_nil _ _ _ _, (fun c => by cases c), (fun c => by cases c), (fun x hx => by cases hx)⟩
  have ltT := hHT.out.lt
  have ltn := pn.lt
  have hJ := fJ_held (w.heap.size + 1)
  have noF : ∀ k, k ≠ w.heap.size + 1 → ¬ FO (w.heap.size + 1) (.slice none 0 0) (.slice none 0 0) k := by
    rintro k hk (c | c | c)
    · exact hk c
    · cases c
    · cases c
  refine wpIn_range rfl (enters_of Tryd.func42 (by kernel_rfl) rfl) (parts_iter pin2 tab2 hcs) (fun _ => rfl)
    (J := (fun (pre : List Pt) => FK (w.heap.size + 1) (ftL pre))) (Jx := fun _ _ _ _ => False) (O := FO (w.heap.size + 1) (.slice none 0 0) (.slice none 0 0)) hJ (fun _ => no_held) (Nat.le_refl _)
    (by
      rintro k (rfl | rfl | rfl)
      · exact ⟨by omega, rfl, noF _ (by omega)⟩
      · exact ⟨by omega, rfl, noF _ (by rcases hgn with c | c <;> omega)⟩
      · exact ⟨by omega, rfl, noF _ (by omega)⟩)
    ⟨_, _, start, rfl⟩
    (pAx_held hJ (fun x Bx => { tmps := #[.slice aw l.length cap, undef, .pointer (some ⟨w.heap.size, 0, none⟩), .pointer (some ⟨w.heap.size + 1, 0, none⟩), .slice awn (norO l).length capn, .bool true, .int .i64 (pk x : Int), .pointer (some ⟨Bx, 0, none⟩), .tuple #[.slice awn (norO l).length capn, .bool true], .slice aw l.length cap, .tuple #[.slice awn (norO l).length capn, .bool true], .slice awn (norO l).length capn, .bool true, .slice awn (norO l).length capn, .func (.func 42) #[] #[.pointer (some ⟨w1.heap.size, 0, none⟩)], .int .i64 (pk x : Int), ptV x, undef, undef, undef, undef, undef, undef, undef, undef, undef, undef, undef, undef, undef, undef, undef, undef, undef, undef, undef, undef, undef, undef, undef, undef, undef, undef, undef], defers := [] }))
    ?assigned ?round ?done ?stop
  case assigned =>
    rintro l1 pre x O W K hj hx hK
    obtain ⟨y0, y1, y2⟩ := cells3_new W (.int .i64 x.keep) (.string x.put) (.string x.drop) 39
    simp only [ptE, ptV]
    gi_wp2
    exact hK _ _ _ ((Moves.refl _ _).alloc _) ⟨O, W.heap.size, hJ.up hj ((Below.refl _ _).alloc (Nat.le_refl _) _), fun _ => Iff.rfl, fun c => absurd (hJ.lt hj _ c) (by omega), ⟨y0, y1, y2⟩, rfl⟩
  case round =>
    rintro l1 pre x a' O W ⟨O1, Bx, ⟨vd, vp, hP, rfl⟩, hB, hnB, hbx, rfl⟩ hl1 hnl hx
    have hxm : x ∈ norO l := hx.subset (by simp)
    have hpk := hnpk x hxm
    have hpl : pre.length ≤ 60 := by have := hx.length_le; simp at this; omega
    have hfl := ft_len pre (fun p hp => hnpk p (hx.subset (by simp [hp])))
    obtain ⟨K, hK3, hK⟩ := pk_nat hpk
    have hsz := pk_szs' hpk
    have hp3 : pk x = 1 ∨ pk x = 2 ∨ pk x = 3 := by
      have := (pk_sizes hpk).2.2.2
      omega
    have hsn := ftL_snoc pre x
    obtain ⟨i4, h40, h41, h42, h43⟩ := info_parts infoBool
    obtain ⟨i3, h30, h31, h32, h33⟩ := info_parts infoInt
    obtain ⟨x0, x1, x2⟩ := hbx
    rw [hK] at x0
    have HB := hide hB
    have MV : Hid (∀ O' W', Moves (FO (w.heap.size + 1) vd vp) W O' W' → Moves O W O' W') := hide (fun O' W' m => m.wider (fun k _ c => (HB.out k).2 (.inl c)) (fun k hk c => (HB.out k).2 (.inl (m.own k hk c))))
    have ltx : Bx < W.heap.size := World.block_lt_of_cell? _ _ x0
    obtain ⟨n, hn'⟩ : ∃ n, n = K + x.drop.size := ⟨_, rfl⟩
    obtain ⟨b, hb'⟩ : ∃ b, b = decide (pk x = 3) := ⟨_, rfl⟩
    have hfd : fdP x = List.replicate n b := by unfold fdP; rw [hK, hb', hn']; simp
    unfold ftS at hsn
    rw [hfd] at hsn
    generalize ftL pre = s0 at *
    obtain ⟨d, ps⟩ := s0
    simp only at hP hfl hsn
    have hkb : ((pk x : Int) == 3) = b := by
      rw [hb', Bool.eq_iff_iff]; simp; omega
    have nx1 : vp.ownBlock ≠ some Bx := fun c => hnB (.inr (.inr c))
    have nxf : Bx ≠ w.heap.size + 1 := fun c => hnB (.inl c)
    clear hB hnl hl1 hxm hpk hfd hnB hb'
    have hwn : IntKind.i64.wrap ((K : Int) + (x.drop.size : Int)) = (n : Int) := by rw [IntKind.wrap_i64]; omega
    have hn300 : n ≤ 600 := by omega
    by_cases hq2 : pk x = 2
    · have hk2 : ((pk x : Int) == 2) = true := by rw [hq2]; rfl
      rw [if_pos hq2] at hsn
      have HE := hide hsn
      have HP := hide hP
      have e0 := hP.c0
      have e1 := hP.c1
      have f1 := hP.f1
      have lt0 := hP.lt (w.heap.size + 1) (.inl rfl)
      have ne1 := hP.np
      obtain ⟨ad, cd, ed0⟩ : ∃ ad cd, vd = .slice ad d.length cd := by
        rcases hP.od.2 with ⟨rfl, h0⟩ | ⟨g', cap', cur', rfl, -⟩
        · exact ⟨none, 0, by rw [h0]⟩
        · exact ⟨_, _, rfl⟩
      subst ed0
      clear hP hsn hq2
      gi_wp2_with (gi_at_builtin; go_loud (refine listIn_app _ rfl _ _ 45 rfl (w.heap.size + 1) 3 i3 _ 1 8 Tryd.underlying45 h30 h31 h32 h33 rfl (by omega) vp ps.length (nmS ps) rfl (HP.out.op.alloc _) ⟨W.heap.size, 0, none⟩ 1 1 [.int .i64 (d.length : Int)] rfl rfl (World.news_of_block (cs := #[.int .i64 (d.length : Int)]) (t := 3) (fr := (0, 0)) (heap_alloc_new W _)) (by simp [Value.oneCell']) (by omega) (by unfold maxLen; omega) (by omega) (by simp; omega) (W.heap.size + 1) (by simp) ?_); intro gg cap' w5 hown1 hgrow hat; go_loud (have hcz := (hgrow.cell_far ⟨w.heap.size + 1, 1, none⟩ (by simp; omega) (Ne.symm ne1)).trans (World.cell?_of_block (Below.heap_alloc W _ _ lt0) |>.trans e1); have hfz := (hgrow.frozen_far ⟨w.heap.size + 1, 1, none⟩ (by simp; omega) (Ne.symm ne1)).trans (World.frozen?_of_block (Below.heap_alloc W _ _ lt0) |>.trans f1); have hy0 : ∀ v, (w5.setCell ⟨w.heap.size + 1, 1, none⟩ v).cell? ⟨Bx, 0, none⟩ = some (.int .i64 (K : Int)) := (fun v => (World.cell?_of_block (Below.heap_setCell _ _ _ _ nxf)).trans ((hgrow.cell_far ⟨Bx, 0, none⟩ (by simp; omega) (Ne.symm nx1)).trans ((World.cell?_of_block (Below.heap_alloc W _ _ ltx)).trans x0))); have hy2 : ∀ v, (w5.setCell ⟨w.heap.size + 1, 1, none⟩ v).cell? ⟨Bx, 2, none⟩ = some (.string x.drop) := (fun v => (World.cell?_of_block (Below.heap_setCell _ _ _ _ nxf)).trans ((hgrow.cell_far ⟨Bx, 2, none⟩ (by simp; omega) (Ne.symm nx1)).trans ((World.cell?_of_block (Below.heap_alloc W _ _ ltx)).trans x2)))))
      obtain ⟨A1, A2⟩ := HP.out.put (b := d.length) hown1 (grownBy_al hgrow) (hat.imp id (fun e => by omega))
      gi_loopw [33] (fun v wr => ∃ (j : Nat) (O' : Nat → Prop), j ≤ n ∧ v = .int .i64 (j : Int) ∧ FK (w.heap.size + 1) (d ++ List.replicate j b, ps ++ [d.length]) O' wr ∧ Moves (FO (w.heap.size + 1) (.slice ad d.length cd) vp) W O' wr) (fun v _ => n - (intOf v).toNat)
      case atStart => exact ⟨0, _, by omega, rfl, ⟨_, (.slice (some ⟨gg, 0, none⟩) (ps.length + 1) cap'), by simpa using A1, rfl⟩, A2⟩
      case round =>
        obtain ⟨j, O', hj, rfl, ⟨vd1, vp1, hQ, rfl⟩, mv⟩ := hrel
        by_cases hjn : j < n
        · have hQl : (d ++ List.replicate j b).length ≤ 30000 := by simp; omega
          obtain ⟨d1, hd1⟩ : ∃ d1, d ++ List.replicate j b = d1 := ⟨_, rfl⟩
          rw [hd1] at hQ hQl
          have HD1 : Hid (d ++ List.replicate (j + 1) b = d1 ++ [b]) := hide (by rw [List.replicate_succ', ← List.append_assoc, hd1])
          have HQ := hide hQ
          have HMV := hide mv
          have e0 := hQ.c0
          have f0 := hQ.f0
          have lt0 := hQ.lt (w.heap.size + 1) (.inl rfl)
          have ne0 := hQ.nd
          clear hQ mv hd1
          gi_wp2_with (gi_at_builtin; refine listIn_app _ rfl _ _ 44 rfl (w.heap.size + 1) 4 i4 _ 1 1 Tryd.underlying44 h40 h41 h42 h43 rfl (by omega) vd1 d1.length (blS d1) rfl (HQ.out.od.alloc _) ⟨wr.heap.size, 0, none⟩ 1 1 [.bool b] rfl rfl (World.news_of_block (cs := #[.bool b]) (t := 4) (fr := (0, 0)) (heap_alloc_new wr _)) (by simp [Value.oneCell']) (by omega) (by unfold maxLen; omega) (by omega) (by simp; omega) (wr.heap.size + 1) (by simp) ?_; intro gg cap' w5 hown1 hgrow hat; have hcz := (hgrow.cell_far ⟨w.heap.size + 1, 0, none⟩ (by simp; omega) (Ne.symm ne0)).trans (World.cell?_of_block (Below.heap_alloc wr _ _ lt0) |>.trans e0); have hfz := (hgrow.frozen_far ⟨w.heap.size + 1, 0, none⟩ (by simp; omega) (Ne.symm ne0)).trans (World.frozen?_of_block (Below.heap_alloc wr _ _ lt0) |>.trans f0))
          obtain ⟨A1, A2⟩ := HQ.out.drop (b := b) hown1 (grownBy_al hgrow) (hat.imp id (fun e => by omega))
          refine ⟨⟨j + 1, _, by omega, by go_num, ⟨_, _, by rw [HD1.out]; exact A1, rfl⟩, HMV.out.trans A2⟩, by simp [intOf]; omega⟩
        · obtain rfl : j = n := by omega
          have HQ := hide hQ
          have HMV := hide mv
          clear hQ mv
          gi_wp2
          refine ⟨_, MV.out _ _ HMV.out, _, _, ?_, rfl⟩
          rw [HE.out]
          exact HQ.out
    · have hk2 : ((pk x : Int) == 2) = false := by rw [beq_eq_false_iff_ne]; omega
      rw [if_neg hq2] at hsn
      have HE := hide hsn
      have HP := hide hP
      clear hP hsn
      gi_wp2
      gi_loopw [33] (fun v wr => ∃ (j : Nat) (O' : Nat → Prop), j ≤ n ∧ v = .int .i64 (j : Int) ∧ FK (w.heap.size + 1) (d ++ List.replicate j b, ps) O' wr ∧ Moves (FO (w.heap.size + 1) vd vp) W O' wr) (fun v _ => n - (intOf v).toNat)
      case atStart => exact ⟨0, _, by omega, rfl, ⟨_, vp, by simpa using HP.out, rfl⟩, Moves.refl _ _⟩
      case round =>
        obtain ⟨j, O', hj, rfl, ⟨vd1, vp1, hQ, rfl⟩, mv⟩ := hrel
        by_cases hjn : j < n
        · have hQl : (d ++ List.replicate j b).length ≤ 30000 := by simp; omega
          obtain ⟨d1, hd1⟩ : ∃ d1, d ++ List.replicate j b = d1 := ⟨_, rfl⟩
          rw [hd1] at hQ hQl
          have HD1 : Hid (d ++ List.replicate (j + 1) b = d1 ++ [b]) := hide (by rw [List.replicate_succ', ← List.append_assoc, hd1])
          have HQ := hide hQ
          have HMV := hide mv
          have e0 := hQ.c0
          have f0 := hQ.f0
          have lt0 := hQ.lt (w.heap.size + 1) (.inl rfl)
          have ne0 := hQ.nd
          clear hQ mv hd1
          gi_wp2_with (gi_at_builtin; refine listIn_app _ rfl _ _ 44 rfl (w.heap.size + 1) 4 i4 _ 1 1 Tryd.underlying44 h40 h41 h42 h43 rfl (by omega) vd1 d1.length (blS d1) rfl (HQ.out.od.alloc _) ⟨wr.heap.size, 0, none⟩ 1 1 [.bool b] rfl rfl (World.news_of_block (cs := #[.bool b]) (t := 4) (fr := (0, 0)) (heap_alloc_new wr _)) (by simp [Value.oneCell']) (by omega) (by unfold maxLen; omega) (by omega) (by simp; omega) (wr.heap.size + 1) (by simp) ?_; intro gg cap' w5 hown1 hgrow hat; have hcz := (hgrow.cell_far ⟨w.heap.size + 1, 0, none⟩ (by simp; omega) (Ne.symm ne0)).trans (World.cell?_of_block (Below.heap_alloc wr _ _ lt0) |>.trans e0); have hfz := (hgrow.frozen_far ⟨w.heap.size + 1, 0, none⟩ (by simp; omega) (Ne.symm ne0)).trans (World.frozen?_of_block (Below.heap_alloc wr _ _ lt0) |>.trans f0))
          obtain ⟨A1, A2⟩ := HQ.out.drop (b := b) hown1 (grownBy_al hgrow) (hat.imp id (fun e => by omega))
          refine ⟨⟨j + 1, _, by omega, by go_num, ⟨_, _, by rw [HD1.out]; exact A1, rfl⟩, HMV.out.trans A2⟩, by simp [intOf]; omega⟩
        · obtain rfl : j = n := by omega
          have HQ := hide hQ
          have HMV := hide mv
          clear hQ mv
          gi_wp2
          refine ⟨_, MV.out _ _ HMV.out, _, _, ?_, rfl⟩
          rw [HE.out]
          exact HQ.out
  case done =>
    rintro D O W hD hO ⟨vd, vp, hP, rfl⟩ mv hK
    have hr := (mv.same w.heap.size (by omega) (noF _ (by omega))).trans hrb2
    have e0 := hP.c0
    have e1 := hP.c1
    have r0 := cell_of_row W w.heap.size 0 _ _ _ hr
    have r1 := cell_of_row W w.heap.size 1 _ _ _ hr
    simp only [List.getElem?_toArray, List.getElem?_cons_zero, List.getElem?_cons_succ] at r0 r1
    have z0 := frozen_of_row W w.heap.size 0 _ _ hr
    have z1 := frozen_of_row W w.heap.size 1 _ _ hr
    have hm := heap_setCell_same _ w.heap.size 1 _ _ vp (heap_setCell_same W w.heap.size 0 _ _ vd hr)
    have hDne : w.heap.size ≠ D := by omega
    have hK2 : ((W.setCell ⟨w.heap.size, 0, none⟩ vd).setCell ⟨w.heap.size, 1, none⟩ vp).heap[D]? = some (.deferred (some [])) := by
      rw [heap_setCell_other _ _ _ _ (fun e => hDne e.symm), heap_setCell_other _ _ _ _ (fun e => hDne e.symm)]; exact hK
    have hm2 : (((W.setCell ⟨w.heap.size, 0, none⟩ vd).setCell ⟨w.heap.size, 1, none⟩ vp).putObj D (.deferred none)).heap[w.heap.size]? = some (.cells #[vd, vp] 47) := by
      rw [World.putObj_heap_other hDne]; exact hm
    have k0 := cell_of_row _ w.heap.size 0 _ _ _ hm2
    have k9 := cell_of_row _ w.heap.size 1 _ _ _ hm2
    simp only [List.getElem?_toArray, List.getElem?_cons_zero, List.getElem?_cons_succ] at k0 k9
    have hld := hide (And.intro k0 k9)
    clear k0 k9
    have hsz2 := mv.size
    have bw : Below w.heap.size w (((W.setCell ⟨w.heap.size, 0, none⟩ vd).setCell ⟨w.heap.size, 1, none⟩ vp).putObj D (.deferred none)) := by
      have q1 : Below w.heap.size w W := (hbw1.trans (hB2.mono hbw1.size)).trans (mv.below (by omega) (fun k hk => noF k (by omega)))
      have q2 := (q1.setCell (p := ⟨w.heap.size, 0, none⟩) (Nat.le_refl _) vd).setCell (p := ⟨w.heap.size, 1, none⟩) (Nat.le_refl _) vp
      exact q2.trans ⟨rfl, rfl, rfl, by simp, fun k hk => World.putObj_heap_other (by omega)⟩
    have own : ∀ (v : Value) x, (v = vd ∨ v = vp) → v.ownBlock = some x → (((W.setCell ⟨w.heap.size, 0, none⟩ vd).setCell ⟨w.heap.size, 1, none⟩ vp).putObj D (.deferred none)).heap[x]? = W.heap[x]? := by
      intro v x hv hx
      have hFO : FO (w.heap.size + 1) vd vp x := by rcases hv with rfl | rfl; exact .inr (.inl hx); exact .inr (.inr hx)
      have hxD : x ≠ D := fun e => hO (e ▸ hFO)
      have hxw : x ≠ w.heap.size := by
        rcases hv with rfl | rfl
        · have := (hP.od.lt x hx).1; omega
        · have := (hP.op.lt x hx).1; omega
      rw [World.putObj_heap_other hxD, heap_setCell_other _ _ _ _ hxw, heap_setCell_other _ _ _ _ hxw]
    have HF := hide (And.intro (own_mono (own_stays hP.od (fun x hx => own vd x (.inl rfl) hx)) (Nat.le_succ _)) (And.intro (own_mono (own_stays hP.op (fun x hx => own vp x (.inr rfl) hx)) (Nat.le_succ _)) bw))
    have c1 : (W.setCell ⟨w.heap.size, 0, none⟩ vd).cell? ⟨w.heap.size, 1, none⟩ = some (.slice none 0 0) := by
      rw [cell_of_row _ _ _ _ _ _ (heap_setCell_same W w.heap.size 0 _ _ vd hr)]; rfl
    have k1 : (W.setCell ⟨w.heap.size, 0, none⟩ vd).frozen? ⟨w.heap.size, 1, none⟩ = false := frozen_of_row _ _ _ _ _ (heap_setCell_same W w.heap.size 0 _ _ vd hr)
    obtain ⟨ad, nd, cd, ed0⟩ : ∃ ad nd cd, vd = .slice ad nd cd := by
      rcases hP.od.2 with ⟨rfl, h0⟩ | ⟨g', cap', cur', rfl, -⟩
      · exact ⟨none, 0, 0, rfl⟩
      · exact ⟨_, _, _, rfl⟩
    obtain ⟨ap, np, cp, ep0⟩ : ∃ ap np cp, vp = .slice ap np cp := by
      rcases hP.op.2 with ⟨rfl, h0⟩ | ⟨g', cap', cur', rfl, -⟩
      · exact ⟨none, 0, 0, rfl⟩
      · exact ⟨_, _, _, rfl⟩
    subst ed0 ep0
    clear hP mv hr hm hm2 bw own start hfb2 hrb2 hcs pin2 tab2
    gi_wp2
    refine ⟨by simp, .inl ⟨_, _, rfl, run_takeDeferred hK2, ?_⟩⟩
    refine ⟨.agg #[.slice ad nd cd, .slice ap np cp], ?_, _, _, rfl, HF.out⟩
    obtain ⟨k0, k9⟩ := hld.out
    simp [results, Tryd.f17, go_sem, k0, k9]
  case stop =>
    rintro D c pre O W hD hO hpre hF
    exact hF.elim
end Go.Proofs.YtojlnnlcbpjdlabDoor
