/- The program's GoodSeq. -/
import Derived.Test.YtnhooalibadeeabDoorSqW4
set_option linter.unusedVariables false
namespace Go.Proofs.YtnhooalibadeeabDoor
open Go.RowKit
open Doc1

theorem CellR.other1 {w : World} {c d : Nat} {x : Value} (h : CellR w c x) (hd : d ≠ c) (j : Nat) (y : Value) : CellR (w.setCell ⟨d, j, none⟩ y) c x := by
  unfold CellR at h ⊢
  rw [Below.heap_setCell _ _ _ _ (fun e => hd e.symm)]
  exact h
theorem BxI.put {w : World} {g : Nat} {t a : Int} (h : BxI w g t a) (t1 a1 : Int) : BxI ((w.setCell ⟨g, 0, none⟩ (.int .i64 t1)).setCell ⟨g, 1, none⟩ (.int .i64 a1)) g t1 a1 := by
  have h1 := cell_put (cell_put h 0 (.int .i64 t1)) 1 (.int .i64 a1)
  exact h1
theorem cmp2_ge (y x : Am) : decide (0 ≤ cmp2 y.time y.actor x.time x.actor) = !lt2 y x := by
  unfold cmp2 lt2
  rw [Bool.eq_iff_iff]
  simp
  by_cases h1 : y.time < x.time
  · rw [if_pos h1]; omega
  · rw [if_neg h1]
    by_cases h2 : x.time < y.time
    · rw [if_pos h2]; omega
    · rw [if_neg h2]
      by_cases h3 : y.actor < x.actor
      · rw [if_pos h3]; omega
      · rw [if_neg h3]
        by_cases h4 : x.actor < y.actor
        · rw [if_pos h4]; omega
        · rw [if_neg h4]; omega
theorem cmp2_zero {x : Am} (h : isOk x = true) : decide (0 ≤ cmp2 0 0 x.time x.actor) = false := by
  unfold isOk rngA at h
  simp at h
  unfold cmp2
  rw [if_pos (by omega)]; decide

set_option maxRecDepth 100000 in
set_option maxHeartbeats 4000000 in
theorem goodSeqI {w : World} {a : Option Addr} {cap : Nat} {l : List Am} (h : SIn w a cap l) (hT : Tab w) :
    Calls Tryd.prog 25 #[.agg #[.slice a l.length cap]] w fun e w' => e = .returned (.bool (goodQ l)) ∧ Below w.heap.size w w' := by
  obtain ⟨R, hR⟩ : ∃ R, R = goodQ l := ⟨_, rfl⟩
  rw [← hR]
  have HR := hide hR
  clear hR
  have H := hide h
  have hcp := h.inn.le
  have hln := h.len
  have hb0 : Below w.heap.size w (w.alloc (.cells #[.slice a l.length cap] 28)) := (Below.refl _ _).alloc (Nat.le_refl _) _
  have hc0 : CellR (w.alloc (.cells #[.slice a l.length cap] 28)) w.heap.size (.slice a l.length cap) := CellR.new _ _
  have k0 := hc0.cell
  have HB00 := hide hb0
  by_cases hbig : l.length ≤ 80
  · have z1 : decide ((l.length : Int) > 80) = false := by rw [decide_eq_false_iff_not]; omega
    have e0 : (w.alloc (.cells #[.slice a l.length cap] 28)).heap.size = w.heap.size + 1 := by simp
    obtain ⟨w0, hw0⟩ : ∃ w0, w0 = (w.alloc (.cells #[.slice a l.length cap] 28)).alloc (.cells #[.int .i64 0, .int .i64 0] 52) := ⟨_, rfl⟩
    have hbz : Below w.heap.size w w0 := by rw [hw0]; exact hb0.alloc (by omega) _
    have HC : Hid (CellR w0 w.heap.size (.slice a l.length cap)) := hide (by rw [hw0]; exact hc0.later ((Below.refl _ _).alloc (Nat.le_refl _) _))
    have HI0 : Hid (BxI w0 (w.heap.size + 1) 0 0) := hide (by rw [hw0, ← e0]; exact BxI.new _ 0 0)
    have HB0 := hide hbz
    have TB := hide (fun w' (hb : Below w.heap.size w w') => hT.below hb)
    clear h hc0 hb0 hbz hT e0
    have k1 := HC.out.cell
    go_enter Tryd.func25, Tryd.ntmps25
    rw [hw0] at k1
    go_wp2
    rw [← hw0]
    clear hw0 k1 k0 z1
    go_loopw [14] (fun i wr => ∃ k : Nat, k ≤ l.length ∧ i = .int .i64 k ∧ Hid (goodP l k = true) ∧ Below w.heap.size w wr ∧ Hid (CellR wr w.heap.size (.slice a l.length cap)) ∧ ∃ T A, Hid (BxI wr (w.heap.size + 1) T A) ∧ Hid (∀ x, isOk x = true → decide (0 ≤ cmp2 T A x.time x.actor) = !pvOk l k x)) (fun i _ => l.length - (intOf i).toNat)
    case atStart => exact ⟨0, by omega, rfl, hide rfl, HB0.out, HC, 0, 0, HI0, hide (fun x hx => by rw [cmp2_zero hx]; rfl)⟩
    case round =>
      obtain ⟨k, hk, rfl, hgp, hbel, HCr, T, A, HIr, HP⟩ := hrel
      by_cases hlt : k < l.length
      · obtain ⟨g, rfl, hg, hc⟩ := (H.out.later hbel).inn.ad (by intro c; rw [c] at hlt; simp at hlt)
        obtain ⟨x, hx⟩ : ∃ x, x = l[k] := ⟨_, rfl⟩
        have hca := hc.amat k hlt
        rw [← hx] at hca
        obtain ⟨c0, c1, c2, c3, c4, c5⟩ := hca
        have HX := hide hx
        have hxs : x.byte.size ≤ 1048576 := by rw [hx]; exact H.out.txt k hlt
        obtain ⟨w1, hw1⟩ : ∃ w1, w1 = wr.alloc (.cells #[.int .i64 x.time, .int .i64 x.actor, .int .i64 x.above, .int .i64 x.maker, .string x.byte, .bool x.gone] 47) := ⟨_, rfl⟩
        have hb1 : Below wr.heap.size wr w1 := by rw [hw1]; exact (Below.refl _ _).alloc (Nat.le_refl _) _
        have BX : Hid (BxA w1 wr.heap.size x) := hide (by rw [hw1]; exact BxA.new _ _)
        have HB1 := hide (hbel.trans (hb1.mono hbel.size))
        have HW := hide (show w.heap.size + 1 < wr.heap.size from HIr.out.lt)
        have k0 := HCr.out.cell
        have HC1 := hide (HCr.out.later hb1)
        have HI1 := hide (HIr.out.later hb1)
        clear hc hbel hb1 hx HCr HIr
        go_wp2_with fail
        rw [← hw1]
        clear hw1 c0 c1 c2 c3 c4 c5 k0
        have KS : Hid (∀ w', Below w1.heap.size w1 w' → w'.cell? ⟨wr.heap.size, 0, none⟩ = some (.int .i64 x.time) ∧ w'.cell? ⟨wr.heap.size, 1, none⟩ = some (.int .i64 x.actor) ∧ w'.cell? ⟨wr.heap.size, 2, none⟩ = some (.int .i64 x.above) ∧ w'.cell? ⟨wr.heap.size, 3, none⟩ = some (.int .i64 x.maker) ∧ w'.cell? ⟨wr.heap.size, 4, none⟩ = some (.string x.byte) ∧ w'.cell? ⟨wr.heap.size, 5, none⟩ = some (.bool x.gone) ∧ w'.cell? ⟨w.heap.size, 0, none⟩ = some (.slice (some ⟨g, 0, none⟩) l.length cap) ∧ w'.cell? ⟨w.heap.size + 1, 0, none⟩ = some (.int .i64 T) ∧ w'.cell? ⟨w.heap.size + 1, 1, none⟩ = some (.int .i64 A)) := hide (fun w' hb => by
          have q := (BX.out.later hb).cells
          have p := (HI1.out.later hb).cells
          exact ⟨q.1, q.2.1, q.2.2.1, q.2.2.2.1, q.2.2.2.2.1, q.2.2.2.2.2, (HC1.out.later hb).cell, p.1, p.2⟩)
        have CI := hide (fun (w' : World) (hb : Below w1.heap.size w1 w') => isGoodA_any x w' hxs (TB.out w' (HB1.out.trans (hb.mono HB1.out.size))))
        have CS := hide (fun (w' : World) (hb : Below w1.heap.size w1 w') => standsBehind_any ((H.out.later (HB1.out.trans (hb.mono HB1.out.size))).inn.take k) (by rw [List.length_take]; omega) x (n := (k : Int)) (by rw [List.length_take]; omega))
        have CD := hide (fun (w' : World) => id_any x w')
        have CC := hide (fun (w' : World) => compare_any T A x.time x.actor w')
        simp only [Int.toNat_natCast] at CS
        unfold amV at CI CS CD
        have GN : Hid (okP l k = false → goodQ l = false) := hide (fun h => by unfold goodQ; rw [← good_same, goodP_no hlt h]; simp)
        have GY : Hid (okP l k = true → goodP l (k + 1) = true) := hide (fun h => by rw [goodP_succ, hgp.out, h]; rfl)
        have GE : Hid (okP l k = (isOk x && sbA x (l.take k) && pvOk l k x)) := hide (by rw [okP_at hlt, ← HX.out]; rfl)
        obtain ⟨m0, m1, m2, m3, m4, m5, m6, m7, m8⟩ := KS.out w1 (Below.refl _ _)
        have HBQ : Hid (Below w.heap.size w w1 ∧ w.heap.size + 1 < w1.heap.size) := hide ⟨HB1.out, HI1.out.lt⟩
        have hxlt := BX.out.lt
        go_cut [37] from 19 to 37 (fun v wx => v = .bool (!okP l k) ∧ Below w1.heap.size w1 wx)
        case first =>
          obtain ⟨G1, hG1⟩ : ∃ G, G = isOk x := ⟨_, rfl⟩
          obtain ⟨G2, hG2⟩ : ∃ G, G = sbA x (l.take k) := ⟨_, rfl⟩
          obtain ⟨G3, hG3⟩ : ∃ G, G = cmp2 T A x.time x.actor := ⟨_, rfl⟩
          rw [← hG1] at CI GE
          rw [← hG2] at CS GE
          rw [← hG3] at CC
          have HP1 : Hid (G1 = true → decide (0 ≤ G3) = !pvOk l k x) := hide (fun h => by rw [hG3]; exact HP.out x (by rw [← hG1]; exact h))
          clear hG1 hG2 hG3 hxs
          cases G1 with
          | false =>
            have GEf : Hid (okP l k = false) := hide (by rw [GE.out]; rfl)
            clear GE HP1 CS CD CC GN GY
            have hu : undef = Value.tuple #[] := rfl
            refine wp_region_held_drew (S := fun w' => w'.cell? ⟨wr.heap.size, 0, none⟩ = some (.int .i64 x.time) ∧ w'.cell? ⟨wr.heap.size, 1, none⟩ = some (.int .i64 x.actor) ∧ w'.cell? ⟨wr.heap.size, 2, none⟩ = some (.int .i64 x.above) ∧ w'.cell? ⟨wr.heap.size, 3, none⟩ = some (.int .i64 x.maker) ∧ w'.cell? ⟨wr.heap.size, 4, none⟩ = some (.string x.byte) ∧ w'.cell? ⟨wr.heap.size, 5, none⟩ = some (.bool x.gone) ∧ w'.cell? ⟨w.heap.size, 0, none⟩ = some (.slice (some ⟨g, 0, none⟩) l.length cap) ∧ w'.cell? ⟨w.heap.size + 1, 0, none⟩ = some (.int .i64 T) ∧ w'.cell? ⟨w.heap.size + 1, 1, none⟩ = some (.int .i64 A)) (by kernel_rfl) (KS.out _ (Below.refl _ _).drew) (fun hS => ?_)
            refine wpAnyH_take (i := 0) (v := .agg #[.int .i64 x.time, .int .i64 x.actor, .int .i64 x.above, .int .i64 x.maker, .string x.byte, .bool x.gone]) (List.getElem?_toArray.trans rfl) (by kernel_rfl) (by kernel_rfl) (by kernel_rfl) (fun _ _ _ h => h) (Or.inl ⟨by rfl, fun w' hw => by obtain ⟨s0, s1, s2, s3, s4, s5, s6, s7, s8⟩ := hw; go_simp⟩) hS ?_
            try simp only [Act.put, List.setIfInBounds_toArray, List.set_cons_succ, List.set_cons_zero]
            refine wpAnyH_ready (rs := [1]) (by kernel_rfl) (by simp) ?_
            refine AllReadyH.cons rfl (fun K hK => ?_) AllReadyH.nil
            go_simp
            go_at_call 46
            refine (CI.out _ (Below.refl _ _).drew).mono ?_
            rintro e v1 ⟨rfl, hv1⟩; have hb1 : Below w1.heap.size w1 v1 := (Below.refl _ _).drew.trans hv1
            have hS1 := KS.out v1 hb1
            go_simp
            refine hK.out _ _ hS1 (fun _ => ?_)
            clear hK K
            refine wpAnyH_take (i := 2) (v := .bool true) (List.getElem?_toArray.trans rfl) (by kernel_rfl) (by kernel_rfl) (by kernel_rfl) (fun _ _ _ h => h) (Or.inl ⟨by rfl, fun w' hw => by go_simp⟩) hS1 ?_
            try simp only [Act.put, List.setIfInBounds_toArray, List.set_cons_succ, List.set_cons_zero]
            refine wpAnyH_take (i := 3) (v := .bool true) (List.getElem?_toArray.trans rfl) (by kernel_rfl) (by kernel_rfl) (by kernel_rfl) (fun _ _ _ h => h) (Or.inl ⟨by rfl, fun w' hw => by go_simp⟩) hS1 ?_
            try simp only [Act.put, List.setIfInBounds_toArray, List.set_cons_succ, List.set_cons_zero]
            refine wpAnyH_take (i := 4) (v := undef) (List.getElem?_toArray.trans rfl) (by kernel_rfl) (by kernel_rfl) (by kernel_rfl) (fun _ _ _ h => h) (Or.inr ⟨by rfl, rfl⟩) hS1 ?_
            try simp only [Act.put, List.setIfInBounds_toArray, List.set_cons_succ, List.set_cons_zero]
            refine wpAnyH_take (i := 5) (v := undef) (List.getElem?_toArray.trans rfl) (by kernel_rfl) (by kernel_rfl) (by kernel_rfl) (fun _ _ _ h => h) (Or.inr ⟨by rfl, rfl⟩) hS1 ?_
            try simp only [Act.put, List.setIfInBounds_toArray, List.set_cons_succ, List.set_cons_zero]
            refine wpAnyH_take (i := 6) (v := undef) (List.getElem?_toArray.trans rfl) (by kernel_rfl) (by kernel_rfl) (by kernel_rfl) (fun _ _ _ h => h) (Or.inr ⟨by rfl, rfl⟩) hS1 ?_
            try simp only [Act.put, List.setIfInBounds_toArray, List.set_cons_succ, List.set_cons_zero]
            refine wpAnyH_take (i := 7) (v := undef) (List.getElem?_toArray.trans rfl) (by kernel_rfl) (by kernel_rfl) (by kernel_rfl) (fun _ _ _ h => h) (Or.inr ⟨by rfl, rfl⟩) hS1 ?_
            try simp only [Act.put, List.setIfInBounds_toArray, List.set_cons_succ, List.set_cons_zero]
            refine wpAnyH_take (i := 8) (v := undef) (List.getElem?_toArray.trans rfl) (by kernel_rfl) (by kernel_rfl) (by kernel_rfl) (fun _ _ _ h => h) (Or.inr ⟨by rfl, rfl⟩) hS1 ?_
            try simp only [Act.put, List.setIfInBounds_toArray, List.set_cons_succ, List.set_cons_zero]
            refine wpAnyH_take (i := 9) (v := undef) (List.getElem?_toArray.trans rfl) (by kernel_rfl) (by kernel_rfl) (by kernel_rfl) (fun _ _ _ h => h) (Or.inr ⟨by rfl, rfl⟩) hS1 ?_
            try simp only [Act.put, List.setIfInBounds_toArray, List.set_cons_succ, List.set_cons_zero]
            refine wpAnyH_take (i := 10) (v := undef) (List.getElem?_toArray.trans rfl) (by kernel_rfl) (by kernel_rfl) (by kernel_rfl) (fun _ _ _ h => h) (Or.inr ⟨by rfl, rfl⟩) hS1 ?_
            try simp only [Act.put, List.setIfInBounds_toArray, List.set_cons_succ, List.set_cons_zero]
            refine wpAnyH_take (i := 11) (v := .bool true) (List.getElem?_toArray.trans rfl) (by kernel_rfl) (by kernel_rfl) (by kernel_rfl) (fun _ _ _ h => h) (Or.inl ⟨by rfl, fun w' hw => by go_simp⟩) hS1 ?_
            try simp only [Act.put, List.setIfInBounds_toArray, List.set_cons_succ, List.set_cons_zero]
            refine wpAnyH_take (i := 12) (v := .bool true) (List.getElem?_toArray.trans rfl) (by kernel_rfl) (by kernel_rfl) (by kernel_rfl) (fun _ _ _ h => h) (Or.inl ⟨by rfl, fun w' hw => by go_simp⟩) hS1 ?_
            try simp only [Act.put, List.setIfInBounds_toArray, List.set_cons_succ, List.set_cons_zero]
            refine wpAnyH_take (i := 13) (v := undef) (List.getElem?_toArray.trans rfl) (by kernel_rfl) (by kernel_rfl) (by kernel_rfl) (fun _ _ _ h => h) (Or.inr ⟨by rfl, rfl⟩) hS1 ?_
            try simp only [Act.put, List.setIfInBounds_toArray, List.set_cons_succ, List.set_cons_zero]
            refine wpAnyH_take (i := 14) (v := undef) (List.getElem?_toArray.trans rfl) (by kernel_rfl) (by kernel_rfl) (by kernel_rfl) (fun _ _ _ h => h) (Or.inr ⟨by rfl, rfl⟩) hS1 ?_
            try simp only [Act.put, List.setIfInBounds_toArray, List.set_cons_succ, List.set_cons_zero]
            refine wpAnyH_take (i := 15) (v := undef) (List.getElem?_toArray.trans rfl) (by kernel_rfl) (by kernel_rfl) (by kernel_rfl) (fun _ _ _ h => h) (Or.inr ⟨by rfl, rfl⟩) hS1 ?_
            try simp only [Act.put, List.setIfInBounds_toArray, List.set_cons_succ, List.set_cons_zero]
            refine wpAnyH_take (i := 16) (v := undef) (List.getElem?_toArray.trans rfl) (by kernel_rfl) (by kernel_rfl) (by kernel_rfl) (fun _ _ _ h => h) (Or.inr ⟨by rfl, rfl⟩) hS1 ?_
            try simp only [Act.put, List.setIfInBounds_toArray, List.set_cons_succ, List.set_cons_zero]
            refine wpAnyH_take (i := 17) (v := undef) (List.getElem?_toArray.trans rfl) (by kernel_rfl) (by kernel_rfl) (by kernel_rfl) (fun _ _ _ h => h) (Or.inr ⟨by rfl, rfl⟩) hS1 ?_
            try simp only [Act.put, List.setIfInBounds_toArray, List.set_cons_succ, List.set_cons_zero]
            refine wpAnyH_take (i := 18) (v := .bool true) (List.getElem?_toArray.trans rfl) (by kernel_rfl) (by kernel_rfl) (by kernel_rfl) (fun _ _ _ h => h) (Or.inl ⟨by rfl, fun w' hw => by go_simp⟩) hS1 ?_
            try simp only [Act.put, List.setIfInBounds_toArray, List.set_cons_succ, List.set_cons_zero]
            refine wpAnyH_done (by kernel_rfl) ?_ _
            all_goals
              go_wp2
              go_meet
              case rel => exact ⟨by rw [GEf.out]; rfl, hb1⟩
          | true =>
            cases G2 with
            | false =>
              have GEf : Hid (okP l k = false) := hide (by rw [GE.out]; rfl)
              clear GE HP1 CD CC GN GY
              have hu : undef = Value.tuple #[] := rfl
              refine wp_region_held_drew (S := fun w' => w'.cell? ⟨wr.heap.size, 0, none⟩ = some (.int .i64 x.time) ∧ w'.cell? ⟨wr.heap.size, 1, none⟩ = some (.int .i64 x.actor) ∧ w'.cell? ⟨wr.heap.size, 2, none⟩ = some (.int .i64 x.above) ∧ w'.cell? ⟨wr.heap.size, 3, none⟩ = some (.int .i64 x.maker) ∧ w'.cell? ⟨wr.heap.size, 4, none⟩ = some (.string x.byte) ∧ w'.cell? ⟨wr.heap.size, 5, none⟩ = some (.bool x.gone) ∧ w'.cell? ⟨w.heap.size, 0, none⟩ = some (.slice (some ⟨g, 0, none⟩) l.length cap) ∧ w'.cell? ⟨w.heap.size + 1, 0, none⟩ = some (.int .i64 T) ∧ w'.cell? ⟨w.heap.size + 1, 1, none⟩ = some (.int .i64 A)) (by kernel_rfl) (KS.out _ (Below.refl _ _).drew) (fun hS => ?_)
              refine wpAnyH_take (i := 0) (v := .agg #[.int .i64 x.time, .int .i64 x.actor, .int .i64 x.above, .int .i64 x.maker, .string x.byte, .bool x.gone]) (List.getElem?_toArray.trans rfl) (by kernel_rfl) (by kernel_rfl) (by kernel_rfl) (fun _ _ _ h => h) (Or.inl ⟨by rfl, fun w' hw => by obtain ⟨s0, s1, s2, s3, s4, s5, s6, s7, s8⟩ := hw; go_simp⟩) hS ?_
              try simp only [Act.put, List.setIfInBounds_toArray, List.set_cons_succ, List.set_cons_zero]
              refine wpAnyH_ready (rs := [1]) (by kernel_rfl) (by simp) ?_
              refine AllReadyH.cons rfl (fun K hK => ?_) AllReadyH.nil
              go_simp
              go_at_call 46
              refine (CI.out _ (Below.refl _ _).drew).mono ?_
              rintro e v1 ⟨rfl, hv1⟩; have hb1 : Below w1.heap.size w1 v1 := (Below.refl _ _).drew.trans hv1
              have hS1 := KS.out v1 hb1
              go_simp
              refine hK.out _ _ hS1 (fun _ => ?_)
              clear hK K
              refine wpAnyH_take (i := 2) (v := .bool false) (List.getElem?_toArray.trans rfl) (by kernel_rfl) (by kernel_rfl) (by kernel_rfl) (fun _ _ _ h => h) (Or.inl ⟨by rfl, fun w' hw => by go_simp⟩) hS1 ?_
              try simp only [Act.put, List.setIfInBounds_toArray, List.set_cons_succ, List.set_cons_zero]
              refine wpAnyH_take (i := 3) (v := .bool false) (List.getElem?_toArray.trans rfl) (by kernel_rfl) (by kernel_rfl) (by kernel_rfl) (fun _ _ _ h => h) (Or.inl ⟨by rfl, fun w' hw => by go_simp⟩) hS1 ?_
              try simp only [Act.put, List.setIfInBounds_toArray, List.set_cons_succ, List.set_cons_zero]
              refine wpAnyH_take (i := 4) (v := .agg #[.int .i64 x.time, .int .i64 x.actor, .int .i64 x.above, .int .i64 x.maker, .string x.byte, .bool x.gone]) (List.getElem?_toArray.trans rfl) (by kernel_rfl) (by kernel_rfl) (by kernel_rfl) (fun _ _ _ h => h) (Or.inl ⟨by rfl, fun w' hw => by obtain ⟨s0, s1, s2, s3, s4, s5, s6, s7, s8⟩ := hw; go_simp⟩) hS1 ?_
              try simp only [Act.put, List.setIfInBounds_toArray, List.set_cons_succ, List.set_cons_zero]
              refine wpAnyH_take (i := 5) (v := .pointer (some ⟨w.heap.size, 0, none⟩)) (List.getElem?_toArray.trans rfl) (by kernel_rfl) (by kernel_rfl) (by kernel_rfl) (fun _ _ _ h => h) (Or.inl ⟨by rfl, fun w' hw => by go_simp⟩) hS1 ?_
              try simp only [Act.put, List.setIfInBounds_toArray, List.set_cons_succ, List.set_cons_zero]
              refine wpAnyH_take (i := 6) (v := .slice (some ⟨g, 0, none⟩) l.length cap) (List.getElem?_toArray.trans rfl) (by kernel_rfl) (by kernel_rfl) (by kernel_rfl) (fun _ _ _ h => h) (Or.inl ⟨by rfl, fun w' hw => by obtain ⟨s0, s1, s2, s3, s4, s5, s6, s7, s8⟩ := hw; go_simp⟩) hS1 ?_
              try simp only [Act.put, List.setIfInBounds_toArray, List.set_cons_succ, List.set_cons_zero]
              refine wpAnyH_take (i := 7) (v := .int .i64 (k : Int)) (List.getElem?_toArray.trans rfl) (by kernel_rfl) (by kernel_rfl) (by kernel_rfl) (fun _ _ _ h => h) (Or.inl ⟨by rfl, fun w' hw => by go_simp⟩) hS1 ?_
              try simp only [Act.put, List.setIfInBounds_toArray, List.set_cons_succ, List.set_cons_zero]
              refine wpAnyH_take (i := 8) (v := .slice (some ⟨g, 0, none⟩) k cap) (List.getElem?_toArray.trans rfl) (by kernel_rfl) (by kernel_rfl) (by kernel_rfl) (fun _ _ _ h => h) (Or.inl ⟨by rfl, fun w' hw => by go_simp; intro h; exfalso; omega⟩) hS1 ?_
              try simp only [Act.put, List.setIfInBounds_toArray, List.set_cons_succ, List.set_cons_zero]
              refine wpAnyH_ready (rs := [9]) (by kernel_rfl) (by simp) ?_
              refine AllReadyH.cons rfl (fun K hK => ?_) AllReadyH.nil
              go_simp
              go_at_call 47
              refine (CS.out _ hb1).mono ?_
              rintro e v2 ⟨rfl, hv2⟩; have hb2 : Below w1.heap.size w1 v2 := hb1.trans (hv2.mono hb1.size)
              have hS2 := KS.out v2 hb2
              go_simp
              refine hK.out _ _ hS2 (fun _ => ?_)
              clear hK K
              refine wpAnyH_take (i := 10) (v := .bool true) (List.getElem?_toArray.trans rfl) (by kernel_rfl) (by kernel_rfl) (by kernel_rfl) (fun _ _ _ h => h) (Or.inl ⟨by rfl, fun w' hw => by go_simp⟩) hS2 ?_
              try simp only [Act.put, List.setIfInBounds_toArray, List.set_cons_succ, List.set_cons_zero]
              refine wpAnyH_take (i := 11) (v := .bool true) (List.getElem?_toArray.trans rfl) (by kernel_rfl) (by kernel_rfl) (by kernel_rfl) (fun _ _ _ h => h) (Or.inl ⟨by rfl, fun w' hw => by go_simp⟩) hS2 ?_
              try simp only [Act.put, List.setIfInBounds_toArray, List.set_cons_succ, List.set_cons_zero]
              refine wpAnyH_take (i := 12) (v := .bool true) (List.getElem?_toArray.trans rfl) (by kernel_rfl) (by kernel_rfl) (by kernel_rfl) (fun _ _ _ h => h) (Or.inl ⟨by rfl, fun w' hw => by go_simp⟩) hS2 ?_
              try simp only [Act.put, List.setIfInBounds_toArray, List.set_cons_succ, List.set_cons_zero]
              refine wpAnyH_take (i := 13) (v := undef) (List.getElem?_toArray.trans rfl) (by kernel_rfl) (by kernel_rfl) (by kernel_rfl) (fun _ _ _ h => h) (Or.inr ⟨by rfl, rfl⟩) hS2 ?_
              try simp only [Act.put, List.setIfInBounds_toArray, List.set_cons_succ, List.set_cons_zero]
              refine wpAnyH_take (i := 14) (v := undef) (List.getElem?_toArray.trans rfl) (by kernel_rfl) (by kernel_rfl) (by kernel_rfl) (fun _ _ _ h => h) (Or.inr ⟨by rfl, rfl⟩) hS2 ?_
              try simp only [Act.put, List.setIfInBounds_toArray, List.set_cons_succ, List.set_cons_zero]
              refine wpAnyH_take (i := 15) (v := undef) (List.getElem?_toArray.trans rfl) (by kernel_rfl) (by kernel_rfl) (by kernel_rfl) (fun _ _ _ h => h) (Or.inr ⟨by rfl, rfl⟩) hS2 ?_
              try simp only [Act.put, List.setIfInBounds_toArray, List.set_cons_succ, List.set_cons_zero]
              refine wpAnyH_take (i := 16) (v := undef) (List.getElem?_toArray.trans rfl) (by kernel_rfl) (by kernel_rfl) (by kernel_rfl) (fun _ _ _ h => h) (Or.inr ⟨by rfl, rfl⟩) hS2 ?_
              try simp only [Act.put, List.setIfInBounds_toArray, List.set_cons_succ, List.set_cons_zero]
              refine wpAnyH_take (i := 17) (v := undef) (List.getElem?_toArray.trans rfl) (by kernel_rfl) (by kernel_rfl) (by kernel_rfl) (fun _ _ _ h => h) (Or.inr ⟨by rfl, rfl⟩) hS2 ?_
              try simp only [Act.put, List.setIfInBounds_toArray, List.set_cons_succ, List.set_cons_zero]
              refine wpAnyH_take (i := 18) (v := .bool true) (List.getElem?_toArray.trans rfl) (by kernel_rfl) (by kernel_rfl) (by kernel_rfl) (fun _ _ _ h => h) (Or.inl ⟨by rfl, fun w' hw => by go_simp⟩) hS2 ?_
              try simp only [Act.put, List.setIfInBounds_toArray, List.set_cons_succ, List.set_cons_zero]
              refine wpAnyH_done (by kernel_rfl) ?_ _
              all_goals
                go_wp2
                go_meet
                case rel => exact ⟨by rw [GEf.out]; rfl, hb2⟩
            | true =>
              have GEf : Hid (decide (0 ≤ G3) = !okP l k) := hide (by rw [HP1.out rfl, GE.out]; rfl)
              clear GE HP1 GN GY
              refine wp_region_held_drew (S := fun w' => w'.cell? ⟨wr.heap.size, 0, none⟩ = some (.int .i64 x.time) ∧ w'.cell? ⟨wr.heap.size, 1, none⟩ = some (.int .i64 x.actor) ∧ w'.cell? ⟨wr.heap.size, 2, none⟩ = some (.int .i64 x.above) ∧ w'.cell? ⟨wr.heap.size, 3, none⟩ = some (.int .i64 x.maker) ∧ w'.cell? ⟨wr.heap.size, 4, none⟩ = some (.string x.byte) ∧ w'.cell? ⟨wr.heap.size, 5, none⟩ = some (.bool x.gone) ∧ w'.cell? ⟨w.heap.size, 0, none⟩ = some (.slice (some ⟨g, 0, none⟩) l.length cap) ∧ w'.cell? ⟨w.heap.size + 1, 0, none⟩ = some (.int .i64 T) ∧ w'.cell? ⟨w.heap.size + 1, 1, none⟩ = some (.int .i64 A)) (by kernel_rfl) (KS.out _ (Below.refl _ _).drew) (fun hS => ?_)
              refine wpAnyH_take (i := 0) (v := .agg #[.int .i64 x.time, .int .i64 x.actor, .int .i64 x.above, .int .i64 x.maker, .string x.byte, .bool x.gone]) (List.getElem?_toArray.trans rfl) (by kernel_rfl) (by kernel_rfl) (by kernel_rfl) (fun _ _ _ h => h) (Or.inl ⟨by rfl, fun w' hw => by obtain ⟨s0, s1, s2, s3, s4, s5, s6, s7, s8⟩ := hw; go_simp⟩) hS ?_
              try simp only [Act.put, List.setIfInBounds_toArray, List.set_cons_zero, List.set_cons_succ]
              refine wpAnyH_ready (rs := [1]) (by kernel_rfl) (by simp) ?_
              refine AllReadyH.cons rfl (fun K hK => ?_) AllReadyH.nil
              go_simp
              go_at_call 46
              refine (CI.out _ (Below.refl _ _).drew).mono ?_
              rintro e v1 ⟨rfl, hv1⟩; have hb1 : Below w1.heap.size w1 v1 := (Below.refl _ _).drew.trans hv1
              have hS1 := KS.out v1 hb1
              go_simp
              refine hK.out _ _ hS1 (fun _ => ?_)
              clear hK K
              refine wpAnyH_take (i := 2) (v := .bool false) (List.getElem?_toArray.trans rfl) (by kernel_rfl) (by kernel_rfl) (by kernel_rfl) (fun _ _ _ h => h) (Or.inl ⟨by rfl, fun w' hw => by go_simp⟩) hS1 ?_
              try simp only [Act.put, List.setIfInBounds_toArray, List.set_cons_zero, List.set_cons_succ]
              refine wpAnyH_take (i := 3) (v := .bool false) (List.getElem?_toArray.trans rfl) (by kernel_rfl) (by kernel_rfl) (by kernel_rfl) (fun _ _ _ h => h) (Or.inl ⟨by rfl, fun w' hw => by go_simp⟩) hS1 ?_
              try simp only [Act.put, List.setIfInBounds_toArray, List.set_cons_zero, List.set_cons_succ]
              refine wpAnyH_take (i := 4) (v := .agg #[.int .i64 x.time, .int .i64 x.actor, .int .i64 x.above, .int .i64 x.maker, .string x.byte, .bool x.gone]) (List.getElem?_toArray.trans rfl) (by kernel_rfl) (by kernel_rfl) (by kernel_rfl) (fun _ _ _ h => h) (Or.inl ⟨by rfl, fun w' hw => by obtain ⟨s0, s1, s2, s3, s4, s5, s6, s7, s8⟩ := hw; go_simp⟩) hS1 ?_
              try simp only [Act.put, List.setIfInBounds_toArray, List.set_cons_zero, List.set_cons_succ]
              refine wpAnyH_take (i := 5) (v := .pointer (some ⟨w.heap.size, 0, none⟩)) (List.getElem?_toArray.trans rfl) (by kernel_rfl) (by kernel_rfl) (by kernel_rfl) (fun _ _ _ h => h) (Or.inl ⟨by rfl, fun w' hw => by go_simp⟩) hS1 ?_
              try simp only [Act.put, List.setIfInBounds_toArray, List.set_cons_zero, List.set_cons_succ]
              refine wpAnyH_take (i := 6) (v := .slice (some ⟨g, 0, none⟩) l.length cap) (List.getElem?_toArray.trans rfl) (by kernel_rfl) (by kernel_rfl) (by kernel_rfl) (fun _ _ _ h => h) (Or.inl ⟨by rfl, fun w' hw => by obtain ⟨s0, s1, s2, s3, s4, s5, s6, s7, s8⟩ := hw; go_simp⟩) hS1 ?_
              try simp only [Act.put, List.setIfInBounds_toArray, List.set_cons_zero, List.set_cons_succ]
              refine wpAnyH_take (i := 7) (v := .int .i64 (k : Int)) (List.getElem?_toArray.trans rfl) (by kernel_rfl) (by kernel_rfl) (by kernel_rfl) (fun _ _ _ h => h) (Or.inl ⟨by rfl, fun w' hw => by go_simp⟩) hS1 ?_
              try simp only [Act.put, List.setIfInBounds_toArray, List.set_cons_zero, List.set_cons_succ]
              refine wpAnyH_take (i := 8) (v := .slice (some ⟨g, 0, none⟩) k cap) (List.getElem?_toArray.trans rfl) (by kernel_rfl) (by kernel_rfl) (by kernel_rfl) (fun _ _ _ h => h) (Or.inl ⟨by rfl, fun w' hw => by go_simp; intro h; exfalso; omega⟩) hS1 ?_
              try simp only [Act.put, List.setIfInBounds_toArray, List.set_cons_zero, List.set_cons_succ]
              refine wpAnyH_ready (rs := [9]) (by kernel_rfl) (by simp) ?_
              refine AllReadyH.cons rfl (fun K hK => ?_) AllReadyH.nil
              go_simp
              go_at_call 47
              refine (CS.out _ hb1).mono ?_
              rintro e v2 ⟨rfl, hv2⟩; have hb2 : Below w1.heap.size w1 v2 := hb1.trans (hv2.mono hb1.size)
              have hS2 := KS.out v2 hb2
              go_simp
              refine hK.out _ _ hS2 (fun _ => ?_)
              clear hK K
              refine wpAnyH_take (i := 10) (v := .bool false) (List.getElem?_toArray.trans rfl) (by kernel_rfl) (by kernel_rfl) (by kernel_rfl) (fun _ _ _ h => h) (Or.inl ⟨by rfl, fun w' hw => by go_simp⟩) hS2 ?_
              try simp only [Act.put, List.setIfInBounds_toArray, List.set_cons_zero, List.set_cons_succ]
              refine wpAnyH_take (i := 11) (v := .bool false) (List.getElem?_toArray.trans rfl) (by kernel_rfl) (by kernel_rfl) (by kernel_rfl) (fun _ _ _ h => h) (Or.inl ⟨by rfl, fun w' hw => by go_simp⟩) hS2 ?_
              try simp only [Act.put, List.setIfInBounds_toArray, List.set_cons_zero, List.set_cons_succ]
              refine wpAnyH_take (i := 12) (v := .bool false) (List.getElem?_toArray.trans rfl) (by kernel_rfl) (by kernel_rfl) (by kernel_rfl) (fun _ _ _ h => h) (Or.inl ⟨by rfl, fun w' hw => by go_simp⟩) hS2 ?_
              try simp only [Act.put, List.setIfInBounds_toArray, List.set_cons_zero, List.set_cons_succ]
              refine wpAnyH_take (i := 13) (v := .agg #[.int .i64 T, .int .i64 A]) (List.getElem?_toArray.trans rfl) (by kernel_rfl) (by kernel_rfl) (by kernel_rfl) (fun _ _ _ h => h) (Or.inl ⟨by rfl, fun w' hw => by obtain ⟨s0, s1, s2, s3, s4, s5, s6, s7, s8⟩ := hw; go_simp⟩) hS2 ?_
              try simp only [Act.put, List.setIfInBounds_toArray, List.set_cons_zero, List.set_cons_succ]
              refine wpAnyH_take (i := 14) (v := .agg #[.int .i64 x.time, .int .i64 x.actor, .int .i64 x.above, .int .i64 x.maker, .string x.byte, .bool x.gone]) (List.getElem?_toArray.trans rfl) (by kernel_rfl) (by kernel_rfl) (by kernel_rfl) (fun _ _ _ h => h) (Or.inl ⟨by rfl, fun w' hw => by obtain ⟨s0, s1, s2, s3, s4, s5, s6, s7, s8⟩ := hw; go_simp⟩) hS2 ?_
              try simp only [Act.put, List.setIfInBounds_toArray, List.set_cons_zero, List.set_cons_succ]
              refine wpAnyH_ready (rs := [15]) (by kernel_rfl) (by simp) ?_
              refine AllReadyH.cons rfl (fun K hK => ?_) AllReadyH.nil
              go_simp
              go_at_call 28
              refine (CD.out _).mono ?_
              rintro e v3 ⟨rfl, hv3⟩; have hb3 : Below w1.heap.size w1 v3 := hb2.trans (hv3.mono hb2.size)
              have hS3 := KS.out v3 hb3
              go_simp
              refine hK.out _ _ hS3 (fun _ => ?_)
              clear hK K
              refine wpAnyH_ready (rs := [16]) (by kernel_rfl) (by simp) ?_
              refine AllReadyH.cons rfl (fun K hK => ?_) AllReadyH.nil
              go_simp
              go_at_call 32
              refine (CC.out _).mono ?_
              rintro e v4 ⟨rfl, hv4⟩; have hb4 : Below w1.heap.size w1 v4 := hb3.trans (hv4.mono hb3.size)
              have hS4 := KS.out v4 hb4
              go_simp
              refine hK.out _ _ hS4 (fun _ => ?_)
              clear hK K
              refine wpAnyH_take (i := 17) (v := .bool (decide (0 ≤ G3))) (List.getElem?_toArray.trans rfl) (by kernel_rfl) (by kernel_rfl) (by kernel_rfl) (fun _ _ _ h => h) (Or.inl ⟨by rfl, fun w' hw => by go_simp⟩) hS4 ?_
              try simp only [Act.put, List.setIfInBounds_toArray, List.set_cons_zero, List.set_cons_succ]
              refine wpAnyH_take (i := 18) (v := .bool (decide (0 ≤ G3))) (List.getElem?_toArray.trans rfl) (by kernel_rfl) (by kernel_rfl) (by kernel_rfl) (fun _ _ _ h => h) (Or.inl ⟨by rfl, fun w' hw => by go_simp⟩) hS4 ?_
              try simp only [Act.put, List.setIfInBounds_toArray, List.set_cons_zero, List.set_cons_succ]
              refine wpAnyH_done (by kernel_rfl) ?_ _
              all_goals
                go_wp2
                go_meet
                case rel => exact ⟨by rw [← GEf.out], hb4⟩
        case rest =>
          obtain ⟨rfl, hbc⟩ := hcut
          have HBC := hide (HBQ.out.1.trans (hbc.mono HBQ.out.1.size))
          have HCc := hide (HC1.out.later hbc)
          have HIc := hide (HI1.out.later hbc)
          clear m0 m1 m2 m3 m4 m5 m6 m7 m8
          obtain ⟨m0, m1, m2, m3, m4, m5⟩ := (BX.out.later hbc).cells
          have BXc := hide (BX.out.later hbc)
          clear hbc
          obtain ⟨B, hB⟩ : ∃ B, B = okP l k := ⟨_, rfl⟩
          rw [← hB] at GN GY ⊢
          clear hB
          cases B with
          | false =>
            go_wp2
            go_ret
            exact ⟨ret_bool (by rw [HR.out]; exact (GN.out (by trivial)).symm), HBC.out⟩
          | true =>
            have HY : Hid (goodP l (k + 1) = true) := hide (GY.out (by trivial))
            clear GN GY
            go_wp2_with fail
            refine (CD.out _).mono ?_
            rintro e w3 ⟨rfl, hb3⟩
            have HB3 := hide (HBC.out.trans (hb3.mono HBC.out.size))
            have HC3 := hide (HCc.out.later hb3)
            have HI3 := hide (HIc.out.later hb3)
            clear hb3
            have f0 := frozen_of_row HI3.out 0
            have f1 := frozen_of_row HI3.out 1
            have j0 := HI3.out.cells.1
            have j1 := HI3.out.cells.2
            go_wp2
            refine ⟨⟨k + 1, by omega, by go_num, HY, (HB3.out.setCell (by show w.heap.size ≤ w.heap.size + 1; omega) _).setCell (by show w.heap.size ≤ w.heap.size + 1; omega) _, hide ?_, x.time, x.actor, hide ?_, hide (fun y hy => ?_)⟩, by simp [intOf]; omega⟩
            · exact (HC3.out.other1 (by omega) _ _).other1 (by omega) _ _
            · exact HI3.out.put x.time x.actor
            · rw [cmp2_ge x y, pv_succ hlt, ← HX.out]
      · obtain rfl : k = l.length := by omega
        have k1 := HCr.out.cell
        have HB := hide hbel
        clear hbel
        go_wp2
        go_ret
        refine ⟨ret_bool ?_, HB.out⟩
        rw [HR.out]
        unfold goodQ
        rw [← good_same, hgp.out, Bool.and_true, decide_eq_true hbig]
  · have z1 : decide ((l.length : Int) > 80) = true := by rw [decide_eq_true_eq]; omega
    have HE : Hid (R = false) := hide (by rw [HR.out]; unfold goodQ; rw [decide_eq_false hbig]; rfl)
    clear h hc0 hb0 hT hbig
    go_enter Tryd.func25, Tryd.ntmps25
    go_wp2
    go_ret
    exact ⟨ret_bool (by rw [HE.out]), HB00.out⟩
end Go.Proofs.YtnhooalibadeeabDoor
