/- The model's l17Order and OrderOf. -/
import Derived.Test.YtnhooalibadeeaaDoorSqO2
import Derived.Test.YtnhooalibadeeaaDoorSqS2
set_option linter.unusedVariables false
namespace Go.Proofs.YtnhooalibadeeaaDoor
open Go.RowKit
open Doc1

theorem World.ownsRow.drew' {w : World} {B n sz : Nat} {e : TypeId} {v : Value} {xs : List Value} (h : w.ownsRow B e sz v n xs) : w.drew.ownsRow B e sz v n xs := h

set_option maxRecDepth 100000 in
set_option maxHeartbeats 4000000 in
theorem order_any {a : Option Addr} {cap B : Nat} {l : List Am} (hgd : goodQ l = true) : ∀ (f q : Nat) (w : World) (v : Value) (xs : List Int), l.length + 1 ≤ f + q → q ≤ l.length →
    (∀ w', Below B w w' → ∀ k (hk : k < l.length), ∃ g, a = some ⟨g, 0, none⟩ ∧ w'.cell? ⟨g, k * 6, none⟩ = some (.int .i64 l[k].time) ∧ w'.cell? ⟨g, k * 6 + 1, none⟩ = some (.int .i64 l[k].actor) ∧ w'.cell? ⟨g, k * 6 + 2, none⟩ = some (.int .i64 l[k].above) ∧ w'.cell? ⟨g, k * 6 + 3, none⟩ = some (.int .i64 l[k].maker)) →
    B ≤ w.heap.size → IOwn w B v xs → xs.length + (dfs (pr l) l.length f q).length ≤ 100000 →
    Calls Tryd.prog 71 #[.slice a l.length cap, .int .i64 (idT l q), .int .i64 (idA l q), v] w fun e w' => ∃ v', e = .returned v' ∧ IOwn w' B v' (xs ++ oI (dfs (pr l) l.length f q)) ∧ Below B w w'
  | 0, q, w, v, xs, h1, h2, _, _, _, _ => by exfalso; omega
  | f + 1, q, w, v, xs, h1, h2, hc, hBw, hv, hlen => by
    have hln := good_len hgd
    have IH : Hid (∀ (q : Nat) (w : World) (v : Value) (xs : List Int), l.length + 1 ≤ f + q → q ≤ l.length →
        (∀ w', Below B w w' → ∀ k (hk : k < l.length), ∃ g, a = some ⟨g, 0, none⟩ ∧ w'.cell? ⟨g, k * 6, none⟩ = some (.int .i64 l[k].time) ∧ w'.cell? ⟨g, k * 6 + 1, none⟩ = some (.int .i64 l[k].actor) ∧ w'.cell? ⟨g, k * 6 + 2, none⟩ = some (.int .i64 l[k].above) ∧ w'.cell? ⟨g, k * 6 + 3, none⟩ = some (.int .i64 l[k].maker)) →
        B ≤ w.heap.size → IOwn w B v xs → xs.length + (dfs (pr l) l.length f q).length ≤ 100000 →
        Calls Tryd.prog 71 #[.slice a l.length cap, .int .i64 (idT l q), .int .i64 (idA l q), v] w fun e w' => ∃ v', e = .returned v' ∧ IOwn w' B v' (xs ++ oI (dfs (pr l) l.length f q)) ∧ Below B w w') := hide (fun q w v xs => order_any hgd f q w v xs)
    have hinfo : (Tryd.prog.info? 3).map (fun i => (i.zero, i.size, i.bytes)) = some (some (.int .i64 0), 1, 8) := by kernel_rfl
    obtain ⟨i0, hi0, hz0, hz1, hz2⟩ := info_parts hinfo
    have KC := hide hc
    have HG := hide hgd
    have H1 := hide h1
    have H2 := hide h2
    have HLEN := hide hlen
    have HV0 := hide hv
    obtain ⟨T, hT⟩ : ∃ T, T = idT l q := ⟨_, rfl⟩
    obtain ⟨A, hA⟩ : ∃ A, A = idA l q := ⟨_, rfl⟩
    have KF : Hid (∀ j (hj : j < l.length), (l[j].above = T ∧ l[j].maker = A) ↔ pr l j = q) := hide (fun j hj => by rw [hT, hA]; exact kid_iff hgd hj h2)
    rw [← hT, ← hA]
    clear hc h1 h2 hlen hv hT hA hinfo hgd
    go_enter Tryd.func71, Tryd.ntmps71
    go_wp2
    go_loopw [3, 9] (fun v i wr => ∃ k : Nat, k ≤ l.length ∧ i = .int .i64 ((k : Int) - 1) ∧ ∃ v0, v0 = v ∧ Hid (IOwn wr B v0 (xs ++ oI (dnK (pr l) l.length f q k))) ∧ Below B w wr) (fun _ i _ => (intOf i + 1).toNat)
    case atStart => exact ⟨l.length, Nat.le_refl _, rfl, _, rfl, hide (by rw [dnK_end]; show IOwn _ _ _ (xs ++ []); rw [List.append_nil]; exact HV0.out), Below.refl _ _⟩
    case round =>
      obtain ⟨k, hk, hi, v2, hv2, HV, hbel⟩ := hrel
      subst hv2
      cases k with
      | zero =>
        have hi' := hi
        rw [show (((0 : Nat) : Int) - 1) = -1 by rfl] at hi'
        subst hi'
        have HB := hide hbel
        clear hbel hi
        go_wp2
        go_ret
        exact ⟨v2, rfl, by rw [← dnK_all]; exact HV.out, HB.out⟩
      | succ j =>
        have hi' := hi
        rw [show (((j + 1 : Nat) : Int) - 1) = (j : Int) by omega] at hi'
        subst hi'
        clear hi
        have hjl : j < l.length := by omega
        obtain ⟨g, rfl, b0, b1, b2, b3⟩ := KC.out _ hbel j hjl
        have hkf := KF.out j hjl
        have DS := hide (dnK_step (p := pr l) (n := l.length) (f := f) (q := q) hjl)
        have DL := hide (dnK_len (p := pr l) (n := l.length) (f := f) (q := q) j (by omega))
        obtain ⟨x, hx⟩ : ∃ x, x = l[j] := ⟨_, rfl⟩
        have HX := hide hx
        rw [← hx] at b0 b1 b2 b3 hkf
        clear hx
        have qj1 : (0 : Int) ≤ (j : Int) := by omega
        have qj2 : (j : Int) < (l.length : Int) := by omega
        have qj3 : decide ((0 : Int) ≤ (j : Int)) = true := decide_eq_true qj1
        by_cases hc : pr l j = q
        · have hab := hkf.2 hc
          have e1 : (x.above == T) = true := by rw [hab.1]; simp
          have e2 : (x.maker == A) = true := by rw [hab.2]; simp
          have DS2 : Hid (dnK (pr l) l.length f q j = dnK (pr l) l.length f q (j + 1) ++ j :: dfs (pr l) l.length f (j + 1)) := hide (by rw [DS.out, if_pos hc])
          have HQJ : Hid (q ≤ j) := hide (by have := pr_le HG.out hjl; omega)
          have HB := hide hbel
          have hbs := hbel.size
          have hle2 : (dnK (pr l) l.length f q (j + 1)).length + 1 + (dfs (pr l) l.length f (j + 1)).length + xs.length ≤ 100000 := by
            have h3 := DL.out
            rw [DS2.out] at h3
            simp at h3
            have := HLEN.out
            omega
          have hxl : (xs ++ oI (dnK (pr l) l.length f q (j + 1))).length ≤ 100000 := by rw [List.length_append, oI_len]; omega
          obtain ⟨ys, hys⟩ : ∃ ys, ys = xs ++ oI (dnK (pr l) l.length f q (j + 1)) := ⟨_, rfl⟩
          rw [← hys] at HV hxl
          have HY := hide hys
          have KS : Hid (∀ w', Below B w w' → w'.cell? ⟨g, j * 6, none⟩ = some (.int .i64 x.time) ∧ w'.cell? ⟨g, j * 6 + 1, none⟩ = some (.int .i64 x.actor)) := hide (fun w' hb => by
            obtain ⟨g2, e, p0, p1, -, -⟩ := KC.out w' hb j hjl
            cases e
            rw [← HX.out] at p0 p1
            exact ⟨p0, p1⟩)
          have HLE := hide hle2
          clear hab hc hbel hkf DS DL hys hle2
          go_wp2_with (at_builtin; go_loud (refine wpList_append_loc _ rfl _ _ 43 rfl B 3 i0 (.int .i64 0) 1 8 Tryd.underlying43 hi0 hz0 hz1 hz2 rfl (by decide) v2 ys.length (ints ys) rfl (World.ownsRow.alloc HV.out _) ⟨wr.heap.size, 0, none⟩ 1 1 [.int .i64 (j : Int)] rfl rfl (World.news_of_block (cs := #[.int .i64 (j : Int)]) (t := 3) (fr := (0, 0)) (heap_alloc_new wr _)) (by simp [Value.oneCell']) (by unfold maxLen; omega) (by omega) (by simp; omega) ?_; intro v5 w5 own5 grow5 _; have HV5 : Hid (IOwn w5 B v5 (ys ++ [(j : Int)])) := hide (by have e : ints (ys ++ [(j : Int)]) = ints ys ++ [.int .i64 (j : Int)] := (by simp [ints]); unfold IOwn; rw [e, List.length_append]; exact own5); have HB5 : Hid (Below B w w5) := hide (below_append HB.out HV.out (by omega) grow5); have hBw5 : B ≤ w5.drew.heap.size := (by have h3 := HB5.out.size; show B ≤ w5.heap.size; omega); clear own5 grow5))
          have HIT := id_succ hjl
          have hit : idT l (j + 1) = x.time := by rw [HIT.1, HX.out]
          have hia : idA l (j + 1) = x.actor := by rw [HIT.2, HX.out]
          have HLN : Hid ((ys ++ [(j : Int)]).length + (dfs (pr l) l.length f (j + 1)).length ≤ 100000) := hide (by rw [List.length_append, HY.out, List.length_append, oI_len]; have := HLE.out; simp; omega)
          have HQ : Hid (l.length + 1 ≤ f + (j + 1)) := hide (by have h3 := H1.out; have h4 := HQJ.out; omega)
          have CALL := hide (IH.out (j + 1) w5.drew v5 (ys ++ [(j : Int)]) HQ.out (by omega) (fun w' hb => KC.out w' (HB5.out.drew.trans hb)) hBw5 (World.ownsRow.drew' HV5.out) HLN.out)
          rw [hit, hia] at CALL
          clear hit hia HIT hxl
          refine wp_region_held_drew (S := fun w' => w'.cell? ⟨g, j * 6, none⟩ = some (.int .i64 x.time) ∧ w'.cell? ⟨g, j * 6 + 1, none⟩ = some (.int .i64 x.actor)) (by kernel_rfl) (KS.out _ HB5.out.drew) (fun hS => ?_)
          refine wpAnyH_take (i := 0) (v := .slice (some ⟨g, 0, none⟩) l.length cap) (List.getElem?_toArray.trans rfl) (by kernel_rfl) (by kernel_rfl) (by kernel_rfl) (fun _ _ _ h => h) (Or.inl ⟨by rfl, fun w' hw => by go_simp⟩) hS ?_
          try simp only [Act.put, List.setIfInBounds_toArray, List.set_cons_zero, List.set_cons_succ]
          refine wpAnyH_take (i := 1) (v := .slice (some ⟨g, 0, none⟩) l.length cap) (List.getElem?_toArray.trans rfl) (by kernel_rfl) (by kernel_rfl) (by kernel_rfl) (fun _ _ _ h => h) (Or.inl ⟨by rfl, fun w' hw => by go_simp⟩) hS ?_
          try simp only [Act.put, List.setIfInBounds_toArray, List.set_cons_zero, List.set_cons_succ]
          refine wpAnyH_take (i := 2) (v := .int .i64 (j : Int)) (List.getElem?_toArray.trans rfl) (by kernel_rfl) (by kernel_rfl) (by kernel_rfl) (fun _ _ _ h => h) (Or.inl ⟨by rfl, fun w' hw => by go_simp⟩) hS ?_
          try simp only [Act.put, List.setIfInBounds_toArray, List.set_cons_zero, List.set_cons_succ]
          refine wpAnyH_take (i := 3) (v := .pointer (some ⟨g, j * 6, none⟩)) (List.getElem?_toArray.trans rfl) (by kernel_rfl) (by kernel_rfl) (by kernel_rfl) (fun _ _ _ h => h) (Or.inl ⟨by rfl, fun w' hw => by go_simp⟩) hS ?_
          try simp only [Act.put, List.setIfInBounds_toArray, List.set_cons_zero, List.set_cons_succ]
          refine wpAnyH_take (i := 4) (v := .pointer (some ⟨g, j * 6, none⟩)) (List.getElem?_toArray.trans rfl) (by kernel_rfl) (by kernel_rfl) (by kernel_rfl) (fun _ _ _ h => h) (Or.inl ⟨by rfl, fun w' hw => by go_simp⟩) hS ?_
          try simp only [Act.put, List.setIfInBounds_toArray, List.set_cons_zero, List.set_cons_succ]
          refine wpAnyH_take (i := 5) (v := .int .i64 x.time) (List.getElem?_toArray.trans rfl) (by kernel_rfl) (by kernel_rfl) (by kernel_rfl) (fun _ _ _ h => h) (Or.inl ⟨by rfl, fun w' hw => by obtain ⟨s0, s1⟩ := hw; go_simp⟩) hS ?_
          try simp only [Act.put, List.setIfInBounds_toArray, List.set_cons_zero, List.set_cons_succ]
          refine wpAnyH_take (i := 6) (v := .slice (some ⟨g, 0, none⟩) l.length cap) (List.getElem?_toArray.trans rfl) (by kernel_rfl) (by kernel_rfl) (by kernel_rfl) (fun _ _ _ h => h) (Or.inl ⟨by rfl, fun w' hw => by go_simp⟩) hS ?_
          try simp only [Act.put, List.setIfInBounds_toArray, List.set_cons_zero, List.set_cons_succ]
          refine wpAnyH_take (i := 7) (v := .int .i64 (j : Int)) (List.getElem?_toArray.trans rfl) (by kernel_rfl) (by kernel_rfl) (by kernel_rfl) (fun _ _ _ h => h) (Or.inl ⟨by rfl, fun w' hw => by go_simp⟩) hS ?_
          try simp only [Act.put, List.setIfInBounds_toArray, List.set_cons_zero, List.set_cons_succ]
          refine wpAnyH_take (i := 8) (v := .pointer (some ⟨g, j * 6, none⟩)) (List.getElem?_toArray.trans rfl) (by kernel_rfl) (by kernel_rfl) (by kernel_rfl) (fun _ _ _ h => h) (Or.inl ⟨by rfl, fun w' hw => by go_simp⟩) hS ?_
          try simp only [Act.put, List.setIfInBounds_toArray, List.set_cons_zero, List.set_cons_succ]
          refine wpAnyH_take (i := 9) (v := .pointer (some ⟨g, j * 6 + 1, none⟩)) (List.getElem?_toArray.trans rfl) (by kernel_rfl) (by kernel_rfl) (by kernel_rfl) (fun _ _ _ h => h) (Or.inl ⟨by rfl, fun w' hw => by go_simp⟩) hS ?_
          try simp only [Act.put, List.setIfInBounds_toArray, List.set_cons_zero, List.set_cons_succ]
          refine wpAnyH_take (i := 10) (v := .int .i64 x.actor) (List.getElem?_toArray.trans rfl) (by kernel_rfl) (by kernel_rfl) (by kernel_rfl) (fun _ _ _ h => h) (Or.inl ⟨by rfl, fun w' hw => by obtain ⟨s0, s1⟩ := hw; go_simp⟩) hS ?_
          try simp only [Act.put, List.setIfInBounds_toArray, List.set_cons_zero, List.set_cons_succ]
          refine wpAnyH_take (i := 11) (v := v5) (List.getElem?_toArray.trans rfl) (by kernel_rfl) (by kernel_rfl) (by kernel_rfl) (fun _ _ _ h => h) (Or.inl ⟨by rfl, fun w' hw => by go_simp⟩) hS ?_
          try simp only [Act.put, List.setIfInBounds_toArray, List.set_cons_zero, List.set_cons_succ]
          refine wpAnyH_ready (rs := [12]) (by kernel_rfl) (by simp) ?_
          refine AllReadyH.cons rfl (fun K hK => ?_) AllReadyH.nil
          go_simp
          go_at_call 71
          refine CALL.out.mono ?_
          rintro e w6 ⟨v6, rfl, hv6, hb6⟩
          have hS1 := KS.out w6 (HB5.out.drew.trans hb6)
          go_simp
          refine hK.out _ _ hS1 (fun _ => ?_)
          clear hK K
          refine wpAnyH_take (i := 13) (v := v6) (List.getElem?_toArray.trans rfl) (by kernel_rfl) (by kernel_rfl) (by kernel_rfl) (fun _ _ _ h => h) (Or.inl ⟨by rfl, fun w' hw => by go_simp⟩) hS1 ?_
          try simp only [Act.put, List.setIfInBounds_toArray, List.set_cons_zero, List.set_cons_succ]
          refine wpAnyH_done (by kernel_rfl) ?_ _
          have HV6 : Hid (IOwn w6 B v6 (xs ++ oI (dnK (pr l) l.length f q j))) := hide (by
            rw [DS2.out]
            have e : xs ++ oI (dnK (pr l) l.length f q (j + 1) ++ j :: dfs (pr l) l.length f (j + 1)) = ys ++ [(j : Int)] ++ oI (dfs (pr l) l.length f (j + 1)) := by rw [HY.out]; simp [oI]
            rw [e]
            exact hv6)
          have HB6 : Hid (Below B w w6) := hide (HB5.out.drew.trans hb6)
          clear hv6 hb6
          go_wp2
          exact ⟨⟨j, by omega, by go_num, v6, rfl, HV6, HB6.out⟩, by simp [intOf]⟩
        · have e12 : Hid ((x.above == T) = false ∨ ((x.above == T) = true ∧ (x.maker == A) = false)) := hide (by
            by_cases c : x.above = T
            · exact .inr ⟨by rw [c]; simp, by rw [beq_eq_false_iff_ne]; exact fun d => hc (hkf.1 ⟨c, d⟩)⟩
            · exact .inl (by rw [beq_eq_false_iff_ne]; exact c))
          have HV2 : Hid (IOwn wr B v2 (xs ++ oI (dnK (pr l) l.length f q j))) := hide (by rw [DS.out, if_neg hc, List.append_nil]; exact HV.out)
          have HB := hide hbel
          clear hbel hkf hc HV DS DL
          rcases e12.out with e1 | ⟨e1, e2⟩
          · go_wp2
            exact ⟨⟨j, by omega, by go_num, v2, rfl, HV2, HB.out⟩, by simp [intOf]⟩
          · go_wp2
            exact ⟨⟨j, by omega, by go_num, v2, rfl, HV2, HB.out⟩, by simp [intOf]⟩
end Go.Proofs.YtnhooalibadeeaaDoor
