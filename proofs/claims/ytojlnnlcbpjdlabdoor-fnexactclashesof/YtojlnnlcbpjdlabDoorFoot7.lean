/- The contract of the model's l4Within. -/
import Derived.Test.YtojlnnlcbpjdlabDoorFoot6
import Derived.BigQuiet
import Derived.Deep.QuietTactic
set_option linter.unusedVariables false
namespace Go.Proofs.YtojlnnlcbpjdlabDoor
open Go.RowKit Go.Shelf
open Doc1

theorem rn_by : ∀ (l : List Pt) (n : Nat), (rnR n l).length = (byL l).length
  | [], _ => rfl
  | p :: l, n => by
    rw [rnR, byL_cons, List.length_append, List.length_append, rn_by l]
    have : (rnP n p).length = p.keep.toNat + p.drop.size := by simp [rnP]
    rw [this, List.length_append, List.length_replicate, sz_list]
theorem rn_size {l : List Pt} (hg : goodO l = true) : (rnL (normL l)).1.length = (byL l).length := by
  obtain ⟨ng, nt, -⟩ := norm_goodO hg
  have h1 := byL_len (normL l) (goodO_pk ng)
  have h2 := byL_len l (goodO_pk hg)
  rw [rnL_R, rn_by]
  omega
theorem wm_le (P : Nat → Bool) (l : List Pt) (h : ∀ p ∈ l, pk p ≠ 0) : (wmL P l).1 ≤ l.length ∧ (wmL P l).2 ≤ 300 * l.length := by
  rw [wm_count P l h]
  have := ft_len l h
  exact ⟨Nat.le_trans List.countP_le_length this.2, this.1⟩

set_option maxRecDepth 100000 in
set_option maxHeartbeats 4000000 in
theorem l4Within_any {w : World} {aa ab : Option Addr} {ga ca gb cb : Nat} {la lb : List Pt} (ha : Pin w aa ga ca la) (hb : Pin w ab gb cb lb) (g1 : goodO la = true) (g2 : goodO lb = true) :
    Calls Tryd.prog 12 #[.slice aa la.length ca, .slice ab lb.length cb] w fun e w' => e = .returned (.int .i64 ((wmL (amid (rnL (normL lb)).1) (normL la)).1 : Int)) ∧ Below w.heap.size w w' := by
  obtain ⟨ng, -, -⟩ := norm_goodO g1
  have NPK := hide (goodO_pk ng)
  have n60 := (goodO_le ng).1
  have B := hide (l4Bytes_any hb (goodO_le g2).1 (goodO_pk g2))
  have Rn := hide (fun w' (h : Below w.heap.size w w') => l4Runs_any (hb.later h) g2)
  have NM := hide (fun w' (h : Below w.heap.size w w') => l3Normal_any (ha.later h) (goodO_le g1).1 (goodO_pk g1))
  have hsz := rn_size g2
  have hbd := (all_bd lb (goodO_pk g2)).1
  rw [← byL_len lb (goodO_pk g2)] at hbd
  have hl6 := (goodO_le g2).1
  have hN : (byL lb).length ≤ 18000 := by omega
  clear ha hb g1 g2 ng hbd hl6
  generalize normL la = q at *
  generalize (rnL (normL lb)).1 = r at *
  generalize byL lb = by_ at *
  go_enter Tryd.func12, Tryd.ntmps12
  go_wp2_with fail
  refine B.out.mono ?_
  rintro e w1 ⟨v1, rfl, o1, hb1⟩
  obtain ⟨a1, c1, rfl, -, -⟩ := own_shp o1
  go_wp2_with fail
  refine (Rn.out w1 hb1).mono ?_
  rintro e w2 ⟨v2, rfl, o2, hb'⟩
  have hb2 := hb1.trans (hb'.mono hb1.size)
  have HR := hide o2
  obtain ⟨a2, c2, rfl, -, -⟩ := own_shp o2
  clear o2 o1 hb'
  go_wp2_with fail
  refine (NM.out w2 hb2).mono ?_
  rintro e w3 ⟨v3, rfl, own, hb'⟩
  have hb3 := hb2.trans (hb'.mono hb2.size)
  have HR3 := hide (own_below HR.out hb')
  have HO := hide own
  unfold POwn at own
  obtain ⟨a0, cap0, rfl, hc1, hc2⟩ := own_shp own
  clear own hb' HR B Rn NM
  go_wp2
  go_loopw [7, 8, 18] (fun n t x wr => ∃ k : Nat, k ≤ q.length ∧ x = .int .i64 k ∧ n = .int .i64 ((wmL (amid r) (q.take k)).1 : Int) ∧ t = .int .i64 ((wmL (amid r) (q.take k)).2 : Int) ∧ Below w3.heap.size w3 wr) (fun _ _ x _ => q.length - (intOf x).toNat)
  case atStart => exact ⟨0, by omega, rfl, rfl, rfl, Below.refl _ _⟩
  case round =>
    obtain ⟨k, hk, rfl, rfl, rfl, hbw⟩ := hrel
    by_cases hlt : k < q.length
    · obtain ⟨gq', cq, ev, -, -, -, hgl, hcl, -⟩ := own_cat HO.out (by omega)
      cases ev
      obtain ⟨z0, z1, z2⟩ := (hcl.later hbw hgl).ptat k hlt
      have hpk := NPK.out q[k] (List.getElem_mem hlt)
      have hl := wm_le (amid r) (q.take k) (fun p hp => NPK.out p (List.mem_of_mem_take hp))
      have hl1 : (q.take k).length ≤ 60 := by rw [List.length_take]; omega
      have hS : Hid (wmL (amid r) (q.take (k + 1)) = wmS (amid r) (wmL (amid r) (q.take k)) q[k]) := hide (by rw [List.take_succ_eq_append_getElem hlt, wmL_snoc])
      obtain ⟨m, hm3, hm⟩ := pk_nat hpk
      have hszp := pk_szs' hpk
      obtain ⟨n, t, hR⟩ : ∃ n t, wmL (amid r) (q.take k) = (n, t) := ⟨_, _, rfl⟩
      rw [hR] at hl hS ⊢
      simp only at hl ⊢
      have hn6 : n ≤ 60 := by omega
      have ht : t ≤ 18000 := by omega
      clear hl hcl hpk hR hl1
      generalize q[k] = p at *
      rw [hm] at z0
      have hz := hbw.alloc hbw.size (.cells #[.int .i64 (m : Int), .string p.put, .string p.drop] 39)
      have HZ := hide hz
      clear hz
      unfold wmS at hS
      rw [hm, Int.toNat_natCast] at hS
      simp only at hS
      by_cases hp : p.put.size = 0
      · have hbe := ba_eq hp
        have hS2 : Hid (wmL (amid r) (q.take (k + 1)) = (n, t + (m + p.drop.size))) := hide (by rw [hS.out]; simp [hp])
        clear hS hp hm
        go_wp2_with fail
        go_quiet (fail)
        go_wp2
        refine ⟨⟨k + 1, by omega, by go_num, by rw [hS2.out], by rw [hS2.out]; simp, HZ.out.trans ⟨rfl, rfl, rfl, Nat.le_refl _, fun _ _ => rfl⟩⟩, by simp [intOf]; omega⟩
      · have hbe := ba_ne hp
        have hS1 : Hid (wmL (amid r) (q.take (k + 1)) = (if amid r t = true then n + 1 else n, t + (m + p.drop.size))) := hide (by rw [hS.out]; simp [hp])
        clear hS hp hm
        by_cases h0 : 0 < t
        · have hi0 : (0 : Int) < (t : Int) := by omega
          by_cases h1 : t < by_.length
          · have hi1 : (t : Int) < (by_.length : Int) := by omega
            have hi2 : (t : Int) < (r.length : Int) := by omega
            have hi3 : ((t - 1 : Nat) : Int) < (r.length : Int) := by omega
            have hwp : IntKind.i64.wrap ((t : Int) - 1) = ((t - 1 : Nat) : Int) := by rw [IntKind.wrap_i64]; omega
            obtain ⟨g2, cp2, ev, -, -, -, -, hc2, -⟩ := own_cat (own_below HR3.out HZ.out) (by omega)
            cases ev
            have e1 := hc2 (t - 1) _ (nmS_at r (by omega))
            have e2 := hc2 t _ (nmS_at r (by omega))
            have hA : amid r t = (decide (0 < r[t - 1]) && decide (r[t - 1] = r[t])) := by
              unfold amid
              rw [decide_eq_true h0, decide_eq_true (show t < r.length by omega), Bool.true_and, Bool.true_and, List.getD_eq_getElem?_getD, List.getD_eq_getElem?_getD, List.getElem?_eq_getElem (show t - 1 < r.length by omega), List.getElem?_eq_getElem (show t < r.length by omega)]
              rfl
            rw [hA] at hS1
            generalize r[t - 1] = x at *
            generalize r[t] = y at *
            clear hc2 hA
            by_cases hx : 0 < x
            · have hx0 : (0 : Int) < (x : Int) := by omega
              by_cases hxy : x = y
              · subst hxy
                have hS2 : Hid (wmL (amid r) (q.take (k + 1)) = (n + 1, t + (m + p.drop.size))) := hide (by rw [hS1.out]; simp [hx])
                clear hS1
                go_wp2_with fail
                go_quiet (fail)
                go_wp2
                refine ⟨⟨k + 1, by omega, by go_num, by rw [hS2.out]; simp, by rw [hS2.out]; simp, HZ.out.trans ⟨rfl, rfl, rfl, Nat.le_refl _, fun _ _ => rfl⟩⟩, by simp [intOf]; omega⟩
              · have hxy0 : ((x : Int) == (y : Int)) = false := by rw [beq_eq_false_iff_ne]; omega
                have hS2 : Hid (wmL (amid r) (q.take (k + 1)) = (n, t + (m + p.drop.size))) := hide (by rw [hS1.out]; simp [hxy])
                clear hS1
                go_wp2_with fail
                go_quiet (fail)
                go_wp2
                refine ⟨⟨k + 1, by omega, by go_num, by rw [hS2.out], by rw [hS2.out]; simp, HZ.out.trans ⟨rfl, rfl, rfl, Nat.le_refl _, fun _ _ => rfl⟩⟩, by simp [intOf]; omega⟩
            · have hx0 : decide ((0 : Int) < (x : Int)) = false := decide_eq_false (by omega)
              have hS2 : Hid (wmL (amid r) (q.take (k + 1)) = (n, t + (m + p.drop.size))) := hide (by rw [hS1.out]; simp [hx])
              clear hS1
              go_wp2_with fail
              go_quiet (fail)
              go_wp2
              refine ⟨⟨k + 1, by omega, by go_num, by rw [hS2.out], by rw [hS2.out]; simp, HZ.out.trans ⟨rfl, rfl, rfl, Nat.le_refl _, fun _ _ => rfl⟩⟩, by simp [intOf]; omega⟩
          · have hi1 : decide ((t : Int) < (by_.length : Int)) = false := decide_eq_false (by omega)
            have hA : amid r t = false := by unfold amid; rw [decide_eq_false (show ¬ t < r.length by omega)]; simp
            have hS2 : Hid (wmL (amid r) (q.take (k + 1)) = (n, t + (m + p.drop.size))) := hide (by rw [hS1.out, hA]; simp)
            clear hS1 hA
            go_wp2_with fail
            go_quiet (fail)
            go_wp2
            refine ⟨⟨k + 1, by omega, by go_num, by rw [hS2.out], by rw [hS2.out]; simp, HZ.out.trans ⟨rfl, rfl, rfl, Nat.le_refl _, fun _ _ => rfl⟩⟩, by simp [intOf]; omega⟩
        · have hi0 : decide ((0 : Int) < (t : Int)) = false := decide_eq_false (by omega)
          have hA : amid r t = false := by unfold amid; rw [decide_eq_false h0]; simp
          have hS2 : Hid (wmL (amid r) (q.take (k + 1)) = (n, t + (m + p.drop.size))) := hide (by rw [hS1.out, hA]; simp)
          clear hS1 hA
          go_wp2_with fail
          go_quiet (fail)
          go_wp2
          refine ⟨⟨k + 1, by omega, by go_num, by rw [hS2.out], by rw [hS2.out]; simp, HZ.out.trans ⟨rfl, rfl, rfl, Nat.le_refl _, fun _ _ => rfl⟩⟩, by simp [intOf]; omega⟩
    · obtain rfl : k = q.length := by omega
      rw [List.take_length]
      have hbz := hb3.trans (hbw.mono hb3.size)
      go_wp2
      go_ret
      exact ⟨rfl, hbz⟩
end Go.Proofs.YtojlnnlcbpjdlabDoor
