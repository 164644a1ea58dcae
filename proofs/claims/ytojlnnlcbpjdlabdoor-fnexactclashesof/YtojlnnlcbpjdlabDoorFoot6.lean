/- The contracts of the model's l4Runs and l4Within. -/
import Derived.Test.YtojlnnlcbpjdlabDoorFoot4
import Derived.Test.YtojlnnlcbpjdlabDoorAppN
set_option linter.unusedVariables false
namespace Go.Proofs.YtojlnnlcbpjdlabDoor
open Go.RowKit Go.Shelf
open Doc1

theorem own_not {w : World} {B n bp : Nat} {v : Value} {xs : List Value} {cs : Array Value} {fz : Nat × Nat} (h : w.ownsRow B 3 1 v n xs) (hb : w.heap[bp]? = some (.cells cs 39 fz)) : v.ownBlock ≠ some bp := by
  intro e
  rcases h.2 with ⟨rfl, -⟩ | ⟨g, cap, cur, rfl, -, hg, -⟩
  · cases e
  · have : g = bp := by have e2 : some g = some bp := e; injection e2
    subst this
    rw [hg] at hb
    injection hb with hb
    injection hb with _ c _
    exact absurd c (by decide)
theorem ba_ne {b : ByteArray} (h : ¬ b.size = 0) : b.toList.isEmpty = false := by
  rw [ByteArray.toList_eq, List.isEmpty_eq_false_iff]
  intro c
  exact h (by rw [sz_list, c]; rfl)
theorem ba_eq {b : ByteArray} (h : b.size = 0) : b.toList.isEmpty = true := by
  rw [ByteArray.toList_eq, List.isEmpty_iff]
  exact List.eq_nil_of_length_eq_zero (by rw [← sz_list]; exact h)
def PtB (W : World) (b m : Nat) (p : Pt) : Prop := W.heap[b]? = some (.cells #[.int .i64 (m : Int), .string p.put, .string p.drop] 39)
theorem ns_nm (m : Nat) : ns m = nmS (List.replicate m 0) := by simp [ns, nmS]
theorem nmS_app (a b : List Nat) : nmS (a ++ b) = nmS a ++ nmS b := by simp [nmS]
theorem own_as {w : World} {B n n' : Nat} {v : Value} {xs ys : List Value} (h : w.ownsRow B 3 1 v n xs) (hn : n = n') (hx : xs = ys) : w.ownsRow B 3 1 v n' ys := by subst hn; subst hx; exact h
theorem rn_len (l : List Pt) (h : ∀ p ∈ l, pk p ≠ 0) : (rnL l).1.length ≤ 300 * l.length ∧ (rnL l).2 ≤ l.length := by
  suffices H : ∀ (l : List Pt) (s : List Nat × Nat), (∀ p ∈ l, pk p ≠ 0) → (l.foldl rnS s).1.length ≤ s.1.length + 300 * l.length ∧ (l.foldl rnS s).2 ≤ s.2 + l.length by
    have := H l ([], 0) h
    simpa [rnL] using this
  intro l
  induction l with
  | nil => intro s _; simp
  | cons p l ih =>
    intro s h
    have h1 := ih (rnS s p) (fun q hq => h q (by simp [hq]))
    have h2 := (pk_bd (h p (by simp))).1
    obtain ⟨K, hK, hk⟩ := pk_nat (h p (by simp))
    unfold tk1 at h2
    have e1 : (rnS s p).1.length = s.1.length + (p.keep.toNat + p.drop.size) := by simp [rnS, rnP]
    have e2 : (rnS s p).2 ≤ s.2 + 1 := by unfold rnS rnN; simp only; split <;> omega
    rw [List.foldl_cons, List.length_cons]
    omega

set_option maxRecDepth 100000 in
set_option maxHeartbeats 4000000 in
theorem l4Runs_any {w : World} {aw : Option Addr} {g cap : Nat} {l : List Pt} (h : Pin w aw g cap l) (hg : goodO l = true) :
    Calls Tryd.prog 23 #[.slice aw l.length cap] w fun e w' => ∃ v, e = .returned v ∧ w'.ownsRow w.heap.size 3 1 v (rnL (normL l)).1.length (nmS (rnL (normL l)).1) ∧ Below w.heap.size w w' := by
  have hpk := goodO_pk hg
  obtain ⟨h60, ht, hm⟩ := goodO_le hg
  obtain ⟨ng, nt, nm⟩ := norm_goodO hg
  have npk := goodO_pk ng
  obtain ⟨n60, -, -⟩ := goodO_le ng
  have NM := hide (l3Normal_any h h60 hpk)
  have NPK := hide npk
  obtain ⟨i0, hi0, hz0, hz1, hz2⟩ := info_parts infoInt
  clear h hpk npk hg ng nt nm ht hm
  generalize hq : normL l = q at *
  clear hq
  go_enter Tryd.func23, Tryd.ntmps23
  go_wp2_with fail
  refine NM.out.mono ?_
  rintro e w1 ⟨v, rfl, own, hb1⟩
  clear NM
  have HO := hide own
  unfold POwn at own
  obtain ⟨a0, cap0, rfl, hc1, hc2⟩ := own_shp own
  clear own
  go_wp2
  go_loopw [3, 4, 11] (fun o n x wr => ∃ k : Nat, k ≤ q.length ∧ x = .int .i64 k ∧ n = .int .i64 ((rnL (q.take k)).2 : Int) ∧ wr.ownsRow w1.heap.size 3 1 o (rnL (q.take k)).1.length (nmS (rnL (q.take k)).1) ∧ Below w1.heap.size w1 wr) (fun _ _ x _ => q.length - (intOf x).toNat)
  case atStart => exact ⟨0, by omega, rfl, rfl, World.ownsRow_nil _ _ _ _, Below.refl _ _⟩
  case round =>
    obtain ⟨k, hk, rfl, rfl, hown, hbw⟩ := hrel
    obtain ⟨wo, rfl⟩ : ∃ wo, wo = wr := ⟨_, rfl⟩
    by_cases hlt : k < q.length
    · obtain ⟨gq', cq, ev, -, -, -, hgl, hcl, -⟩ := own_cat HO.out (by omega)
      cases ev
      obtain ⟨c0, c1, c2⟩ := (hcl.later hbw hgl).ptat k hlt
      have hpk := NPK.out q[k] (List.getElem_mem hlt)
      have hl := rn_len (q.take k) (fun p hp => NPK.out p (List.mem_of_mem_take hp))
      have hl1 : (q.take k).length ≤ 60 := by rw [List.length_take]; omega
      have hS : Hid (rnL (q.take (k + 1)) = rnS (rnL (q.take k)) q[k]) := hide (by rw [List.take_succ_eq_append_getElem hlt, rnL_snoc])
      obtain ⟨m, hm3, hm⟩ := pk_nat hpk
      have hsz := pk_szs' hpk
      obtain ⟨R, n0, hR⟩ : ∃ R n0, rnL (q.take k) = (R, n0) := ⟨_, _, rfl⟩
      rw [hR] at hown hl hS ⊢
      simp only at hown hl ⊢
      have hRl : R.length ≤ 18000 := by omega
      have hn0 : n0 ≤ 60 := by omega
      clear hl hcl hpk hR hl1
      generalize q[k] = p at *
      rw [hm] at c0
      have hb : (wo.alloc (.cells #[.int .i64 (m : Int), .string p.put, .string p.drop] 39)).heap[wo.heap.size]? = some (.cells #[.int .i64 (m : Int), .string p.put, .string p.drop] 39) := heap_alloc_new _ _
      have o2 := hown.alloc (.cells #[.int .i64 (m : Int), .string p.put, .string p.drop] 39)
      have ha := hbw.alloc hbw.size (.cells #[.int .i64 (m : Int), .string p.put, .string p.drop] 39)
      obtain ⟨av, cv, rfl, -, -⟩ := own_shp o2
      have hne := own_not o2 hb
      clear hown
      go_wp2_with (at_builtin; refine wpList_noughts _ rfl _ _ 45 3 rfl w1.heap.size 3 i0 Tryd.underlying45 Tryd.underlying3 hi0 hz0 hz1 hz2 _ _ _ rfl o2 m rfl (by omega) (by omega) ha.size ?_)
      intro v2 w2 own2 hg2
      have hb2 := below_owned ha o2 ha.size hg2
      have hp2 := (hg2.block wo.heap.size (by simp) (fun e => hne e.symm)).trans hb
      rw [ns_nm, ← nmS_app] at own2
      have d2 := cell_of_row w2 wo.heap.size 2 _ _ _ hp2
      simp only [List.getElem?_toArray, List.getElem?_cons_zero, List.getElem?_cons_succ] at d2
      clear hg2 o2 ha hb hne
      obtain ⟨a2, cap2, rfl, -, -⟩ := own_shp own2
      obtain ⟨n1, hn1⟩ : ∃ n1, n1 = rnN n0 p := ⟨_, rfl⟩
      have hS2 : Hid (rnL (q.take (k + 1)) = (R ++ List.replicate m 0 ++ List.replicate p.drop.size n1, n1)) := hide (by rw [hS.out]; unfold rnS rnP; simp [hm, hn1])
      clear hS
      by_cases hd : p.drop.size = 0
      · have hbe : p.drop.toList.isEmpty = true := ba_eq hd
        have hn : n1 = n0 := by rw [hn1]; unfold rnN; rw [if_pos hd]
        subst hn
        clear hn1
        go_wp2
        go_loopw [3, 7] (fun o x wr => ∃ j : Nat, j ≤ p.drop.size ∧ x = .int .i64 j ∧ wr.ownsRow w1.heap.size 3 1 o (R ++ List.replicate m 0 ++ List.replicate j n1).length (nmS (R ++ List.replicate m 0 ++ List.replicate j n1)) ∧ Below w1.heap.size w1 wr ∧ PtB wr wo.heap.size m p) (fun _ x _ => p.drop.size - (intOf x).toNat)
        case atStart => exact ⟨0, by omega, rfl, own_as own2 (by simp) (by simp), hb2, hp2⟩
        case round =>
          obtain ⟨j, hj, rfl, ho5, hb5, hp5⟩ := hrel
          unfold PtB at hp5
          have d5 := cell_of_row wr wo.heap.size 2 _ _ _ hp5
          simp only [List.getElem?_toArray, List.getElem?_cons_zero, List.getElem?_cons_succ] at d5
          by_cases hjl : j < p.drop.size
          · exact absurd hjl (by omega)
          · obtain rfl : j = p.drop.size := by omega
            go_wp2
            go_roundw
            case rel => exact ⟨k + 1, by omega, by go_num, by rw [hS2.out], own_as ho5 (by rw [hS2.out]) (by rw [hS2.out]), hb5⟩
            case measure => simp [intOf]; omega
      · have hbe : p.drop.toList.isEmpty = false := ba_ne hd
        have hn : n1 = n0 + 1 := by rw [hn1]; unfold rnN; rw [if_neg hd]
        clear hn1
        subst hn
        go_wp2
        go_loopw [3, 7] (fun o x wr => ∃ j : Nat, j ≤ p.drop.size ∧ x = .int .i64 j ∧ wr.ownsRow w1.heap.size 3 1 o (R ++ List.replicate m 0 ++ List.replicate j (n0 + 1)).length (nmS (R ++ List.replicate m 0 ++ List.replicate j (n0 + 1))) ∧ Below w1.heap.size w1 wr ∧ PtB wr wo.heap.size m p) (fun _ x _ => p.drop.size - (intOf x).toNat)
        case atStart => exact ⟨0, by omega, rfl, own_as own2 (by simp) (by simp), hb2, hp2⟩
        case round =>
          obtain ⟨j, hj, rfl, ho5, hb5, hp5⟩ := hrel
          unfold PtB at hp5
          have d5 := cell_of_row wr wo.heap.size 2 _ _ _ hp5
          simp only [List.getElem?_toArray, List.getElem?_cons_zero, List.getElem?_cons_succ] at d5
          by_cases hjl : j < p.drop.size
          · obtain ⟨a5, c5, rfl, -, -⟩ := own_shp ho5
            have hlen5 : (R ++ List.replicate m 0 ++ List.replicate j (n0 + 1)).length ≤ 20000 := by simp; omega
            have HJ : Hid (R ++ List.replicate m 0 ++ List.replicate (j + 1) (n0 + 1) = (R ++ List.replicate m 0 ++ List.replicate j (n0 + 1)) ++ [n0 + 1]) := hide (by rw [List.replicate_succ']; simp)
            generalize R ++ List.replicate m 0 ++ List.replicate j (n0 + 1) = S at *
            have hne5 := own_not ho5 hp5
            have ha5 := hb5.alloc hb5.size (.cells #[.int .i64 ((n0 : Int) + 1)] 3)
            have lt5 : wo.heap.size < wr.heap.size := (Array.getElem?_eq_some_iff.1 hp5).1
            go_wp2_with (at_builtin; refine wpList_append_own _ rfl _ _ 45 rfl w1.heap.size 3 i0 (.int .i64 0) 1 8 Tryd.underlying45 hi0 hz0 hz1 hz2 rfl (by decide) _ _ _ rfl (ho5.alloc _) ⟨wr.heap.size, 0, none⟩ 1 1 [.int .i64 ((n0 : Int) + 1)] rfl rfl (World.news_of_block (cs := #[.int .i64 ((n0 : Int) + 1)]) (t := 3) (fr := (0, 0)) (heap_alloc_new wr _)) (by simp [Value.oneCell']) (by unfold maxLen; omega) (by omega) ha5.size ?_)
            intro v6 w6 own6 hg6 _
            have hb6 := below_owned ha5 (ho5.alloc _) ha5.size hg6
            have hp6 := (hg6.block wo.heap.size (by simp; omega) (fun e => hne5 e.symm)).trans ((Below.heap_alloc wr _ _ lt5).trans hp5)
            clear hg6 ha5 ho5 hb5 hp5 d5
            go_wp2
            go_roundw
            case rel => exact ⟨j + 1, by omega, by go_num, own_as own6 (by rw [HJ.out]; simp) (by rw [HJ.out, nmS_snoc]; simp), hb6, hp6⟩
            case measure => simp [intOf]; omega
          · obtain rfl : j = p.drop.size := by omega
            go_wp2
            go_roundw
            case rel => exact ⟨k + 1, by omega, by go_num, by rw [hS2.out]; simp, own_as ho5 (by rw [hS2.out]) (by rw [hS2.out]), hb5⟩
            case measure => simp [intOf]; omega
    · obtain rfl : k = q.length := by omega
      rw [List.take_length] at hown
      have hbz := hb1.trans (hbw.mono hb1.size)
      go_wp2
      go_ret
      exact ⟨_, rfl, own_mono hown hb1.size, hbz⟩
end Go.Proofs.YtojlnnlcbpjdlabDoor
