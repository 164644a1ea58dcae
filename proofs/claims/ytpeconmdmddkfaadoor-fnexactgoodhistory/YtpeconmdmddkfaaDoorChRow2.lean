/- Rows of changes: copies, comparisons, marks. -/
import Derived.Test.YtpeconmdmddkfaaDoorChRow
set_option linter.unusedVariables false
namespace Go.Proofs.YtpeconmdmddkfaaDoor
open Go.RowKit
open Doc1

set_option maxHeartbeats 2000000 in
theorem eqChange_r {w : World} {va vb : Value} {l : List Pt} (ha : PR w va l) (hb : PR w vb l) (hm : l.length ≤ 10000000) :
    Calls Tryd.prog 118 #[.agg #[va], .agg #[vb]] w fun e w' => e = .returned (.bool true) ∧ Below w.heap.size w w' := by
  obtain ⟨aa, ca, ea⟩ := ha.shp
  obtain ⟨ab, cb, eb⟩ := hb.shp
  have H : Hid (∀ x y : Obj, Calls Tryd.prog 22 #[va, vb] ((w.alloc x).alloc y) fun e w' => e = .returned (.bool true) ∧ Below w.heap.size w w') := hide (fun x y => by
    have hb0 : Below w.heap.size w ((w.alloc x).alloc y) := ((Below.refl _ _).alloc (Nat.le_refl _) _).alloc (by simp) _
    refine (eqP_r (ha.later hb0) (hb.later hb0) hm).mono ?_
    rintro e w' ⟨rfl, h⟩
    exact ⟨rfl, hb0.trans (h.mono hb0.size)⟩)
  subst ea eb
  clear ha hb
  go_enter Tryd.func118, Tryd.ntmps118
  go_wp2_with fail
  refine (H.out _ _).mono ?_
  rintro e w2 ⟨rfl, hb2⟩
  have HB := hide hb2
  clear hb2
  go_wp2
  go_ret
  exact ⟨rfl, HB.out⟩

set_option maxHeartbeats 2000000 in
theorem eqC_r {S T : Nat → Prop} {w : World} {va vb : Value} {l : List (List Pt)} (ha : DR S w va l) (hb : DR T w vb l) (hl : l.length ≤ 10000000) (hm : ∀ i (hi : i < l.length), l[i].length ≤ 10000000) :
    Calls Tryd.prog 51 #[va, vb] w fun e w' => e = .returned (.bool true) ∧ Below w.heap.size w w' := by
  rcases Nat.eq_zero_or_pos l.length with h0 | h0
  · obtain rfl := List.eq_nil_of_length_eq_zero h0
    obtain ⟨aa, ca, rfl⟩ := ha.shp
    obtain ⟨ab, cb, rfl⟩ := hb.shp
    clear ha hb
    simp only [List.length_nil]
    go_enter Tryd.func51, Tryd.ntmps51
    go_wp2
    go_loop [5] (fun i => i = .int .i64 0) (fun _ => 0)
    case atStart => rfl
    case round =>
      subst hrel
      go_wp2
      go_ret
      exact ⟨rfl, Below.refl _ _⟩
  · rcases ha with ⟨c, -⟩ | ⟨ga, oa, ca, vsa, rfl, -, a1, a2, a3⟩
    · rw [c] at h0; exact absurd h0 (by simp)
    rcases hb with ⟨c, -⟩ | ⟨gb, ob, cb, vsb, rfl, -, b1, b2, b3⟩
    · rw [c] at h0; exact absurd h0 (by simp)
    have HA := hide a3
    have HB := hide b3
    have HE := hide hm
    clear a3 b3 hm
    go_enter Tryd.func51, Tryd.ntmps51
    go_wp2
    go_loopw [5] (fun i wr => ∃ k : Nat, k ≤ l.length ∧ i = .int .i64 k ∧ Below w.heap.size w wr) (fun i _ => l.length - (intOf i).toNat)
    case atStart => exact ⟨0, by omega, rfl, Below.refl _ _⟩
    case round =>
      obtain ⟨k, hk, rfl, hbel⟩ := hrel
      by_cases hlt : k < l.length
      · have hA := HA.out.later hbel
        have hB := HB.out.later hbel
        have a0 := hA.c k hlt
        have b0 := hB.c k hlt
        have E := hide (fun w' (h : Below wr.heap.size wr w') => eqChange_r ((hA.op k hlt (Nat.zero_le _)).later h) ((hB.op k hlt (Nat.zero_le _)).later h) (HE.out k hlt))
        clear hA hB
        go_wp2_with fail
        go_region_with (go_at_call 118; refine (E.out _ (Below.refl _ _).drew).mono ?_; rintro e w' ⟨rfl, hb'⟩)
        all_goals
          go_wp2
          go_roundw
          case rel => exact ⟨k + 1, by omega, by go_num, hbel.trans ((Below.refl _ _).drew.trans (hb'.mono (show w.heap.size ≤ wr.drew.heap.size from hbel.size)))⟩
          case measure => simp [intOf]; omega
      · go_wp2
        go_ret
        exact ⟨rfl, hbel⟩

set_option maxHeartbeats 2000000 in
theorem markC_r {S : Nat → Prop} {w : World} {v : Value} {l : List (List Pt)} (h : DR S w v l) (hl : l.length ≤ 10000000) (hm : ∀ i (hi : i < l.length), l[i].length ≤ 10000000) (K : Nat) (hK : 0 < K ∧ K + mkN l ≤ 500000000) :
    Calls Tryd.prog 52 #[v, .int .i64 (K : Int)] w fun e w' => e = .returned (.int .i64 (K + mkN l : Nat)) ∧ Out S w w' ∧ DK K S w' v l := by
  rcases h with ⟨rfl, a, c, rfl⟩ | ⟨g, off, cap, vs, rfl, h0, a1, a2, a3⟩
  · have e0 : K + mkN ([] : List (List Pt)) = K := rfl
    rw [e0]
    go_enter Tryd.func52, Tryd.ntmps52
    go_wp2
    go_loop [1, 5] (fun k i => k = .int .i64 (K : Int) ∧ i = .int .i64 0) (fun _ _ => 0)
    case atStart => exact ⟨rfl, rfl⟩
    case round =>
      obtain ⟨rfl, rfl⟩ := hrel
      go_wp2
      go_ret
      exact ⟨rfl, Out.refl _ _, .inl ⟨rfl, a, c, rfl⟩⟩
  · have H0 := hide (a3.start (K' := K))
    have HE := hide hm
    have HM := hide (mkU_mono l)
    have HN : Hid (K + mkU l l.length ≤ 500000000) := hide hK.2
    have HK := hide hK.1
    clear a3 hm hK
    unfold mkN
    go_enter Tryd.func52, Tryd.ntmps52
    go_wp2
    go_loopw [1, 5] (fun k1 i wr => ∃ k : Nat, k ≤ l.length ∧ i = .int .i64 k ∧ k1 = .int .i64 (K + mkU l k : Nat) ∧ Out S w wr ∧ DMo K S wr g off l vs k) (fun _ i _ => l.length - (intOf i).toNat)
    case atStart => exact ⟨0, by omega, rfl, rfl, Out.refl _ _, H0.out⟩
    case round =>
      obtain ⟨k, hk, rfl, rfl, ho, hd⟩ := hrel
      by_cases hlt : k < l.length
      · have c0 := hd.c k hlt
        have hsu := mkU_succ l k hlt
        have hmo := HM.out (k + 1) l.length (by omega)
        have M := hide (markP_r (hd.op k hlt (Nat.le_refl _)) (HE.out k hlt) (K + mkU l k) ⟨by have := HK.out; omega, by have := HN.out; omega⟩)
        obtain ⟨X, hX⟩ : ∃ X : Nat, X = K + mkU l k := ⟨_, rfl⟩
        rw [← hX] at M ⊢
        have hX2 : K + mkU l (k + 1) = X + l[k].length * 3 := by omega
        have HX := hide hX
        have HX2 := hide hX2
        have HD := hide hd
        have HO := hide ho
        obtain ⟨a, c, ea⟩ := (hd.op k hlt (Nat.le_refl _)).shp
        clear hsu hmo hX hX2 hd ho
        go_wp2_with fail
        rw [ea] at M
        refine M.out.mono ?_
        rintro e w2 ⟨rfl, hg2, hq2⟩
        rw [← ea] at hg2 hq2
        rw [HX.out] at hq2
        have A := hide (HD.out.step hlt hg2 hq2)
        have B := hide (HO.out.trans (Out.grown hg2 (fun y hy => (HD.out.opS k hlt y hy).1)))
        clear hg2 hq2 c0
        go_wp2
        refine ⟨⟨k + 1, by omega, by go_num, by rw [HX2.out]; simp, B.out, A.out⟩, by simp [intOf]; omega⟩
      · obtain rfl : k = l.length := by omega
        go_wp2
        go_ret
        exact ⟨rfl, ho, .inr ⟨g, off, cap, vs, rfl, h0, a1, a2, hd⟩⟩

set_option maxHeartbeats 2000000 in
theorem heldC_q {S : Nat → Prop} {w : World} {v : Value} {l : List (List Pt)} {K : Nat} (h : DK K S w v l) (hl : l.length ≤ 10000000) (hm : ∀ i (hi : i < l.length), l[i].length ≤ 10000000) (hK : 0 < K ∧ K + mkN l ≤ 500000000) :
    Calls Tryd.prog 53 #[v, .int .i64 (K : Int)] w fun e w' => e = .returned (.int .i64 (K + mkN l : Nat)) ∧ Below w.heap.size w w' := by
  rcases h with ⟨rfl, a, c, rfl⟩ | ⟨g, off, cap, vs, rfl, h0, a1, a2, a3⟩
  · have e0 : K + mkN ([] : List (List Pt)) = K := rfl
    rw [e0]
    go_enter Tryd.func53, Tryd.ntmps53
    go_wp2
    go_loop [1, 5] (fun k i => k = .int .i64 (K : Int) ∧ i = .int .i64 0) (fun _ _ => 0)
    case atStart => exact ⟨rfl, rfl⟩
    case round =>
      obtain ⟨rfl, rfl⟩ := hrel
      go_wp2
      go_ret
      exact ⟨rfl, Below.refl _ _⟩
  · have H0 := hide a3
    have HE := hide hm
    have HM := hide (mkU_mono l)
    have HN : Hid (K + mkU l l.length ≤ 500000000) := hide hK.2
    have HK := hide hK.1
    clear a3 hm hK
    unfold mkN
    go_enter Tryd.func53, Tryd.ntmps53
    go_wp2
    go_loopw [1, 5] (fun k1 i wr => ∃ k : Nat, k ≤ l.length ∧ i = .int .i64 k ∧ k1 = .int .i64 (K + mkU l k : Nat) ∧ Below w.heap.size w wr) (fun _ i _ => l.length - (intOf i).toNat)
    case atStart => exact ⟨0, by omega, rfl, rfl, Below.refl _ _⟩
    case round =>
      obtain ⟨k, hk, rfl, rfl, hbel⟩ := hrel
      by_cases hlt : k < l.length
      · have hd := H0.out.later hbel
        have c0 := hd.c k hlt
        have hsu := mkU_succ l k hlt
        have hmo := HM.out (k + 1) l.length (by omega)
        have hq := hd.mkd k hlt hlt
        have M := hide (heldP_q hq (HE.out k hlt) ⟨by have := HK.out; omega, by have := HN.out; omega⟩)
        obtain ⟨X, hX⟩ : ∃ X : Nat, X = K + mkU l k := ⟨_, rfl⟩
        rw [← hX] at M ⊢
        have hX2 : K + mkU l (k + 1) = X + l[k].length * 3 := by omega
        have hpos : decide (((X + l[k].length * 3 : Nat) : Int) < 0) = false := by rw [decide_eq_false_iff_not]; omega
        obtain ⟨Y, hY⟩ : ∃ Y : Int, ((X + l[k].length * 3 : Nat) : Int) = Y := ⟨_, rfl⟩
        rw [hY] at M hpos
        have HX2 := hide hX2
        have HY := hide hY
        obtain ⟨a, n, c, ea⟩ : ∃ a n c, vs k = .slice a n c := by
          rcases hq with ⟨-, a, c, e⟩ | ⟨g', c, e, -⟩
          · exact ⟨a, 0, c, e⟩
          · exact ⟨_, _, c, e⟩
        clear hsu hmo hX hX2 hd hq hY
        go_wp2_with fail
        rw [ea] at M
        refine M.out.mono ?_
        rintro e w2 ⟨rfl, hb2⟩
        have B := hide (hbel.trans (hb2.mono hbel.size))
        clear hb2 c0
        go_wp2
        refine ⟨⟨k + 1, by omega, by go_num, by rw [HX2.out, HY.out], B.out⟩, by simp [intOf]; omega⟩
      · obtain rfl : k = l.length := by omega
        go_wp2
        go_ret
        exact ⟨rfl, hbel⟩
end Go.Proofs.YtpeconmdmddkfaaDoor
