/- The model's l17Shown and TextOfSeq. -/
import Derived.Test.YtnhooalibadeeaaDoorSqO3
import Derived.Test.YtnhooalibadeeaaDoorSqO6
set_option linter.unusedVariables false
namespace Go.Proofs.YtnhooalibadeeaaDoor
open Go.RowKit
open Doc1

theorem orderS_any' {w : World} {a : Option Addr} {cap : Nat} {l : List Am} (h : AmIn w a cap l) (hgd : goodQ l = true) :
    Calls Tryd.prog 71 #[.slice a l.length cap, .int .i64 0, .int .i64 0, .slice none 0 0] w fun e w' => ∃ v', e = .returned v' ∧ IOwn w' w.heap.size v' (oI (ordL l)) ∧ Below w.heap.size w w' := by
  have hp : ∀ i, i < l.length → pr l i ≤ i := fun i hi => pr_le hgd hi
  have hlen : (dfs (pr l) l.length (l.length + 1) 0).length = l.length := ordK_len hp
  have := good_len hgd
  refine (order_any (a := a) (cap := cap) (B := w.heap.size) hgd (l.length + 1) 0 w (.slice none 0 0) [] (by omega) (by omega) (fun w' hb k hk => ?_) (Nat.le_refl _) (World.ownsRow_nil _ _ _ _) (by rw [hlen]; simp; omega)).mono ?_
  · obtain ⟨g, e, hg, hc⟩ := (h.later hb).ad (by intro c; rw [c] at hk; simp at hk)
    obtain ⟨c0, c1, c2, c3, -, -⟩ := hc.amat k hk
    exact ⟨g, e, c0, c1, c2, c3⟩
  · rintro e w' ⟨v', rfl, h1, h2⟩
    exact ⟨v', rfl, h1, h2⟩
/-- The cells of a row of numbers that is one's own. -/
theorem iown_cells {w : World} {B : Nat} {v : Value} {o : List Nat} (hv : IOwn w B v (oI o)) : ∃ av cv, v = .slice av o.length cv ∧ o.length ≤ cv ∧ cv ≤ maxLen ∧ ∀ w', Below w.heap.size w w' → ∀ k (hk : k < o.length), ∃ gv, av = some ⟨gv, 0, none⟩ ∧ w'.cell? ⟨gv, k, none⟩ = some (.int .i64 ((o[k] : Nat) : Int)) := by
  obtain ⟨av, cv, rfl, hle, hmx⟩ := own_shp hv
  rw [oI_len] at hle
  refine ⟨av, cv, by rw [oI_len], hle, hmx, fun w' hb k hk => ?_⟩
  obtain ⟨gv, cap2, e, -, -, -, h3, h4, -⟩ := own_cat hv (by rw [oI_len]; omega)
  cases e
  refine ⟨gv, rfl, (h4.later hb h3) k _ ?_⟩
  rw [ints_at (oI o) (by rw [oI_len]; exact hk), oI_at]

set_option maxRecDepth 100000 in
set_option maxHeartbeats 1000000 in
theorem l17Shown_any {w : World} {a : Option Addr} {cap : Nat} {l : List Am} (h : AmIn w a cap l) (hgd : goodQ l = true) :
    Calls Tryd.prog 47 #[.agg #[.slice a l.length cap]] w fun e w' => ∃ v, e = .returned v ∧ IOwn w' w.heap.size v (oI (shL l)) ∧ Below w.heap.size w w' := by
  have hln := good_len hgd
  have hinfo : (Tryd.prog.info? 3).map (fun i => (i.zero, i.size, i.bytes)) = some (some (.int .i64 0), 1, 8) := by kernel_rfl
  obtain ⟨i0, hi0, hz0, hz1, hz2⟩ := info_parts hinfo
  have hb1 : Below w.heap.size w (w.alloc (.cells #[.slice a l.length cap] 25)) := (Below.refl _ _).alloc (Nat.le_refl _) _
  have hk1 : CellR (w.alloc (.cells #[.slice a l.length cap] 25)) w.heap.size (.slice a l.length cap) := CellR.new _ _
  obtain ⟨w1, hw1⟩ : ∃ w1, w1 = w.alloc (.cells #[.slice a l.length cap] 25) := ⟨_, rfl⟩
  rw [← hw1] at hb1 hk1
  have HB1 := hide hb1
  have HK1 := hide hk1
  have H1 := hide (h.later hb1)
  have O := hide (orderS_any' (h.later hb1) hgd)
  have HM := hide (ordL_mem hgd)
  have HL := hide (ordL_len hgd)
  have k1 := hk1.cell
  unfold shL
  obtain ⟨o, ho⟩ : ∃ o, o = ordL l := ⟨_, rfl⟩
  rw [← ho] at O HM HL ⊢
  clear h hb1 hk1 ho hgd hinfo
  go_enter Tryd.func47, Tryd.ntmps47
  rw [hw1] at k1
  go_wp2_with fail
  rw [← hw1] at k1 ⊢
  clear hw1 k1
  refine O.out.mono ?_
  rintro e w2 ⟨v, rfl, hv, hb2⟩
  obtain ⟨av, cv, rfl, hcv, hmv, hcl⟩ := iown_cells hv
  have HV := hide hcl
  have HB2 := hide hb2
  unfold maxLen at hmv
  have hol : o.length ≤ 80 := by have := HL.out; omega
  clear hv hb2 hcl O
  go_wp2
  go_loopw [3, 10] (fun v i wr => ∃ k : Nat, k ≤ o.length ∧ i = .int .i64 k ∧ ∃ v0, v0 = v ∧ Hid (IOwn wr w2.heap.size v0 (oI (shw l (o.take k)))) ∧ Below w2.heap.size w2 wr) (fun _ i _ => o.length - (intOf i).toNat)
  case atStart => exact ⟨0, by omega, rfl, _, rfl, hide (World.ownsRow_nil _ _ _ _), Below.refl _ _⟩
  case round =>
    obtain ⟨k, hk, rfl, v, hv0, HO, hbel⟩ := hrel
    subst hv0
    by_cases hlt : k < o.length
    · obtain ⟨gv, rfl, c0⟩ := HV.out wr hbel k hlt
      have hjl := HM.out _ (List.getElem_mem hlt)
      have HB3 := hide (HB2.out.trans (hbel.mono HB2.out.size))
      obtain ⟨g, rfl, hg, hc⟩ := (H1.out.later HB3.out).ad (by intro c; rw [c] at hjl; simp at hjl)
      have k1 := (HK1.out.later HB3.out).cell
      have ST := hide (shw_take (l := l) hlt)
      obtain ⟨j, hj⟩ : ∃ j, j = o[k] := ⟨_, rfl⟩
      rw [← hj] at c0 hjl ST
      have c5 := (hc.amat j hjl).2.2.2.2.2
      rw [gnN_at hjl] at ST
      have qj1 : (0 : Int) ≤ (j : Int) := by omega
      have qj2 : (j : Int) < (l.length : Int) := by omega
      have hsl := shw_le l (o.take k)
      rw [List.length_take] at hsl
      have HB := hide hbel
      have hbs := hbel.size
      clear hj hc hbel
      cases hgn : l[j].gone with
      | true =>
        have HO2 : Hid (IOwn wr w2.heap.size v (oI (shw l (o.take (k + 1))))) := hide (by rw [ST.out, hgn]; simpa using HO.out)
        rw [hgn] at c5
        clear hgn HO ST
        go_wp2
        exact ⟨⟨k + 1, by omega, by go_num, v, rfl, HO2, HB.out⟩, by simp [intOf]; omega⟩
      | false =>
        have ST2 : Hid (shw l (o.take (k + 1)) = shw l (o.take k) ++ [j]) := hide (by rw [ST.out, hgn]; simp)
        rw [hgn] at c5
        obtain ⟨ys, hys⟩ : ∃ ys, ys = oI (shw l (o.take k)) := ⟨_, rfl⟩
        have hyl : ys.length ≤ 80 := by rw [hys, oI_len]; omega
        rw [← hys] at HO
        have HY := hide hys
        clear hgn ST hys hsl
        go_wp2_with (at_builtin; go_loud (refine wpList_append_loc _ rfl _ _ 43 rfl w2.heap.size 3 i0 (.int .i64 0) 1 8 Tryd.underlying43 hi0 hz0 hz1 hz2 rfl (by decide) v ys.length (ints ys) rfl (World.ownsRow.alloc HO.out _) ⟨wr.heap.size, 0, none⟩ 1 1 [.int .i64 (j : Int)] rfl rfl (World.news_of_block (cs := #[.int .i64 (j : Int)]) (t := 3) (fr := (0, 0)) (heap_alloc_new wr _)) (by simp [Value.oneCell']) (by unfold maxLen; omega) (by omega) (by simp; omega) ?_; intro v5 w5 own5 grow5 _; have HV5 : Hid (IOwn w5 w2.heap.size v5 (oI (shw l (o.take (k + 1))))) := hide (by rw [ST2.out, show oI (shw l (o.take k) ++ [j]) = ys ++ [(j : Int)] by rw [HY.out]; simp [oI]]; have e : ints (ys ++ [(j : Int)]) = ints ys ++ [.int .i64 (j : Int)] := (by simp [ints]); unfold IOwn; rw [e, List.length_append]; exact own5); have HB5 : Hid (Below w2.heap.size w2 w5) := hide (below_append HB.out HO.out (by omega) grow5); clear own5 grow5))
        exact ⟨⟨k + 1, by omega, by go_num, v5, rfl, HV5, HB5.out⟩, by simp [intOf]; omega⟩
    · obtain rfl : k = o.length := by omega
      have HE : Hid (IOwn wr w2.heap.size v (oI (shw l o))) := hide (by have := HO.out; rw [List.take_length] at this; exact this)
      have HB := hide hbel
      clear hbel HO
      go_wp2
      go_ret
      exact ⟨v, rfl, own_mono HE.out (Nat.le_trans HB1.out.size HB2.out.size), HB1.out.trans ((HB2.out.trans (HB.out.mono HB2.out.size)).mono HB1.out.size)⟩
end Go.Proofs.YtnhooalibadeeaaDoor
