/- The model's DropAtom. -/
import Derived.Test.YtnhooalibadeeaaDoorSqA3
import Derived.Test.YtnhooalibadeeaaDoorSqT1
import Derived.Test.YtnhooalibadeeaaDoorSqS2
set_option linter.unusedVariables false
namespace Go.Proofs.YtnhooalibadeeaaDoor
open Go.RowKit
open Doc1

set_option maxRecDepth 100000 in
set_option maxHeartbeats 2000000 in
theorem dropAtomS {w : World} {a : Option Addr} {cap : Nat} {l : List Am} (h : SIn w a cap l) (p : Int) :
    Calls Tryd.prog 14 #[.agg #[.slice a l.length cap], .int .i64 p] w fun e w' => ∃ v, e = .returned (.tuple #[.agg #[v], .bool (drB l p)]) ∧ AmOwn w' w.heap.size v (drL l p) ∧ Below w.heap.size w w' := by
  obtain ⟨hs0, hb0, hk0, hk1⟩ := boxesS2 w (.slice a l.length cap) (.slice none 0 0)
  obtain ⟨w0, hw0⟩ : ∃ w0, w0 = (w.alloc (.cells #[.slice a l.length cap] 25)).alloc (.cells #[.slice none 0 0] 25) := ⟨_, rfl⟩
  rw [← hw0] at hs0 hb0 hk0 hk1
  have HB0 := hide hb0
  have HK0 := hide hk0
  have HK1 := hide hk1
  have HS0 := hide hs0
  have S := hide (goodSeqS (h.later hb0))
  have k0 := hk0.cell
  have H := hide (h.later hb0)
  clear h hb0 hk0 hk1 hs0
  cases hq : goodQ l with
  | false =>
    have HR : Hid (drL l p = [] ∧ drB l p = false) := hide (by have : drB l p = false := by unfold drB; rw [hq]; rfl
                                                               exact ⟨by unfold drL; rw [if_neg (by rw [this]; simp)], this⟩)
    rw [HR.out.1, HR.out.2]
    rw [hq] at S
    clear hq
    go_enter Tryd.func14, Tryd.ntmps14
    rw [hw0] at k0
    go_wp2_with fail
    rw [← hw0] at k0 ⊢
    clear hw0 k0
    refine S.out.mono ?_
    rintro e w1 ⟨rfl, hb1⟩
    have HK2 := hide (HK1.out.later hb1)
    have HB1 := hide (HB0.out.trans (hb1.mono HB0.out.size))
    have k1 := HK2.out.cell
    have f1 := HK2.out.fz
    clear hb1
    go_wp2
    refine bodyPost_ret (results_cell_tmp rfl _ _ (w.heap.size + 1) 25 _ (0, 0) _ (.bool false) rfl rfl (HK2.out.put _) Tryd.underlying25 rfl sizeSeqI) rfl ?_
    exact ⟨_, rfl, World.ownsRow_nil _ _ _ _, HB1.out.setCell (p := ⟨w.heap.size + 1, 0, none⟩) (Nat.le_succ _) _⟩
  | true =>
    have hln := good_len hq
    have O := hide (fun (w' : World) (hb : Below w0.heap.size w0 w') => l17Shown_any (H.out.later hb).inn hq)
    have HM : Hid (∀ j ∈ shL l, j < l.length) := hide (fun j hj => ordL_mem hq j (List.mem_filter.1 hj).1)
    have hol : (shL l).length ≤ 80 := by have h1 := shw_le l (ordL l); have h2 := ordL_len hq; have h3 := good_len hq; unfold shL; omega
    have HD : Hid (drB l p = decide (0 ≤ p ∧ p ≤ ((shL l).length : Int) - 1)) := hide (by
      unfold drB
      rw [hq, Bool.true_and, ← Bool.decide_and]
      exact decide_eq_decide.2 (by omega))
    have HN : Hid (drB l p = false → drL l p = []) := hide (fun c => by unfold drL; rw [if_neg (by rw [c]; simp)])
    have HY : Hid (∀ (m : Nat) (hm : m < (shL l).length), p = (m : Int) → drL l p = dropL l (shL l)[m]) := hide (fun m hm e => by
      unfold drL
      rw [if_pos (by unfold drB; rw [hq, e]; simp; exact hm), e, Int.toNat_natCast, List.getD_eq_getElem?_getD, List.getElem?_eq_getElem hm]
      rfl)
    have J := hide (fun w' => l1In_any p 0 (((shL l).length : Int) - 1) w')
    rw [hq] at S
    obtain ⟨R, hR⟩ : ∃ R, R = drL l p := ⟨_, rfl⟩
    obtain ⟨D, hDD⟩ : ∃ D, D = drB l p := ⟨_, rfl⟩
    rw [← hR] at HN
    simp only [← hR] at HY
    rw [← hDD] at HD HN
    rw [← hR, ← hDD]
    rw [← HD.out] at J
    clear hq hR hDD
    generalize shL l = o at O HM hol HD HY J
    go_enter Tryd.func14, Tryd.ntmps14
    rw [hw0] at k0
    go_wp2_with fail
    rw [← hw0] at k0 ⊢
    clear hw0 k0
    refine S.out.mono ?_
    rintro e w2 ⟨rfl, hb2⟩
    have HX2 := hide (HK0.out.later hb2)
    have HK2 := hide (HK1.out.later hb2)
    have HB2 := hide (HB0.out.trans (hb2.mono HB0.out.size))
    have H2 := hide (H.out.later hb2)
    have O2 := hide (O.out w2 hb2)
    have HS2 := hide hb2.size
    have k2 := HX2.out.cell
    clear hb2 O H
    go_wp2_with fail
    refine O2.out.mono ?_
    rintro e w3 ⟨v2, rfl, o3, hb3⟩
    have HV : Hid (∀ m (hm : m < o.length), ∃ g2 c2, v2 = .slice (some ⟨g2, 0, none⟩) o.length c2 ∧ g2 < w3.heap.size ∧ w3.cell? ⟨g2, m, none⟩ = some (.int .i64 ((o[m] : Nat) : Int))) := hide (fun m hm => by
      obtain ⟨g2, c2, e, -, -, h2, h3, h4, -⟩ := own_cat o3 (by rw [oI_len]; omega)
      rw [oI_len] at e
      refine ⟨g2, c2, e, h3, h4 m _ ?_⟩
      rw [ints_at (oI o) (by rw [oI_len]; exact hm), oI_at])
    obtain ⟨a2, c2, he2, -, hm2⟩ := own_shp o3
    rw [oI_len] at he2
    subst he2
    have HX3 := hide (HX2.out.later hb3)
    have HK3 := hide (HK2.out.later hb3)
    have HB3 := hide (HB2.out.trans (hb3.mono HB2.out.size))
    have H3 := hide (H2.out.later hb3)
    have HS3 := hide (Nat.le_trans HS2.out hb3.size)
    have ew : IntKind.i64.wrap ((o.length : Int) - 1) = (o.length : Int) - 1 := by rw [IntKind.wrap_i64]; omega
    have k3 := HX3.out.cell
    have q3 := HK3.out.cell
    have f3 := HK3.out.fz
    clear o3 hb3 O2 H2 HX2 HK2 k2
    by_cases hin : 0 ≤ p ∧ p ≤ (o.length : Int) - 1
    · have hd : D = true := by rw [HD.out, decide_eq_true hin]
      obtain ⟨m, rfl⟩ : ∃ m : Nat, p = (m : Int) := ⟨p.toNat, by omega⟩
      have hlt : m < o.length := by omega
      have HRD : Hid (D = true ∧ R = dropL l o[m]) := hide ⟨hd, HY.out m hlt rfl⟩
      rw [hd] at J
      have hjl := HM.out _ (List.getElem_mem hlt)
      obtain ⟨g2, cc, e2, hg2, c0⟩ := HV.out m hlt
      cases e2
      obtain ⟨j, hj⟩ : ∃ j, j = o[m] := ⟨_, rfl⟩
      rw [← hj] at c0 HRD
      have hjl' : j < l.length := by rw [hj]; exact hjl
      have qj1 : (0 : Int) ≤ (j : Int) := by omega
      have qj2 : (j : Int) < (l.length : Int) := by omega
      have qm1 : (0 : Int) ≤ (m : Int) := by omega
      have qm2 : (m : Int) < (o.length : Int) := by omega
      have hb4 : Below w3.heap.size w3 (w3.alloc (.cells #[] 67)) := (Below.refl _ _).alloc (Nat.le_refl _) _
      have HB4 := hide hb4
      have H4 : Hid (AmIn (w3.alloc (.cells #[] 67)) a cap l) := hide (H3.out.inn.later hb4)
      have HO4 : Hid (AmOwn (w3.alloc (.cells #[] 67)) w3.heap.size (.slice (some ⟨w3.heap.size, 0, none⟩) 0 0) []) := hide (own_newA w3 67 #[] 0 6 rfl (by omega))
      have k4 := (HX3.out.later hb4).cell
      clear HD HN HY hd hj hjl hb4 H3 hin
      go_wp2_with (first
        | (go_at_call 48; refine (J.out _).mono ?_; rintro e w' ⟨rfl, hw⟩; replace hw := hw.symm; subst hw)
        | (at_builtin; go_loud (refine append_ams _ rfl _ _ rfl w3.heap.size _ [] HO4.out a cap l (by simp; omega) rfl rfl H4.out (by simp) ?_); intro v5 w5 own5 grow5 _; have HO5 : Hid (AmOwn w5 w3.heap.size v5 l) := hide (by rw [List.nil_append] at own5; exact own5); have HB5 : Hid (Below w3.heap.size w3 w5) := hide (grown_belowB HB4.out (by simp) HO4.out grow5); obtain ⟨a5, c5, rfl, -⟩ := own_shp HO5.out; clear own5 grow5))
      obtain ⟨w6, hw6⟩ : ∃ w6, w6 = w5.alloc (.cells #[.slice a5 l.length c5] 25) := ⟨_, rfl⟩
      have hb6 : Below w5.heap.size w5 w6 := by rw [hw6]; exact (Below.refl _ _).alloc (Nat.le_refl _) _
      have HX6 : Hid (CellR w6 w5.heap.size (.slice a5 l.length c5)) := hide (by rw [hw6]; exact CellR.new _ _)
      have hb36 := HB5.out.trans (hb6.mono HB5.out.size)
      have HK6 := hide (HK3.out.later hb36)
      have HO6 := hide (own_below HO5.out hb6)
      have HB6 := hide (HB3.out.trans (hb36.mono HB3.out.size))
      have c6 : w6.cell? ⟨g2, m, none⟩ = some (.int .i64 (j : Int)) := (World.cell?_of_block (a := ⟨g2, m, none⟩) (hb36.block g2 hg2)).trans c0
      obtain ⟨g1, cc1, e1, -, -, hg1, hl1, hc1, hf1⟩ := own_cat HO6.out (by omega)
      cases e1
      have hgl5 := (World.ownsRow.lt HO5.out g1 rfl).2
      obtain ⟨b5, e5⟩ : ∃ b5, w6.cell? ⟨g1, j * 6 + 5, none⟩ = some b5 := ⟨_, (hc1.amat _ hjl').2.2.2.2.2⟩
      have e6 := hf1.fz (j * 6 + 5)
      have HGO := hide (AmOwn.gone HO6.out hjl')
      have k6 := HX6.out.cell
      rw [← hw6]
      clear hw6 hb6 hb36 k4 k3 q3 f3 c0 hc1 hf1 HO4 H4 HO5
      go_region
      have hs0 := HS0.out
      have hs3 := HS3.out
      obtain ⟨w7, hw7⟩ : ∃ w7, w7 = (w6.setCell ⟨g1, j * 6 + 5, none⟩ (.bool true)).drew := ⟨_, rfl⟩
      have HX7 : Hid (CellR w7 w5.heap.size (.slice (some ⟨g1, 0, none⟩) l.length c5)) := hide (by rw [hw7]; exact HX6.out.other1 (by omega) _ _)
      have HK7 : Hid (CellR w7 (w.heap.size + 1) (.slice none 0 0)) := hide (by rw [hw7]; exact HK6.out.other1 (by omega) _ _)
      have HG7 : Hid (AmOwn w7 w3.heap.size (.slice (some ⟨g1, 0, none⟩) l.length c5) (dropL l j)) := hide (by rw [hw7]; exact HGO.out)
      have HB7 : Hid (Below w.heap.size w w7) := hide (by rw [hw7]; exact (HB6.out.setCell (p := ⟨g1, j * 6 + 5, none⟩) (by show w.heap.size ≤ g1; omega) _).drew)
      have k5 := HX7.out.cell
      have k7 := HK7.out.cell
      have k8 := HK7.out.fz
      clear e5 e6 HGO c6 k6
      rw [← hw7]
      clear hw7
      go_wp2
      refine bodyPost_ret (results_cell_tmp rfl _ _ (w.heap.size + 1) 25 _ (0, 0) _ (.bool true) rfl rfl (HK7.out.put _) Tryd.underlying25 rfl sizeSeqI) rfl ?_
      rw [HRD.out.1, HRD.out.2]
      exact ⟨_, rfl, AmOwn.mono (own_aside HG7.out (by omega) _ _) (by omega), HB7.out.setCell (p := ⟨w.heap.size + 1, 0, none⟩) (Nat.le_succ _) _⟩
    · have hd : D = false := by rw [HD.out, decide_eq_false hin]
      have HRD : Hid (D = false ∧ R = []) := hide ⟨hd, HN.out hd⟩
      rw [hd] at J
      clear HD HN HY hd hin
      go_wp2_with (go_at_call 48; refine (J.out _).mono ?_; rintro e w' ⟨rfl, hw⟩; replace hw := hw.symm; subst hw)
      refine bodyPost_ret (results_cell_tmp rfl _ _ (w.heap.size + 1) 25 _ (0, 0) _ (.bool false) rfl rfl (HK3.out.put _) Tryd.underlying25 rfl sizeSeqI) rfl ?_
      rw [HRD.out.1, HRD.out.2]
      exact ⟨_, rfl, World.ownsRow_nil _ _ _ _, HB3.out.setCell (p := ⟨w.heap.size + 1, 0, none⟩) (Nat.le_succ _) _⟩
end Go.Proofs.YtnhooalibadeeaaDoor
