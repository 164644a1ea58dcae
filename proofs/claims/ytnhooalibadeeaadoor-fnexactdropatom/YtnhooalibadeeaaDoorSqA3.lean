/- An atom that is dropped: the mathematics, and the program's DropAtom. -/
import Derived.Test.YtnhooalibadeeaaDoorSqA2
import Derived.Test.YtnhooalibadeeaaDoorSqO6
import Derived.Deep.Cut
import Derived.Deep.CutRange
import Derived.Deep.RegionHeld3
set_option linter.unusedVariables false
namespace Go.Proofs.YtnhooalibadeeaaDoor
open Go.RowKit
open Doc1

/-- An atom is gone. -/
def dropL (l : List Am) (j : Nat) : List Am := if h : j < l.length then l.set j { l[j] with gone := true } else l
theorem dropL_len (l : List Am) (j : Nat) : (dropL l j).length = l.length := by
  unfold dropL
  split
  · rw [List.length_set]
  · rfl
theorem encAm_gone : ∀ (l : List Am) (j : Nat) (hj : j < l.length), (encAm l).set (j * 6 + 5) (.bool true) = encAm (l.set j { l[j] with gone := true })
  | x :: l, 0, _ => by simp [encAm, amC]
  | x :: l, j + 1, hj => by
    have ih := encAm_gone l j (by simpa using hj)
    have e : ∀ (y : Am) (t : List Am), encAm (y :: t) = [.int .i64 y.time, .int .i64 y.actor, .int .i64 y.above, .int .i64 y.maker, .string y.byte, .bool y.gone] ++ encAm t := fun y t => by simp [encAm, amC]
    rw [e, List.set_cons_succ, e, List.getElem_cons_succ, ← ih, show (j + 1) * 6 + 5 = j * 6 + 5 + 6 by omega]
    simp
theorem AmOwn.gone {w : World} {B g cap : Nat} {l : List Am} (h : AmOwn w B (.slice (some ⟨g, 0, none⟩) l.length cap) l) {j : Nat} (hj : j < l.length) :
    AmOwn (w.setCell ⟨g, j * 6 + 5, none⟩ (.bool true)) B (.slice (some ⟨g, 0, none⟩) l.length cap) (dropL l j) := by
  have := (h.stored (j * 6 + 5) (.bool true)).1
  rw [encAm_gone l j hj] at this
  unfold AmOwn
  rw [dropL_len]
  unfold dropL
  rw [dif_pos hj]
  exact this
noncomputable def drB (l : List Am) (p : Int) : Bool := goodQ l && (decide (0 ≤ p) && decide (p < ((shL l).length : Int)))
noncomputable def drL (l : List Am) (p : Int) : List Am := if drB l p = true then dropL l ((shL l).getD p.toNat 0) else []
theorem drL_len (l : List Am) (p : Int) : (drL l p).length ≤ 80 := by
  unfold drL
  split
  · rename_i h
    rw [dropL_len]
    unfold drB at h
    simp only [Bool.and_eq_true] at h
    exact good_len h.1
  · simp

set_option maxRecDepth 100000 in
set_option maxHeartbeats 2000000 in
theorem dropAtomI {w : World} {a : Option Addr} {cap : Nat} {l : List Am} (h : SIn w a cap l) (hT : Tab w) (p : Int) :
    Calls Tryd.prog 21 #[.agg #[.slice a l.length cap], .int .i64 p] w fun e w' => ∃ v, e = .returned (.tuple #[.agg #[v], .bool (drB l p)]) ∧ AmOwn w' w.heap.size v (drL l p) ∧ Below w.heap.size w w' := by
  obtain ⟨hs0, hb0, hk0, hk1⟩ := boxesS2 w (.slice a l.length cap) (.slice none 0 0)
  obtain ⟨w0, hw0⟩ : ∃ w0, w0 = (w.alloc (.cells #[.slice a l.length cap] 25)).alloc (.cells #[.slice none 0 0] 25) := ⟨_, rfl⟩
  rw [← hw0] at hs0 hb0 hk0 hk1
  have HB0 := hide hb0
  have HK0 := hide hk0
  have HK1 := hide hk1
  have HS0 := hide hs0
  have S := hide (seqOf_any (h.later hb0) (hT.below hb0))
  have k0 := hk0.cell
  have H := hide h
  clear h hT hb0 hk0 hk1 hs0
  cases hq : goodQ l with
  | false =>
    have HR : Hid (drL l p = [] ∧ drB l p = false) := hide (by have : drB l p = false := by unfold drB; rw [hq]; rfl
                                                               exact ⟨by unfold drL; rw [if_neg (by rw [this]; simp)], this⟩)
    rw [HR.out.1, HR.out.2]
    rw [hq] at S
    clear hq
    go_enter Tryd.func21, Tryd.ntmps21
    rw [hw0] at k0
    go_wp2_with fail
    rw [← hw0] at k0 ⊢
    clear hw0 k0
    refine S.out.mono ?_
    rintro e w1 ⟨v1, rfl, o1, hb1⟩
    obtain ⟨a1, c1, rfl, -⟩ := own_shp o1
    have hb2 : Below w1.heap.size w1 (w1.alloc (.cells #[.slice a1 (sqR l).length c1] 25)) := (Below.refl _ _).alloc (Nat.le_refl _) _
    have HK2 := hide ((HK1.out.later hb1).later hb2)
    have HB1 := hide (HB0.out.trans ((hb1.trans (hb2.mono hb1.size)).mono HB0.out.size))
    have k1 := HK2.out.cell
    have f1 := HK2.out.fz
    clear hb1 hb2 o1
    go_wp2
    refine bodyPost_ret (results_cell_tmp rfl _ _ (w.heap.size + 1) 25 _ (0, 0) _ (.bool false) rfl rfl (HK2.out.put _) Tryd.underlying25 rfl sizeSeqI) rfl ?_
    exact ⟨_, rfl, World.ownsRow_nil _ _ _ _, HB1.out.setCell (p := ⟨w.heap.size + 1, 0, none⟩) (Nat.le_succ _) _⟩
  | true =>
    have SQ : Hid (sqR l = l) := hide (by unfold sqR; rw [if_pos hq])
    have hln := good_len hq
    have O := hide (fun (w' : World) (a1 : Option Addr) (c1 : Nat) (hi : AmIn w' a1 c1 l) => shownOf_any hi hq)
    have HM : Hid (∀ j ∈ shL l, j < l.length) := hide (fun j hj => ordL_mem hq j (List.mem_filter.1 hj).1)
    have hol : (shL l).length ≤ 80 := by have h1 := shw_le l (ordL l); have h2 := ordL_len hq; have h3 := good_len hq; unfold shL; omega
    have HD : Hid (drB l p = (decide (0 ≤ p) && decide (p < ((shL l).length : Int)))) := hide (by unfold drB; rw [hq]; rfl)
    have HN : Hid (drB l p = false → drL l p = []) := hide (fun c => by unfold drL; rw [if_neg (by rw [c]; simp)])
    have HY : Hid (∀ (m : Nat) (hm : m < (shL l).length), p = (m : Int) → drL l p = dropL l (shL l)[m]) := hide (fun m hm e => by
      unfold drL
      rw [if_pos (by unfold drB; rw [hq, e]; simp; exact hm), e, Int.toNat_natCast, List.getD_eq_getElem?_getD, List.getElem?_eq_getElem hm]
      rfl)
    rw [SQ.out, hq] at S
    obtain ⟨R, hR⟩ : ∃ R, R = drL l p := ⟨_, rfl⟩
    obtain ⟨D, hDD⟩ : ∃ D, D = drB l p := ⟨_, rfl⟩
    rw [← hR] at HN
    simp only [← hR] at HY
    rw [← hDD] at HD HN
    rw [← hR, ← hDD]
    clear hq hR hDD SQ
    generalize shL l = o at O HM hol HD HY
    go_enter Tryd.func21, Tryd.ntmps21
    rw [hw0] at k0
    go_wp2_with fail
    rw [← hw0] at k0 ⊢
    clear hw0 k0
    refine S.out.mono ?_
    rintro e w1 ⟨v1, rfl, o1, hb1⟩
    obtain ⟨a1, c1, rfl, -⟩ := own_shp o1
    obtain ⟨w2, hw2⟩ : ∃ w2, w2 = w1.alloc (.cells #[.slice a1 l.length c1] 25) := ⟨_, rfl⟩
    have hb2 : Below w1.heap.size w1 w2 := by rw [hw2]; exact (Below.refl _ _).alloc (Nat.le_refl _) _
    have hx2 : CellR w2 w1.heap.size (.slice a1 l.length c1) := by rw [hw2]; exact CellR.new _ _
    have HX2 := hide hx2
    have HK2 := hide ((HK1.out.later hb1).later hb2)
    have HB2 := hide (HB0.out.trans ((hb1.trans (hb2.mono hb1.size)).mono HB0.out.size))
    have o2 := own_below o1 hb2
    have HO2 : Hid (AmOwn w2 w0.heap.size (.slice a1 l.length c1) l) := hide o2
    have HL1 : Hid (∀ y, (Value.slice a1 l.length c1).ownBlock = some y → y < w1.heap.size) := hide (fun y hy => (World.ownsRow.lt o1 y hy).2)
    have HIN : Hid (AmIn w2 a1 c1 l) := hide (by obtain ⟨a', c', e', hi⟩ := AmOwn.inn (show AmOwn w2 w0.heap.size _ l from o2); cases e'; exact hi)
    have S2 := hide (O.out w2 a1 c1 HIN.out)
    have HS12 : Hid (w0.heap.size ≤ w1.heap.size ∧ w2.heap.size = w1.heap.size + 1) := hide ⟨hb1.size, by rw [hw2]; simp⟩
    have k2 := hx2.cell
    clear hb1 hb2 hx2 o1 o2 O
    rw [hw2] at k2
    go_wp2_with fail
    rw [← hw2] at k2 ⊢
    clear hw2 k2
    refine S2.out.mono ?_
    rintro e w3 ⟨v2, rfl, o3, hb3⟩
    have HV : Hid (∀ m (hm : m < o.length), ∃ g2 c2, v2 = .slice (some ⟨g2, 0, none⟩) o.length c2 ∧ w2.heap.size ≤ g2 ∧ w3.cell? ⟨g2, m, none⟩ = some (.int .i64 ((o[m] : Nat) : Int))) := hide (fun m hm => by
      obtain ⟨g2, c2, e, -, -, h2, h3, h4, -⟩ := own_cat o3 (by rw [oI_len]; omega)
      rw [oI_len] at e
      refine ⟨g2, c2, e, h2, h4 m _ ?_⟩
      rw [ints_at (oI o) (by rw [oI_len]; exact hm), oI_at])
    obtain ⟨a2, c2, he2, -, hm2⟩ := own_shp o3
    rw [oI_len] at he2
    subst he2
    have HX3 := hide (HX2.out.later hb3)
    have HK3 := hide (HK2.out.later hb3)
    have HB3 := hide (HB2.out.trans (hb3.mono HB2.out.size))
    have HO3 : Hid (AmOwn w3 w0.heap.size (.slice a1 l.length c1) l) := hide (own_below HO2.out hb3)
    have k3 := HX3.out.cell
    have q3 := HK3.out.cell
    have f3 := HK3.out.fz
    clear o3 hb3 S2 HIN HO2 HX2 HK2
    by_cases h0 : p < 0
    · have hd : D = false := by rw [HD.out, decide_eq_false (by omega)]; rfl
      have HRD : Hid (D = false ∧ R = []) := hide ⟨hd, HN.out hd⟩
      clear HD HN HY hd
      go_wp2
      refine bodyPost_ret (results_cell_tmp rfl _ _ (w.heap.size + 1) 25 _ (0, 0) _ (.bool false) rfl rfl (HK3.out.put _) Tryd.underlying25 rfl sizeSeqI) rfl ?_
      rw [HRD.out.1, HRD.out.2]
      exact ⟨_, rfl, World.ownsRow_nil _ _ _ _, HB3.out.setCell (p := ⟨w.heap.size + 1, 0, none⟩) (Nat.le_succ _) _⟩
    · obtain ⟨m, rfl⟩ : ∃ m : Nat, p = (m : Int) := ⟨p.toNat, by omega⟩
      by_cases hlt : m < o.length
      · have hd : D = true := by rw [HD.out, decide_eq_true (by omega), decide_eq_true (by omega)]; rfl
        have HRD : Hid (D = true ∧ R = dropL l o[m]) := hide ⟨hd, HY.out m hlt rfl⟩
        have hjl := HM.out _ (List.getElem_mem hlt)
        obtain ⟨g2, cc, e2, hg2, c0⟩ := HV.out m hlt
        cases e2
        obtain ⟨g1, cc1, e1, -, -, hg1, hl1, hc1, hf1⟩ := own_cat HO3.out (by omega)
        cases e1
        obtain ⟨b5, e5⟩ : ∃ b5, w3.cell? ⟨g1, o[m] * 6 + 5, none⟩ = some b5 := ⟨_, (hc1.amat _ hjl).2.2.2.2.2⟩
        have e6 := hf1.fz (o[m] * 6 + 5)
        have HGO := hide (HO3.out.gone hjl)
        obtain ⟨j, hj⟩ : ∃ j, j = o[m] := ⟨_, rfl⟩
        rw [← hj] at c0 e6 HGO HRD
        rw [← hj] at e5
        have hjl' : j < l.length := by rw [hj]; exact hjl
        have HJ := hide hj
        have qj1 : (0 : Int) ≤ (j : Int) := by omega
        have qj2 : (j : Int) < (l.length : Int) := by omega
        have qm1 : (0 : Int) ≤ (m : Int) := by omega
        have qm2 : (m : Int) < (o.length : Int) := by omega
        clear HD HN HY hd hc1 hf1 hj hjl
        go_wp2
        go_region
        have hg1l := HL1.out g1 rfl
        have hs0 := HS0.out
        obtain ⟨w5, hw5⟩ : ∃ w5, w5 = (w3.setCell ⟨g1, j * 6 + 5, none⟩ (.bool true)).drew := ⟨_, rfl⟩
        have HX5 : Hid (CellR w5 w1.heap.size (.slice (some ⟨g1, 0, none⟩) l.length c1)) := hide (by rw [hw5]; exact HX3.out.other1 (by omega) _ _)
        have HK5 : Hid (CellR w5 (w.heap.size + 1) (.slice none 0 0)) := hide (by rw [hw5]; exact HK3.out.other1 (by omega) _ _)
        have HG5 : Hid (AmOwn w5 w0.heap.size (.slice (some ⟨g1, 0, none⟩) l.length c1) (dropL l j)) := hide (by rw [hw5]; exact HGO.out)
        have HB5 : Hid (Below w.heap.size w w5) := hide (by rw [hw5]; exact (HB3.out.setCell (p := ⟨g1, j * 6 + 5, none⟩) (by show w.heap.size ≤ g1; omega) _).drew)
        have k5 := HX5.out.cell
        have k6 := HK5.out.cell
        have k7 := HK5.out.fz
        clear k3 q3 f3 e5 e6 HGO HX3 HK3 c0
        rw [← hw5]
        clear hw5
        go_wp2
        refine bodyPost_ret (results_cell_tmp rfl _ _ (w.heap.size + 1) 25 _ (0, 0) _ (.bool true) rfl rfl (HK5.out.put _) Tryd.underlying25 rfl sizeSeqI) rfl ?_
        rw [HRD.out.1, HRD.out.2]
        exact ⟨_, rfl, AmOwn.mono (own_aside HG5.out (by omega) _ _) (by omega), HB5.out.setCell (p := ⟨w.heap.size + 1, 0, none⟩) (Nat.le_succ _) _⟩
      · have hd : D = false := by rw [HD.out, decide_eq_false (p := ((m : Int) < _)) (by omega), Bool.and_false]
        have HRD : Hid (D = false ∧ R = []) := hide ⟨hd, HN.out hd⟩
        clear HD HN HY hd
        go_wp2
        refine bodyPost_ret (results_cell_tmp rfl _ _ (w.heap.size + 1) 25 _ (0, 0) _ (.bool false) rfl rfl (HK3.out.put _) Tryd.underlying25 rfl sizeSeqI) rfl ?_
        rw [HRD.out.1, HRD.out.2]
        exact ⟨_, rfl, World.ownsRow_nil _ _ _ _, HB3.out.setCell (p := ⟨w.heap.size + 1, 0, none⟩) (Nat.le_succ _) _⟩
end Go.Proofs.YtnhooalibadeeaaDoor
