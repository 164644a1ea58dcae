/- The law of EntryLine: whatever the entry, it answers true and turns nothing old. -/
import Derived.Test.YtmjehpigfkobeaaDoorEnM
import Derived.Test.YtmjehpigfkobeaaDoorLawsO1
import Derived.Deep.RegionWith
set_option linter.unusedVariables false
namespace Go.Proofs.YtmjehpigfkobeaaDoor
open Go.RowKit
open Doc1

set_option maxRecDepth 100000 in
set_option maxHeartbeats 8000000 in
theorem law_entryLine (c s : Int) (v : Value) (l : List Pt) (w : World) (ha : ArgP w v l) (hr : ThinP l) (hT : TabN w) :
    Calls Tryd.prog 6 #[.agg #[.int .i64 c, .int .i64 s, v]] w fun e w' => e = .returned (.bool true) ∧ Below w.heap.size w w' := by
  have hb0 : Below w.heap.size w (w.alloc (.cells #[.int .i64 c, .int .i64 s, v] 47)) := (Below.refl _ _).alloc (Nat.le_refl _) _
  have SZ := hide (szEntry_any c s v l 1048576 _ (Nat.le_refl _) (ha.later hb0) hr)
  obtain ⟨a0, c0, rfl⟩ := argP_shp ha
  by_cases hf : szPn l ≤ 1048576
  · rw [if_pos hf] at SZ
    have hl : l.length ≤ 1048576 := by have := hf; unfold szPn at this; omega
    have HA := hide ha
    have HT := hide hT
    have HB0 := hide hb0
    have hk0 := heap_alloc_new w (.cells #[.int .i64 c, .int .i64 s, .slice a0 l.length c0] 47)
    have HK0 := hide hk0
    have CP := hide (fun w' (h : Below w.heap.size w w') => toEntry_cp c s (HA.out.later h) (by omega))
    have LS' := hide (fun w' g (h : PCp w' g l) => lineS c s (h.pin hf))
    have LI := hide (fun w' g (hb : Below w.heap.size w w') (h : PCp w' g l) => lineI c s (h.pin hf) (HT.out.below hb))
    obtain ⟨X, hX⟩ : ∃ X, lnR c s l = X := ⟨_, rfl⟩
    obtain ⟨b, hb⟩ : ∃ b, decide (enG ⟨c, s, l⟩) = b := ⟨_, rfl⟩
    simp only [hX, hb] at LS' LI
    clear ha hT hb0 hk0 hX hb hr
    go_enter Tryd.func6, Tryd.ntmps6
    go_wp2_with (first
      | (go_at_call 25; refine SZ.out.mono ?_; rintro e w1 ⟨rfl, hb1⟩; have HB1 := hide (HB0.out.trans (hb1.mono HB0.out.size)); have HK1 := hide ((hb1.block w.heap.size (by simp)).trans HK0.out); have d0 := (Lib.cell_of_heap HK1.out 0).trans rfl; have d1 := (Lib.cell_of_heap HK1.out 1).trans rfl; have d2 := (Lib.cell_of_heap HK1.out 2).trans rfl; clear hb1)
      | (go_at_call 26; refine (CP.out _ HB1.out).mono ?_; rintro e w2 ⟨g2, rfl, hg2, hp2, hb2⟩; have HB2 := hide (HB1.out.trans (hb2.mono HB1.out.size)); have HK2 := hide ((hb2.block w.heap.size (Array.getElem?_eq_some_iff.1 HK1.out).1).trans HK1.out); have HP2 := hide hp2; clear hb2 hp2 d0 d1 d2 HB1 HK1)
      | (go_at_call 16; refine (LS'.out _ _ HP2.out).mono ?_; rintro e w3 ⟨rfl, hb3⟩; have HB3 := hide (HB2.out.trans (hb3.mono HB2.out.size)); have HK3 := hide ((hb3.block w.heap.size (Array.getElem?_eq_some_iff.1 HK2.out).1).trans HK2.out); have d0 := (Lib.cell_of_heap HK3.out 0).trans rfl; have d1 := (Lib.cell_of_heap HK3.out 1).trans rfl; have d2 := (Lib.cell_of_heap HK3.out 2).trans rfl; clear hb3)
      | (go_at_call 26; refine (CP.out _ HB3.out).mono ?_; rintro e w4 ⟨g4, rfl, hg4, hp4, hb4⟩; have HB4 := hide (HB3.out.trans (hb4.mono HB3.out.size)); have HK4 := hide ((hb4.block w.heap.size (Array.getElem?_eq_some_iff.1 HK3.out).1).trans HK3.out); have HP4 := hide hp4; clear hb4 hp4 d0 d1 d2)
      | (go_at_call 15; refine (LI.out _ _ (HB4.out.alloc HB4.out.size _) (HP4.out.later ((Below.refl _ _).alloc (Nat.le_refl _) _))).mono ?_; rintro e w5 ⟨rfl, hb5⟩; have hx4 := heap_alloc_new w4 (.cells #[.int .i64 c, .int .i64 s, .slice (some ⟨g4, 0, none⟩) l.length l.length] 32); have HB5 := hide ((HB4.out.alloc HB4.out.size _).trans (hb5.mono (by simp; have := HB4.out.size; omega))); have HK5 := hide ((hb5.block w.heap.size (by simp; have := (Array.getElem?_eq_some_iff.1 HK4.out).1; omega)).trans ((Below.heap_alloc _ _ _ (Array.getElem?_eq_some_iff.1 HK4.out).1).trans HK4.out)); have HX5 := hide ((hb5.block w4.heap.size (by simp)).trans hx4); have HP5 := hide (HP4.out.later (((Below.refl _ _).alloc (Nat.le_refl _) _).trans (hb5.mono (by simp)))); have d0 := (Lib.cell_of_heap HK5.out 0).trans rfl; have d1 := (Lib.cell_of_heap HK5.out 1).trans rfl; have d2 := (Lib.cell_of_heap HK5.out 2).trans rfl; have x0 := (Lib.cell_of_heap HX5.out 0).trans rfl; have x1 := (Lib.cell_of_heap HX5.out 1).trans rfl; have x2 := (Lib.cell_of_heap HX5.out 2).trans rfl; clear hb5 hx4))
    have HPd := hide (HP5.out.later ((Below.refl _ w5).drew))
    have HBd := hide (HB5.out.drew)
    go_region_with (first
      | (go_at_call 26; refine (CP.out _ HBd.out).mono ?_; rintro e w6 ⟨g6, rfl, hg6, hp6, hb6⟩; have HB6 := hide (HBd.out.trans (hb6.mono HBd.out.size)); have HP6 := hide hp6; have HQ6 := hide (HPd.out.later hb6); have hx6 := (hb6.block w4.heap.size (Array.getElem?_eq_some_iff.1 HX5.out).1).trans HX5.out; have y0 := (Lib.cell_of_heap hx6 0).trans rfl; have y1 := (Lib.cell_of_heap hx6 1).trans rfl; have y2 := (Lib.cell_of_heap hx6 2).trans rfl; clear hb6 hp6 hx6)
      | (go_at_call 27; refine (eqEntry_r c s (PR.cp HQ6.out (by unfold maxLen; omega)) (PR.cp HP6.out (by unfold maxLen; omega)) (by omega)).mono ?_; rintro e w7 ⟨rfl, hb7⟩; have HB7 := hide (HB6.out.trans (hb7.mono HB6.out.size)); clear hb7))
    all_goals
      go_wp2
      go_ret
      exact ⟨rfl, HB7.out⟩
  · rw [if_neg hf] at SZ
    have HB0 := hide hb0
    clear ha hT hb0 hr
    go_enter Tryd.func6, Tryd.ntmps6
    go_wp2_with (go_at_call 25; refine SZ.out.mono ?_; rintro e w1 ⟨rfl, hb1⟩)
    go_ret
    exact ⟨rfl, HB0.out.trans (hb1.mono HB0.out.size)⟩

end Go.Proofs.YtmjehpigfkobeaaDoor
