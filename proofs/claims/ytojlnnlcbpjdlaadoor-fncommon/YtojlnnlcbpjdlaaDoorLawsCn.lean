/- The law FnCommon: a longest text in common is within both, and as long as the distance leaves. -/
import Derived.Test.YtojlnnlcbpjdlaaDoorChg0
import Derived.Test.YtojlnnlcbpjdlaaDoorChg2
import Derived.Test.YtojlnnlcbpjdlaaDoorCom4
import Derived.Test.YtojlnnlcbpjdlaaDoorCom5
set_option linter.unusedVariables false
namespace Go.Proofs.YtojlnnlcbpjdlaaDoor
open Go.RowKit
open Doc1

theorem sub_good {L a : List UInt8} (h : L.Sublist a) (hg : good a = true) : good L = true := by
  have hl := good_len hg
  have := h.length_le
  unfold good allOk at hg ⊢
  simp only [Bool.and_eq_true, decide_eq_true_eq] at hg ⊢
  refine ⟨?_, by omega⟩
  rw [List.all_eq_true] at hg ⊢
  exact fun x hx => hg.1 x (h.subset hx)

set_option maxRecDepth 100000 in
set_option maxHeartbeats 8000000 in
theorem law_common (C : Value) (w : World) (hco : CodeAt w.heap.size C w) (hT : Tab w) :
    Calls Tryd.prog 8 #[C] w fun e w' => e = .returned (.bool true) ∧ Below w.heap.size w w' := by
  obtain ⟨a1, len, cap, rfl⟩ := hco.shape
  by_cases hl : len ≤ 1048576
  · have H0 := hide (drawCommonOf_any (.slice a1 len cap) w hco (by show len ≤ 1048576; omega))
    have HT := hide hT
    clear hco hT
    go_enter Tryd.func8, Tryd.ntmps8
    go_wp2_with fail
    refine H0.out.mono ?_
    rintro e w1 ⟨a, b, rfl, ha, hb, hw⟩
    clear H0
    have a16 : a.size ≤ 10000000000000000 := by omega
    cases hg : (good a.data.toList && good b.data.toList) with
    | false =>
      have K1 := commonI_none a b w1 (HT.out.below hw) a16 hb hg
      replace K1 := hide K1
      go_wp2_with fail
      refine K1.out.mono ?_
      rintro e w2 ⟨rfl, hq⟩
      replace hw := hw.trans (hq.mono hw.size)
      clear hq K1
      have K2 := commonS_none a b w2 a16 hb hg
      replace K2 := hide K2
      go_wp2_with fail
      refine K2.out.mono ?_
      rintro e w3 ⟨rfl, hq⟩
      replace hw := hw.trans (hq.mono hw.size)
      clear hq K2
      go_wp2
      go_ret
      exact ⟨rfl, hw⟩
    | true =>
      have hgs := hg
      rw [Bool.and_eq_true] at hgs
      obtain ⟨hga, hgb⟩ := hgs
      have ha3 := good_len' hga
      have hb3 := good_len' hgb
      obtain ⟨L, hL⟩ := cmn_ex a.data.toList b.data.toList _ 0 0 (Nat.le_refl _)
      obtain ⟨L2, hL2⟩ := cmn_ex b.data.toList a.data.toList _ 0 0 (Nat.le_refl _)
      obtain rfl := cmn_same hL hL2
      have hsub := cmn_sub hL
      have hlen := cmn_len hL
      simp only [List.drop_zero] at hsub hlen
      have hgL := sub_good hsub.1 hga
      have hLb := good_len hgL
      have hedl := ed_lc a.data.toList b.data.toList
      obtain ⟨s, hs⟩ : ∃ s : ByteArray, (⟨L.toArray⟩ : ByteArray) = s := ⟨_, rfl⟩
      have hsl : s.data.toList = L := by rw [← hs]
      have hss : s.size = L.length := by rw [← hs]; rfl
      have hw1 : witA s.data.toList a.data.toList = true := by rw [hsl]; unfold witA; rw [hgL, hga, wit_sub hsub.1]; rfl
      have hw2 : witA s.data.toList b.data.toList = true := by rw [hsl]; unfold witA; rw [hgL, hgb, wit_sub hsub.2]; rfl
      have hg1 : (good s.data.toList && good a.data.toList) = true := by rw [hsl, hgL, hga]; rfl
      have hg2 : (good s.data.toList && good b.data.toList) = true := by rw [hsl, hgL, hgb]; rfl
      have b1 := ed_most 2 a.data.toList b.data.toList
      obtain ⟨d, hd⟩ : ∃ d : Nat, ed 2 a.data.toList b.data.toList = d := ⟨_, rfl⟩
      have hdA : edA 2 a.data.toList b.data.toList = (d : Int) := by unfold edA; rw [hg, if_pos rfl, hd]
      rw [hd] at b1 hedl
      simp only [Array.length_toList, ByteArray.size_data] at b1 hedl
      have q1 : 2 * (s.size : Int) = (a.size : Int) + (b.size : Int) - (d : Int) := by rw [hss, hlen]; omega
      have u1 : (2 * (s.size : Int) == (a.size : Int) + (b.size : Int) - (d : Int)) = true := by rw [beq_iff_eq]; exact q1
      have hs3 : s.size ≤ 300 := by omega
      have CI := hide (fun w' hT => commonI_good a b w' L hL hT hga hgb ha3 hb3)
      have CS := hide (fun w' => commonS_good a b w' L hL hga hgb ha3 hb3)
      have CB := hide (fun w' hT => commonI_good b a w' L hL2 hT hgb hga hb3 ha3)
      rw [hs] at CI CS CB
      clear hs hL hL2 hsub hlen hgL hLb hd hsl hss q1
      have K1 := CI.out w1 (HT.out.below hw)
      replace K1 := hide K1
      go_wp2_with fail
      refine K1.out.mono ?_
      rintro e w2 ⟨rfl, hq⟩
      replace hw := hw.trans (hq.mono hw.size)
      clear hq K1
      have K2 := CS.out w2
      replace K2 := hide K2
      go_wp2_with fail
      refine K2.out.mono ?_
      rintro e w3 ⟨rfl, hq⟩
      replace hw := hw.trans (hq.mono hw.size)
      clear hq K2
      have K3 := withinI_any s a w3 (by omega) (by omega) (HT.out.below hw)
      rw [hw1, hg1] at K3
      replace K3 := hide K3
      go_wp2_with fail
      refine K3.out.mono ?_
      rintro e w4 ⟨rfl, hq⟩
      replace hw := hw.trans (hq.mono hw.size)
      clear hq K3
      have K4 := withinI_any s b w4 (by omega) (by omega) (HT.out.below hw)
      rw [hw2, hg2] at K4
      replace K4 := hide K4
      go_wp2_with fail
      refine K4.out.mono ?_
      rintro e w5 ⟨rfl, hq⟩
      replace hw := hw.trans (hq.mono hw.size)
      clear hq K4
      have K5 := distI_all a b w5 a16 hb (HT.out.below hw)
      rw [hdA, hg] at K5
      replace K5 := hide K5
      go_wp2_with fail
      refine K5.out.mono ?_
      rintro e w6 ⟨rfl, hq⟩
      replace hw := hw.trans (hq.mono hw.size)
      clear hq K5
      have K6 := CB.out w6 (HT.out.below hw)
      replace K6 := hide K6
      go_wp2_with fail
      refine K6.out.mono ?_
      rintro e w7 ⟨rfl, hq⟩
      replace hw := hw.trans (hq.mono hw.size)
      clear hq K6
      clear CI CS CB hw1 hw2 hg1 hg2 hdA hg hga hgb hedl
      go_wp2
      go_ret
      exact ⟨rfl, hw⟩
  · go_enter Tryd.func8, Tryd.ntmps8
    go_wp2
    go_ret
    exact ⟨rfl, Below.refl _ _⟩
end Go.Proofs.YtojlnnlcbpjdlaaDoor
