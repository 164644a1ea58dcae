/- The law FnReplaced: what is replaced is so by its change, too, makes the text longer by just that, and what is replaced by itself stays. -/
import Derived.Test.YtfiefklhhchebaaDoorRepZ
import Derived.Test.YtfiefklhhchebaaDoorKmqM
import Derived.Test.YtfiefklhhchebaaDoorSamO
import Derived.Test.YtfiefklhhchebaaDoorOpW9M
set_option linter.unusedVariables false
namespace Go.Proofs.YtfiefklhhchebaaDoor
open Go.RowKit
open Doc1

/-- How much longer the text is. -/
theorem tA_more {p s W : ByteArray} (h0 : 0 < p.size) : ∀ k, k ≤ (plc p s).length → ((tA s ((sps p s W).take k)).1.size : Int) = ((tA s ((sps p s W).take k)).2 : Int) + (k : Int) * ((W.size : Int) - (p.size : Int)) ∧ (tA s ((sps p s W).take k)).2 ≤ s.size
  | 0, _ => ⟨by show ((0 : Nat) : Int) = ((0 : Nat) : Int) + ((0 : Nat) : Int) * _; simp, Nat.zero_le _⟩
  | k + 1, hk => by
    have ih := tA_more (s := s) (W := W) h0 k (by omega)
    have hk2 : k < (sps p s W).length := by unfold sps; rw [List.length_map]; omega
    have he : (sps p s W)[k] = spl p.size W (plc p s)[k] := List.getElem_map _
    have ha := asc_take (sps_asc (s := s) W h0) k hk2
    rw [← tA_til, he] at ha
    rw [List.take_succ_eq_append_getElem hk2, tA_snoc, he]
    unfold tS spl
    simp only
    have h1 : (tA s ((sps p s W).take k)).2 ≤ (plc p s)[k] := ha.2.1
    have h2 : (plc p s)[k] + p.size ≤ s.size := ha.2.2.2
    refine ⟨?_, h2⟩
    rw [ByteArray.size_append, ByteArray.size_append, ByteArray.size_extract]
    have e1 : ((k + 1 : Nat) : Int) * ((W.size : Int) - (p.size : Int)) = (k : Int) * ((W.size : Int) - (p.size : Int)) + ((W.size : Int) - (p.size : Int)) := by
      rw [show ((k + 1 : Nat) : Int) = (k : Int) + 1 by omega, Int.add_mul, Int.one_mul]
    rw [e1]
    have := ih.1
    generalize (k : Int) * ((W.size : Int) - (p.size : Int)) = z at *
    omega
theorem txt_more {p s W : ByteArray} (h0 : 0 < p.size) : ((txt s (sps p s W)).size : Int) = (s.size : Int) + ((plc p s).length : Int) * ((W.size : Int) - (p.size : Int)) := by
  have h := tA_more (s := s) (W := W) h0 (plc p s).length (Nat.le_refl _)
  rw [List.take_of_length_le (by unfold sps; rw [List.length_map]; exact Nat.le_refl _)] at h
  unfold txt
  rw [ByteArray.size_append, ByteArray.size_extract]
  have := h.1
  have := h.2
  generalize ((plc p s).length : Int) * ((W.size : Int) - (p.size : Int)) = z at *
  omega
theorem txt_self {p s : ByteArray} (h0 : 0 < p.size) : txt s (sps p s p) = s := txt_same (sps_asc p h0) (fun y hy => by
  unfold sps at hy
  obtain ⟨x, hx, rfl⟩ := List.mem_map.1 hy
  show p = s.extract x (x + p.size)
  rw [(plc_is h0 hx).2])
def wTexts (p : ByteArray) : List ByteArray := [⟨#[]⟩, ⟨#[120]⟩, ⟨#[97, 98]⟩, ⟨#[108, 111, 110, 103, 32, 116, 101, 120, 116]⟩, p]
theorem wTexts_le {p : ByteArray} (h : p.size ≤ 300) : ∀ s ∈ wTexts p, s.size ≤ 300 := by
  intro s hs
  simp only [wTexts, List.mem_cons, List.not_mem_nil, or_false] at hs
  rcases hs with rfl | rfl | rfl | rfl | rfl
  · decide
  · decide
  · decide
  · decide
  · exact h

set_option maxRecDepth 100000 in
set_option maxHeartbeats 1000000 in
theorem drawReplaceAll_any (C : Value) (w : World) (hco : CodeAt w.heap.size C w) :
    Calls Tryd.prog 19 #[C] w fun e w' => ∃ s p W : ByteArray, e = .returned (.tuple #[.string s, .string p, .string W]) ∧ s.size ≤ 300 ∧ p.size ≤ 300 ∧ W.size ≤ 300 ∧ Below w.heap.size w w' := by
  have hcur := cur_new w C
  have hco1 := hco.grown (World.grownBy_alloc w (.cells #[C, .int .i64 0, .int .u64 0] 51) (some w.heap.size))
  obtain ⟨a, len, cap, rfl⟩ := hco.shape
  clear hco
  go_enter Tryd.func19, Tryd.ntmps19
  go_wp2_with fail
  refine (sought_any _ _ _ _ hcur hco1 (by omega)).mono ?_
  rintro e w2 ⟨p, s, rfl, hp, hs, hc2, hg2⟩
  have hco2 := hco1.grown hg2
  have hl := hc2.lt
  clear hcur hco1
  go_wp2_with fail
  refine (of_any _ _ _ 300 w2.heap.size 0 5 5 _ (hc2.alloc _) (hco2.alloc _) (by omega) (by omega) (texts_new w2 (wTexts p) 9 300 (wTexts_le hp)) (by omega) (by omega) (by omega)).mono ?_
  rintro e w3 ⟨W, rfl, hW, hc3, hg3⟩
  have hb3 := below_of_grown ((hg2.trans (World.grownBy_alloc w2 _ _)).trans hg3)
  clear hc3 hg3 hg2 hc2 hco2
  go_wp2
  go_ret3
  exact ⟨s, p, W, rfl, hs, hp, hW, hb3⟩

set_option maxRecDepth 100000 in
set_option maxHeartbeats 8000000 in
theorem law_replaced (C : Value) (w : World) (hco : CodeAt w.heap.size C w) (hT : Tab w) :
    Calls Tryd.prog 5 #[C] w fun e w' => e = .returned (.bool true) ∧ Below w.heap.size w w' := by
  obtain ⟨a1, len, cap, rfl⟩ := hco.shape
  by_cases hl : len ≤ 1048576
  · have H0 := hide (drawReplaceAll_any (.slice a1 len cap) w hco)
    have HT := hide hT
    clear hco hT
    go_enter Tryd.func5, Tryd.ntmps5
    go_wp2_with fail
    refine H0.out.mono ?_
    rintro e w1 ⟨s, p, W, rfl, hs3, hp3, hW3, hw⟩
    clear H0
    have K1 := hide (allI_any p s W w1 (by omega) (by omega) (by omega) (HT.out.below hw))
    go_wp2_with fail
    refine K1.out.mono ?_
    rintro e w2 ⟨rfl, hq⟩
    replace hw := hw.trans (hq.mono hw.size)
    clear hq K1
    have K1 := hide (allS_any p s W w2 (by omega) (by omega) (by omega))
    go_wp2_with fail
    refine K1.out.mono ?_
    rintro e w3 ⟨rfl, hq⟩
    replace hw := hw.trans (hq.mono hw.size)
    clear hq K1
    have K1 := hide (repI_any p s W w3 (by omega) (by omega) (by omega) (HT.out.below hw))
    go_wp2_with fail
    refine K1.out.mono ?_
    rintro e w4 ⟨v1, rfl, o1, hq⟩
    replace hw := hw.trans (hq.mono hw.size)
    clear hq K1
    have K1 := hide (repS_any p s W w4 (by omega) (by omega) (by omega))
    go_wp2_with fail
    refine K1.out.mono ?_
    rintro e w5 ⟨v2, rfl, o2, hq⟩
    replace hw := hw.trans (hq.mono hw.size)
    replace o1 := own_below o1 hq
    clear hq K1
    have K4 := hide (sameOps_own o1 o2 (by have := rpT_len p s W; omega))
    cases hb : raB p s W with
    | false =>
      have hT0 : raT p s W = ⟨#[]⟩ := by unfold raT; rw [hb]; rfl
      have hN0 : raN p s W = 0 := by unfold raN; rw [hb]; rfl
      rw [hT0, hN0]
      clear hT0 hN0
      generalize rpB p s W = bb
      cases bb
      · go_wp2_with fail
        refine K4.out.mono ?_
        rintro e w6 ⟨rfl, hq⟩
        replace hw := hw.trans (hq.mono hw.size)
        clear K4
        clear hq o1 o2
        go_wp2
        go_ret
        exact ⟨rfl, hw⟩
      · go_wp2_with fail
        refine K4.out.mono ?_
        rintro e w6 ⟨rfl, hq⟩
        replace hw := hw.trans (hq.mono hw.size)
        clear K4
        clear hq o1 o2
        go_wp2
        go_ret
        exact ⟨rfl, hw⟩
    | true =>
      have hb2 := hb
      unfold raB at hb2
      rw [Bool.and_eq_true] at hb2
      have hok := hb2.1
      unfold rpOk at hok
      rw [Bool.and_eq_true] at hok
      obtain ⟨-, h0, -, -, hgp, hgs⟩ := said_yes hok.1
      have hT1 : raT p s W = txt s (sps p s W) := by unfold raT; rw [hb]; rfl
      have hN1 : raN p s W = ((plc p s).length : Int) := by unfold raN; rw [hb]; rfl
      have hmore := txt_more (s := s) (W := W) h0
      have hself := txt_self (s := s) h0
      have hTle := good_le' hb2.2
      have hap := apO_rep (W := W) h0 hgp hs3 hok.2
      have hbd := repL_bd (W := W) h0 hgp hs3 hok.2
      have hpB : raB p s p = true := by unfold raB rpOk; rw [hok.1, hgp, hself, hgs]; rfl
      have HP1 : Hid (raT p s p = s ∧ raN p s p = ((plc p s).length : Int) ∧ raB p s p = true) := hide ⟨by unfold raT; rw [hpB]; exact hself, by unfold raN; rw [hpB]; rfl, hpB⟩
      have hpl := plc_len p s
      rw [hT1, hN1]
      obtain ⟨T, hT⟩ : ∃ T, txt s (sps p s W) = T := ⟨_, rfl⟩
      rw [hT] at hmore hTle hap ⊢
      obtain ⟨n, hn⟩ : ∃ n, (plc p s).length = n := ⟨_, rfl⟩
      rw [hn] at hmore hpl HP1 ⊢
      obtain ⟨z, hz⟩ : ∃ z, (n : Int) * ((W.size : Int) - (p.size : Int)) = z := ⟨_, rfl⟩
      rw [hz] at hmore
      have hz1 : -300 ≤ z ∧ z ≤ 300 := by omega
      have ew : IntKind.i64.wrap ((n : Int) * ((W.size : Int) - (p.size : Int))) = z := by rw [hz, IntKind.wrap_i64]; omega
      have hqz : ((T.size : Int) == (s.size : Int) + z) = true := by simp; omega
      have HSZ : Hid (∀ q ∈ repL p s W, q.put.size ≤ 1048576 ∧ q.drop.size ≤ 1048576) := hide (fun q hq => by have := hbd.2 q hq; exact ⟨by have := this.2.1; omega, by have := this.2.2; omega⟩)
      have HRl : Hid ((repL p s W).length ≤ 1048576) := hide (by omega)
      have HAP := hide hap
      have HGS := hide hgs
      replace hz := hide hz
      replace hmore := hide hmore
      clear hT1 hN1 hT hn hb2 hok hgp hgs hself hap hbd hpB
      cases hr : rpB p s W with
      | false =>
        go_wp2_with fail
        refine K4.out.mono ?_
        rintro e w6 ⟨rfl, hq⟩
        replace hw := hw.trans (hq.mono hw.size)
        clear K4
        clear hq o1 o2
        have K6 := hide (allI_any p s p w6 (by omega) (by omega) (by omega) (HT.out.below hw))
        unfold RaPost at K6
        rw [HP1.out.1, HP1.out.2.1, HP1.out.2.2] at K6
        go_wp2_with fail
        refine K6.out.mono ?_
        rintro e w8 ⟨rfl, hq⟩
        replace hw := hw.trans (hq.mono hw.size)
        clear hq K6
        go_wp2
        go_ret
        exact ⟨rfl, hw⟩
      | true =>
        have hrT : rpT p s W = repL p s W := by unfold rpT; rw [hr]; rfl
        have hgo : goodO (repL p s W) = true := by unfold rpB at hr; rw [Bool.and_eq_true] at hr; exact hr.2
        have hal : aplO (repL p s W) s = (T, true) := by unfold aplO; rw [HAP.out]; rw [if_pos ⟨hgo, HGS.out, rfl⟩]
        have HAL := hide hal
        have HRT := hide hrT
        clear hgo hal hrT
        go_wp2_with fail
        refine K4.out.mono ?_
        rintro e w6 ⟨rfl, hq⟩
        replace hw := hw.trans (hq.mono hw.size)
        clear K4
        have o3 := own_below o1 hq
        rw [HRT.out] at o3
        obtain ⟨aw, g, cc, rfl, hpin⟩ := own_pin o3 (HT.out.below hw) (fun i hi => HSZ.out _ (List.getElem_mem hi)) HRl.out
        have K5 := applyI s hpin (HT.out.below hw) (by omega)
        rw [HAL.out] at K5
        replace K5 := hide K5
        clear hq o1 o2 o3 hpin
        go_wp2_with fail
        refine K5.out.mono ?_
        rintro e w7 ⟨rfl, hq⟩
        replace hw := hw.trans (hq.mono hw.size)
        clear hq K5
        have K6 := hide (allI_any p s p w7 (by omega) (by omega) (by omega) (HT.out.below hw))
        unfold RaPost at K6
        rw [HP1.out.1, HP1.out.2.1, HP1.out.2.2] at K6
        go_wp2_with fail
        refine K6.out.mono ?_
        rintro e w8 ⟨rfl, hq⟩
        replace hw := hw.trans (hq.mono hw.size)
        clear hq K6
        go_wp2
        go_ret
        exact ⟨rfl, hw⟩
  · go_enter Tryd.func5, Tryd.ntmps5
    go_wp2
    go_ret
    exact ⟨rfl, Below.refl _ _⟩
end Go.Proofs.YtfiefklhhchebaaDoor
