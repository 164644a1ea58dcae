/- The law FnFound: what is found is just where a text stands, with no more than twice as many looks as there are bytes. -/
import Derived.Test.YtfiefklhhchebaaDoorKmp6
import Derived.Test.YtfiefklhhchebaaDoorKmq2
set_option linter.unusedVariables false
namespace Go.Proofs.YtfiefklhhchebaaDoor
open Go.RowKit
open Doc1

theorem fnd_pre (A S : List UInt8) (m : Nat) : ∀ d, ∃ t, fnd A S (m + d) = fnd A S m ++ t
  | 0 => ⟨[], by simp⟩
  | d + 1 => by
    obtain ⟨t, h⟩ := fnd_pre A S m d
    exact ⟨t ++ _, by rw [← Nat.add_assoc, fnd, h, List.append_assoc]⟩
theorem fnd_here {A S : List UInt8} {x M : Nat} (hA : 0 < A.length) (hM : x + A.length ≤ M) (h : suf A S (x + A.length) A.length = true) : (fnd A S M)[(fnd A S (x + A.length - 1)).length]? = some x ∧ (fnd A S (x + A.length)).length = (fnd A S (x + A.length - 1)).length + 1 := by
  have e : fnd A S (x + A.length) = fnd A S (x + A.length - 1) ++ [x] := by
    obtain ⟨k, hk⟩ : ∃ k, x + A.length = k + 1 := ⟨x + A.length - 1, by omega⟩
    rw [hk] at h
    rw [hk, fnd, if_pos h, Nat.add_sub_cancel, show k + 1 - A.length = x by omega]
  obtain ⟨t, ht⟩ := fnd_pre A S (x + A.length) (M - (x + A.length))
  rw [show x + A.length + (M - (x + A.length)) = M by omega] at ht
  refine ⟨?_, by rw [e]; simp⟩
  rw [ht, e, List.append_assoc, List.getElem?_append_right (Nat.le_refl _)]
  simp
theorem fnd_nothere {A S : List UInt8} {x M : Nat} (hA : 0 < A.length) (h : suf A S (x + A.length) A.length = false) : (∀ j : Nat, (fnd A S M)[j]? ≠ some x) ∧ (fnd A S (x + A.length)).length = (fnd A S (x + A.length - 1)).length := by
  refine ⟨fun j hj => ?_, ?_⟩
  · have := ((fnd_mem M).1 (List.mem_of_getElem? hj)).2.1
    rw [h] at this; cases this
  · obtain ⟨k, hk⟩ : ∃ k, x + A.length = k + 1 := ⟨x + A.length - 1, by omega⟩
    rw [hk] at h
    rw [hk, fnd, h]
    simp
theorem fnd_short {A S : List UInt8} {m : Nat} (h : m < A.length) : fnd A S m = [] := by
  cases hf : fnd A S m with
  | nil => rfl
  | cons x t =>
    have := ((fnd_mem (A := A) (S := S) (k := x) m).1 (by rw [hf]; simp)).1
    omega
theorem stand_cmp {p s : ByteArray} {x : Nat} (h : x + p.size ≤ s.size) : ((s.extract x (x + p.size)).toList == p.toList) = suf p.data.toList s.data.toList (x + p.size) p.size := by
  have hl : s.data.toList.length = s.size := by simp
  have e1 : (s.extract x (x + p.size)).toList.length = p.size := by rw [exl_list, List.length_take, List.length_drop]; omega
  have e2 : p.toList.length = p.size := by rw [Lib.toList_data]; simp
  rw [Bool.eq_iff_iff, beq_iff_eq, list_eq_getD (by rw [e1, e2]), suf_iff, e1]
  constructor
  · intro h3
    refine ⟨by omega, fun j hj => ?_⟩
    have := h3 j hj
    rw [exl_list, getD_part _ _ _ _ (by omega), Lib.toList_data] at this
    rw [show x + p.size - p.size + j = x + j by omega]
    exact this.symm
  · rintro ⟨_, h3⟩ j hj
    have := h3 j hj
    rw [show x + p.size - p.size + j = x + j by omega] at this
    rw [exl_list, getD_part _ _ _ _ (by omega), Lib.toList_data]
    exact this.symm

set_option maxRecDepth 100000 in
set_option maxHeartbeats 8000000 in
theorem law_found (C : Value) (w : World) (hco : CodeAt w.heap.size C w) (hT : Tab w) :
    Calls Tryd.prog 3 #[C] w fun e w' => e = .returned (.bool true) ∧ Below w.heap.size w w' := by
  obtain ⟨a1, len, cap, rfl⟩ := hco.shape
  by_cases hl : len ≤ 1048576
  · have H0 := hide (drawFindAll_any (.slice a1 len cap) w hco)
    have HT := hide hT
    clear hco hT
    go_enter Tryd.func3, Tryd.ntmps3
    go_wp2_with fail
    refine H0.out.mono ?_
    rintro e w1 ⟨p, s, rfl, hp, hsz, hw⟩
    clear H0
    have K1 := hide (findI_any p s w1 (by omega) (by omega) (HT.out.below hw))
    go_wp2_with fail
    refine K1.out.mono ?_
    rintro e w2 ⟨v, rfl, ho, hq⟩
    replace hw := hw.trans (hq.mono hw.size)
    clear hq K1
    have K2 := hide (findS_any p s w2 (by omega) (by omega))
    go_wp2_with fail
    refine K2.out.mono ?_
    rintro e w3 ⟨v2, rfl, ho2, hq⟩
    replace hw := hw.trans (hq.mono hw.size)
    replace ho := own_below ho hq
    clear hq K2
    have K3 := hide (stepI_any p s w3 (by omega) (by omega) (HT.out.below hw))
    go_wp2_with fail
    refine K3.out.mono ?_
    rintro e w4 ⟨rfl, hq⟩
    replace hw := hw.trans (hq.mono hw.size)
    replace ho := own_below ho hq
    replace ho2 := own_below ho2 hq
    clear hq K3
    have K3 := hide (stepS_any p s w4 (by omega) (by omega))
    go_wp2_with fail
    refine K3.out.mono ?_
    rintro e w5 ⟨rfl, hq⟩
    replace hw := hw.trans (hq.mono hw.size)
    replace ho := own_below ho hq
    replace ho2 := own_below ho2 hq
    clear hq K3
    have K4 := hide (sameInts_own ho ho2 (by have := fndO_len p s; omega))
    obtain ⟨v1, hv1⟩ : ∃ v1, v = v1 := ⟨_, rfl⟩
    cases hs : said p s with
    | false =>
      have hO : fndO p s = [] := by unfold fndO; rw [hs]; rfl
      rw [hO] at ho
      obtain ⟨a, ca, rfl, -, -⟩ := own_shp ho
      clear ho ho2 hO hv1
      go_wp2_with fail
      refine K4.out.mono ?_
      rintro e w6 ⟨rfl, hq⟩
      replace hw := hw.trans (hq.mono hw.size)
      clear hq K4
      go_wp2
      go_ret
      exact ⟨rfl, hw⟩
    | true =>
      obtain ⟨-, h0, -, -, -, -⟩ := said_yes hs
      have hA : 0 < p.data.toList.length := by simpa using h0
      have hAl : p.data.toList.length = p.size := by simp
      have hO : fndO p s = fI p.data.toList s.data.toList s.size := by unfold fndO; rw [hs]; rfl
      have hP : stpO p s = (lks p.data.toList s.data.toList s.size : Int) := by unfold stpO; rw [hs]; rfl
      have hlk := lks_bd p.data.toList s.data.toList hA s.size
      obtain ⟨L, hL⟩ : ∃ L, lks p.data.toList s.data.toList s.size = L := ⟨_, rfl⟩
      obtain ⟨F, hF⟩ : ∃ F, fnd p.data.toList s.data.toList s.size = F := ⟨_, rfl⟩
      have hFl := fnd_len p.data.toList s.data.toList s.size
      rw [hP, hL]
      rw [hL] at hlk
      rw [hF] at hFl
      have hI : fndO p s = F.map (fun (k : Nat) => (k : Int)) := by rw [hO]; unfold fI; rw [hF]
      have hll : (fndO p s).length = F.length := by rw [hI, List.length_map]
      unfold IOwn at ho
      rw [hll] at ho
      obtain ⟨a0, ca, rfl, k1, k2⟩ := own_shp ho
      have HC : Hid (∀ wy, Below w5.heap.size w5 wy → ∀ j (hj : j < F.length), ∃ g, a0 = some ⟨g, 0, none⟩ ∧ wy.cell? ⟨g, j, none⟩ = some (.int .i64 (F[j] : Int))) := hide (fun wy hb j hj => by
        obtain ⟨g, cc, e, -⟩ := own_open ho (by omega)
        simp only [Value.slice.injEq] at e
        obtain ⟨e1, -, -⟩ := e
        subst e1
        refine ⟨g, rfl, ?_⟩
        have := World.ownsRow.cellAt (own_below ho hb) j (by omega)
        rw [this, hI]
        simp [ints, hj])
      have HF := hide hF
      clear ho ho2 hO hP hI hll hv1 hL
      go_wp2_with fail
      refine K4.out.mono ?_
      rintro e w6 ⟨rfl, hq⟩
      have HB6 := hide hq
      have HW := hide (hw.trans (hq.mono hw.size))
      clear hq K4 hw hF
      go_wp2
      go_loopw [13, 14] (fun vk va wr => ∃ x k : Nat, va = .int .i64 (x : Int) ∧ vk = .int .i64 (k : Int) ∧ x ≤ s.size + 1 - p.size ∧ k ≤ F.length ∧ Hid (k = (fnd p.data.toList s.data.toList (x + p.data.toList.length - 1)).length) ∧ Hid (Below w6.heap.size w6 wr)) (fun _ va _ => s.size + 1 - p.size - (intOf va).toNat)
      case atStart => exact ⟨0, 0, rfl, rfl, by omega, by omega, hide (by rw [fnd_short (by omega)]; rfl), hide (Below.refl _ _)⟩
      case round =>
        obtain ⟨x, k, rfl, rfl, hx, hk, HK, HR⟩ := hrel
        have HC2 := HC.out wr (HB6.out.trans (HR.out.mono HB6.out.size))
        by_cases hlt : x + p.size ≤ s.size
        · have hcm := stand_cmp (p := p) (s := s) (x := x) hlt
          cases hi : suf p.data.toList s.data.toList (x + p.size) p.size with
          | true =>
            rw [hi] at hcm
            obtain ⟨y1, y2⟩ := fnd_here (M := s.size) hA (by rw [hAl]; exact hlt) (by rw [hAl]; exact hi)
            rw [← HK.out, HF.out] at y1
            obtain ⟨hkl, hkx⟩ := List.getElem?_eq_some_iff.1 y1
            obtain ⟨g, rfl, c1⟩ := HC2 k hkl
            rw [hkx] at c1
            have HK2 : Hid (k + 1 = (fnd p.data.toList s.data.toList (x + 1 + p.data.toList.length - 1)).length) := hide (by rw [show x + 1 + p.data.toList.length - 1 = x + p.data.toList.length by omega, y2, ← HK.out])
            have q1 : ((x : Int) == (x : Int)) = true := by simp
            clear y1 y2 hkx HC2 hi HK
            go_wp2
            exact ⟨⟨x + 1, k + 1, by go_num, by go_num, by omega, by omega, HK2, HR⟩, by simp [intOf]; omega⟩
          | false =>
            rw [hi] at hcm
            obtain ⟨y1, y2⟩ := fnd_nothere (M := s.size) hA (by rw [hAl]; exact hi)
            rw [HF.out] at y1
            have HK2 : Hid (k = (fnd p.data.toList s.data.toList (x + 1 + p.data.toList.length - 1)).length) := hide (by rw [show x + 1 + p.data.toList.length - 1 = x + p.data.toList.length by omega, y2, ← HK.out])
            by_cases hkl : k < F.length
            · obtain ⟨g, rfl, c1⟩ := HC2 k hkl
              have hne : ((F[k] : Int) == (x : Int)) = false := by
                have := y1 k
                rw [List.getElem?_eq_getElem hkl] at this
                simp only [beq_eq_false_iff_ne, ne_eq]
                intro c
                exact this (by rw [Int.ofNat.inj c])
              generalize F[k] = z at *
              clear y1 y2 HC2 hi HK
              go_wp2
              exact ⟨⟨x + 1, k, by go_num, rfl, by omega, by omega, HK2, HR⟩, by simp [intOf]; omega⟩
            · clear y1 y2 HC2 hi HK
              go_wp2
              exact ⟨⟨x + 1, k, by go_num, rfl, by omega, by omega, HK2, HR⟩, by simp [intOf]; omega⟩
        · have hkF : k = F.length := by
            rw [HK.out, ← HF.out]
            by_cases hps : p.size ≤ s.size
            · rw [show x + p.data.toList.length - 1 = s.size by omega]
            · rw [fnd_short (by omega), fnd_short (by omega)]
          have HFin := hide (HW.out.trans (HR.out.mono HW.out.size))
          have hd : decide ((L : Int) ≤ 2 * (s.size : Int)) = true := decide_eq_true (by omega)
          subst hkF
          clear HC2 HR HK HC
          go_wp2
          go_ret
          exact ⟨rfl, HFin.out⟩
  · go_enter Tryd.func3, Tryd.ntmps3
    go_wp2
    go_ret
    exact ⟨rfl, Below.refl _ _⟩
end Go.Proofs.YtfiefklhhchebaaDoor
