/- A line parted from its sum: the program's unsealed and the model's l18Body. -/
import Derived.Test.YtmjehpigfkobeabDoorUns1
import Derived.BigQuiet
set_option linter.unusedVariables false
namespace Go.Proofs.YtmjehpigfkobeabDoor
open Go.RowKit Go.Shelf
open Doc1

attribute [local go_sem] Oper.semAt_some

theorem lix_cases (s : ByteArray) : (Lib.lastIndexByte s 32 = -1 ∧ lbk s = 0) ∨ ∃ i : Nat, Lib.lastIndexByte s 32 = i ∧ lbk s = i ∧ i < s.size := by
  unfold lbk
  rcases Lib.lastIndexByte_spec s 32 with ⟨e, _⟩ | ⟨i, hi, e, _⟩
  · exact .inl ⟨e, by rw [e]; rfl⟩
  · exact .inr ⟨i, e, by rw [e]; rfl, hi⟩

theorem beq_ba (s Y : ByteArray) : (s.toList == Y.toList) = decide (s = Y) := by
  rw [ByteArray.toList_eq, ByteArray.toList_eq, Bool.eq_iff_iff, beq_iff_eq, decide_eq_true_eq]
  exact ⟨fun h => ByteArray.ext (Array.toList_inj.1 h), fun h => by rw [h]⟩

set_option maxRecDepth 100000 in
set_option maxHeartbeats 4000000 in
theorem unsealI (s : ByteArray) (w : World) (hs : s.size ≤ 1048576) (hT : TabP w) :
    Calls Tryd.prog 25 #[.string s] w fun e w' => e = .returned (.tuple #[.string (hdO s), .bool (whO s)]) ∧ Below w.heap.size w w' := by
  have LX := fun w' => Tryd.strings_LastIndexByte s 32 (by omega) w'
  rcases lix_cases s with ⟨e, h0⟩ | ⟨i, e, h0, hi⟩
  all_goals
    have hh : hdO s = s.extract 0 (lbk s) := rfl
    rw [h0] at hh
    rw [e] at LX
    have hz : (hdO s).size ≤ 1048576 := by rw [hh, ByteArray.size_extract]; omega
    have SE := hide (sealI (hdO s) w hz hT)
    unfold whO
    obtain ⟨Y, hY⟩ : ∃ Y, seB (hdO s) = Y := ⟨_, rfl⟩
    obtain ⟨Hd, hHd⟩ : ∃ Hd, hdO s = Hd := ⟨_, rfl⟩
    rw [hY] at SE ⊢
    rw [hHd] at SE hh ⊢
    replace LX := hide LX
    have hh2 := hh.symm
    have hh3 : s.extract 0 (max (0 : Int) (-1)).toNat = s.extract 0 0 := rfl
    clear hY hHd hz hT hh h0 e
    first
    | rw [hh2] at hh3
    | clear hh3
    go_enter Tryd.func25, Tryd.ntmps25
    go_wp2_with fail
    refine (LX.out _).mono ?_
    rintro e w' ⟨rfl, hw⟩
    replace hw := hw.symm
    subst hw
    clear LX
    go_wp2_with fail
    refine SE.out.mono ?_
    rintro e w2 ⟨rfl, hb2⟩
    clear SE hh2
    go_wp2
    go_ret2
    exact ⟨by rw [← beq_ba]; rfl, hb2⟩

def bdO (s : ByteArray) : ByteArray := if whO s = true then hdO s else ⟨#[]⟩
theorem bd_no {s : ByteArray} (h : whO s = false) : bdO s = ⟨#[]⟩ := by unfold bdO; rw [h]; rfl
theorem bd_yes {s : ByteArray} (h : whO s = true) : bdO s = hdO s := by unfold bdO; rw [if_pos h]
theorem last_at2 (s : ByteArray) (h : 0 < s.size) : s.data.toList.getLast? = some s[s.size - 1] := by
  rw [List.getLast?_eq_getElem?, ← sz_list, List.getElem?_eq_getElem (by rw [← sz_list]; omega)]; rfl

set_option maxRecDepth 100000 in
set_option maxHeartbeats 4000000 in
theorem bodyS (s : ByteArray) (w : World) (hs : s.size ≤ 1048576) :
    Calls Tryd.prog 20 #[.string s] w fun e w' => e = .returned (.tuple #[.string (bdO s), .bool (whO s)]) ∧ Below w.heap.size w w' := by
  by_cases h0 : s.size = 0
  · have he : s.data.toList = [] := List.eq_nil_of_length_eq_zero (by rw [← sz_list]; exact h0)
    have hw : whO s = false := wh_end (by rw [he]; simp)
    rw [bd_no hw, hw]
    go_enter Tryd.func20, Tryd.ntmps20
    go_wp2
    go_ret2
    exact ⟨rfl, Below.refl _ _⟩
  · have hp : 0 < s.size := Nat.pos_of_ne_zero h0
    by_cases hl : s[s.size - 1].toNat = 10
    · have hq : ((s[s.size - 1].toNat : Int) != 10) = false := by rw [hl]; rfl
      go_enter Tryd.func20, Tryd.ntmps20
      go_wp2
      go_loopw [5] (fun x wr => ∃ k : Int, x = .int .i64 k ∧ -1 ≤ k ∧ k < s.size ∧ wr = w ∧ Hid (∀ j (hj : j < s.size), k < (j : Int) → s[j].toNat ≠ 32)) (fun x _ => (intOf x + 1).toNat)
      case atStart => exact ⟨(s.size : Int) - 1, rfl, by omega, by omega, rfl, hide (fun j hj h => by omega)⟩
      case round =>
        obtain ⟨k, rfl, hk1, hk2, rfl, HN⟩ := hrel
        by_cases hneg : k < 0
        · obtain rfl : k = -1 := by omega
          have hw : whO s = false := wh_blank (fun j hj => HN.out j hj (by omega))
          replace hw := hide hw
          go_wp2
          go_ret2
          rw [bd_no hw.out, hw.out]
          exact ⟨rfl, Below.refl _ _⟩
        · obtain ⟨K, rfl⟩ : ∃ K : Nat, k = K := ⟨k.toNat, by omega⟩
          have hK : K < s.size := by omega
          by_cases h32 : s[K].toNat = 32
          · have hq2 : ((s[K].toNat : Int) != 32) = false := by rw [h32]; rfl
            have hlx : Lib.lastIndexByte s 32 = K := lbk_is hK h32 (fun j hj hj2 => HN.out j hj (by omega))
            have hh : hdO s = s.extract 0 K := by unfold hdO lbk; rw [hlx]; rfl
            have hz : (s.extract 0 K).size ≤ 1048576 := by rw [ByteArray.size_extract]; omega
            have SE := fun w' => sealS (s.extract 0 K) w' hz
            obtain ⟨Hd, hHd⟩ : ∃ Hd, s.extract 0 K = Hd := ⟨_, rfl⟩
            rw [hHd] at SE hh
            obtain ⟨Y, hY⟩ : ∃ Y, seB Hd = Y := ⟨_, rfl⟩
            rw [hY] at SE
            have hwh : whO s = decide (s = Y) := by unfold whO; rw [hh, hY]
            replace SE := hide SE
            have HH := hide hh
            clear hlx hh hz hY HN h32
            by_cases hsy : s = Y
            · rw [decide_eq_true hsy] at hwh
              have HW := hide hwh
              clear hwh
              have hb : (Y.toList == s.toList) = true := by rw [beq_ba]; exact decide_eq_true hsy.symm
              have hb2 : (Y.toList != s.toList) = false := by rw [bne, hb]; rfl
              clear hsy
              go_wp2_with fail
              refine (SE.out _).mono ?_
              rintro e w2 ⟨rfl, hbl⟩
              go_wp2
              go_ret2
              rw [bd_yes HW.out, HW.out, HH.out]
              exact ⟨rfl, hbl⟩
            · rw [decide_eq_false hsy] at hwh
              have HW := hide hwh
              clear hwh
              have hb : (Y.toList == s.toList) = false := by rw [beq_ba]; exact decide_eq_false (fun c => hsy c.symm)
              have hb2 : (Y.toList != s.toList) = true := by rw [bne, hb]; rfl
              clear hsy
              go_wp2_with fail
              refine (SE.out _).mono ?_
              rintro e w2 ⟨rfl, hbl⟩
              go_wp2
              go_ret2
              rw [bd_no HW.out, HW.out]
              exact ⟨rfl, hbl⟩
          · have hq2 : ((s[K].toNat : Int) != 32) = true := by simp; omega
            go_wp2
            go_roundw
            case rel => exact ⟨(K : Int) - 1, rfl, by omega, by omega, by trivial, hide (fun j hj hj2 => by
              by_cases c : (K : Int) < j
              · exact HN.out j hj c
              · obtain rfl : j = K := by omega
                exact h32)⟩
            case measure => first | (simp [intOf]; done) | (simp [intOf]; omega)
    · have hw : whO s = false := wh_end (by
        rw [last_at2 s hp]
        intro c
        have c2 : s[s.size - 1] = 10 := by injection c
        exact hl (by rw [c2]; rfl))
      have hq : ((s[s.size - 1].toNat : Int) != 10) = true := by simp; omega
      rw [bd_no hw, hw]
      go_enter Tryd.func20, Tryd.ntmps20
      go_wp2
      go_ret2
      exact ⟨rfl, Below.refl _ _⟩

end Go.Proofs.YtmjehpigfkobeabDoor
