/- The law of PlaceOf: whatever the text and the path, it answers true and turns nothing old. -/
import Derived.Test.YtbmnciejaknonatDoorPlaceW2
import Derived.Test.YtbmnciejaknonatDoorInts2
namespace Go.Proofs.YtbmnciejaknonatDoor
open Go.RowKit
open Doc1

set_option maxHeartbeats 1000000 in
theorem placeI_no (s : ByteArray) (p : List Int) (gp cp : Nat) (w : World) (hs : s.size ≤ 1048576) (hT : Tab w) (hd : doc s.data.toList = false) :
    Calls Tryd.prog 23 #[.string s, .slice (some ⟨gp, 0, none⟩) p.length cp] w fun e w' => e = .returned (.tuple #[.int .i64 0, .bool false]) ∧ Below w.heap.size w w' := by
  have G := goodDocI_any s w hs hT
  rw [hd] at G
  replace G := hide G
  clear hd
  go_enter Tryd.func23, Tryd.ntmps23
  go_wp2_with (go_at_call 40; refine G.out.mono ?_; rintro e w1 ⟨rfl, hb1⟩)
  go_ret2
  exact ⟨rfl, hb1⟩
set_option maxHeartbeats 1000000 in
theorem placeS_no (s : ByteArray) (p : List Int) (gp cp : Nat) (w : World) (hs : s.size ≤ 1048576) (hd : doc s.data.toList = false) :
    Calls Tryd.prog 21 #[.string s, .slice (some ⟨gp, 0, none⟩) p.length cp] w fun e w' => e = .returned (.tuple #[.int .i64 0, .bool false]) ∧ Below w.heap.size w w' := by
  have G := goodDocS_any s w hs
  rw [hd] at G
  replace G := hide G
  clear hd
  go_enter Tryd.func21, Tryd.ntmps21
  go_wp2_with (go_at_call 32; refine G.out.mono ?_; rintro e w' ⟨rfl, hw⟩; replace hw := hw.symm; subst hw)
  go_ret2
  exact ⟨rfl, Below.refl _ _⟩
set_option maxHeartbeats 1000000 in
theorem placeS_nil (s : ByteArray) (gp cp : Nat) (w : World) (hs : s.size ≤ 1048576) (hd : doc s.data.toList = true) :
    Calls Tryd.prog 21 #[.string s, .slice (some ⟨gp, 0, none⟩) 0 cp] w fun e w' => e = .returned (.tuple #[.int .i64 0, .bool false]) ∧ Below w.heap.size w w' := by
  have G := goodDocS_any s w hs
  rw [hd] at G
  replace G := hide G
  clear hd
  go_enter Tryd.func21, Tryd.ntmps21
  go_wp2_with (go_at_call 32; refine G.out.mono ?_; rintro e w' ⟨rfl, hw⟩; replace hw := hw.symm; subst hw)
  go_ret2
  exact ⟨rfl, Below.refl _ _⟩
/-- Both answer alike. -/
theorem place_both (s : ByteArray) (p : List Int) (hs : s.size ≤ 1048576) (hpl : p.length ≤ 2000000) (hpr : ∀ j (h : j < p.length), -9223372036854775808 ≤ p[j] ∧ p[j] ≤ 9223372036854775807) :
    ∃ (x : Nat) (b : Bool), (∀ (w : World) (gp : Nat), IAt w gp p → gp < w.heap.size → Calls Tryd.prog 21 #[.string s, .slice (some ⟨gp, 0, none⟩) p.length p.length] w fun e w' => e = .returned (.tuple #[.int .i64 x, .bool b]) ∧ Below w.heap.size w w') ∧
      (∀ (w : World) (gp : Nat), Tab w → IAt w gp p → gp < w.heap.size → Calls Tryd.prog 23 #[.string s, .slice (some ⟨gp, 0, none⟩) p.length p.length] w fun e w' => e = .returned (.tuple #[.int .i64 x, .bool b]) ∧ Below w.heap.size w w') := by
  have hcp : p.length ≤ p.length ∧ p.length ≤ maxLen := ⟨Nat.le_refl _, by unfold maxLen; omega⟩
  cases hd : doc s.data.toList with
  | false => exact ⟨0, false, fun w gp _ _ => placeS_no s p gp _ w hs hd, fun w gp hT _ _ => placeI_no s p gp _ w hs hT hd⟩
  | true =>
    obtain ⟨fo, hf⟩ := leads_ex s hd p
    refine ⟨fo.getD 0, fo.isSome, fun w gp h1 h2 => ?_, fun w gp hT h1 h2 => placeI_yes s p gp _ fo w hs hT hd hf h1 h2 hpl hcp⟩
    by_cases h0 : 0 < p.length
    · exact placeS_yes s p gp _ fo w hs hd hf h1 h2 hpl hcp h0 hpr
    · have hp : p = [] := List.eq_nil_of_length_eq_zero (by omega)
      have hno : fo = none := by
        cases h : fo with
        | none => rfl
        | some n =>
          have := (hf.is n (hf.le n h)).2 h
          rw [hp] at this
          exact absurd this (path_ne _ _)
      subst hp hno
      exact placeS_nil s gp _ w hs hd

set_option maxHeartbeats 2000000 in
theorem law_placeOf (s : ByteArray) (v : Value) (p : List Int) (w : World) (hm : s.size ≤ maxLen) (ha : ArgI w v p) (hpr : ∀ j (h : j < p.length), -9223372036854775808 ≤ p[j] ∧ p[j] ≤ 9223372036854775807) (hT : Tab w) :
    Calls Tryd.prog 6 #[.string s, v] w fun e w' => e = .returned (.bool true) ∧ Below w.heap.size w w' := by
  unfold maxLen at hm
  have hv : ∃ a cap, v = .slice a p.length cap ∧ p.length ≤ 9223372036854775807 := by
    cases ha with
    | nil a cap => exact ⟨a, cap, rfl, by simp⟩
    | row b off cap p h1 h2 h3 h4 h5 => exact ⟨_, cap, rfl, by unfold maxLen at h4; omega⟩
  by_cases hs : s.size ≤ 1048576
  · by_cases hl : p.length ≤ 1048576
    · obtain ⟨x, b, HS, HI⟩ := place_both s p hs (by omega) hpr
      replace HS := hide HS
      replace HI := hide HI
      have T : Hid (∀ w, ArgI w v p → Calls Tryd.prog 22 #[v] w fun e w' => e = .returned (.slice (some ⟨w.heap.size, 0, none⟩) p.length p.length) ∧ w.heap.size < w'.heap.size ∧ IAt w' w.heap.size p ∧ IBlk w' w.heap.size p.length ∧ Below w.heap.size w w') := hide (fun w h => toIntS_any v p w h (by omega))
      have HA := hide ha
      have hcp : p.length ≤ p.length ∧ p.length ≤ maxLen := ⟨Nat.le_refl _, by unfold maxLen; omega⟩
      clear ha hpr
      obtain ⟨a0, cap0, rfl, hpl⟩ := hv
      go_enter Tryd.func6, Tryd.ntmps6
      go_wp2_with fail
      refine (T.out _ HA.out).mono ?_
      rintro e w1 ⟨rfl, k1, n1, -, hb1⟩
      go_wp2_with fail
      refine (HS.out _ _ n1 k1).mono ?_
      rintro e w2 ⟨rfl, hb2⟩
      have hB2 := hb1.trans (hb2.mono hb1.size)
      clear n1 hb2
      go_wp2_with fail
      refine (T.out _ (HA.out.later hB2)).mono ?_
      rintro e w3 ⟨rfl, k3, n3, -, hb3⟩
      have hB3 := hB2.trans (hb3.mono hB2.size)
      go_wp2_with fail
      refine (HI.out _ _ (hT.below hB3) n3 k3).mono ?_
      rintro e w4 ⟨rfl, hb4⟩
      have hB4 := hB3.trans (hb4.mono hB3.size)
      have n4 := n3.later hb4 k3
      have k4 := Nat.lt_of_lt_of_le k3 hb4.size
      clear n3 hb4 hB3
      go_wp2_with fail
      refine (T.out _ (HA.out.later hB4)).mono ?_
      rintro e w5 ⟨rfl, k5, n5, -, hb5⟩
      have hB5 := hB4.trans (hb5.mono hB4.size)
      have n4' := n4.later hb5 k4
      have k4' := Nat.lt_of_lt_of_le k4 hb5.size
      go_wp2_with fail
      refine (eqIntS_at _ _ _ _ p w5 (by omega) hcp hcp n4' n5 k4' k5).mono ?_
      rintro e w6 ⟨rfl, hb6⟩
      have hB6 := hB5.trans (hb6.mono hB5.size)
      clear n4 n4' n5
      go_wp2
      go_ret
      exact ⟨rfl, hB6⟩
    · obtain ⟨a0, cap0, rfl, hpl⟩ := hv
      clear ha hpr
      go_enter Tryd.func6, Tryd.ntmps6
      go_wp2
      go_ret
      exact ⟨rfl, Below.refl _ _⟩
  · obtain ⟨a0, cap0, rfl, hpl⟩ := hv
    clear ha hpr
    go_enter Tryd.func6, Tryd.ntmps6
    go_wp2
    go_ret
    exact ⟨rfl, Below.refl _ _⟩
end Go.Proofs.YtbmnciejaknonatDoor
