/- RowOf, of the model and of the program. -/
import Derived.Test.YtknodkdlphngmayDoorRowS1
import Derived.Test.YtknodkdlphngmayDoorRowW1
namespace Go.Proofs.YtknodkdlphngmayDoor
open Go.RowKit
open Doc1

theorem doc_300 {s : ByteArray} (h : doc s.data.toList = true) : s.size ≤ 300 := by
  unfold doc good at h
  simp only [Bool.and_eq_true, decide_eq_true_eq] at h
  exact h.1.2
/-- What is asked, told apart. -/
inductive RC (s : ByteArray) (a : Int) : List UInt8 → Bool → Prop
  | bad : doc s.data.toList = false → RC s a [] false
  | low : doc s.data.toList = true → a < -1 → RC s a [] false
  | high : doc s.data.toList = true → (s.size : Int) ≤ a → RC s a [] false
  | whole : doc s.data.toList = true → a = -1 → RC s a (rowF s.data.toList 0 false) true
  | none (n : Nat) (h : n < s.size) : doc s.data.toList = true → a = n → opB s[n] = false → RC s a [] false
  | elem (n K : Nat) (h : n < s.size) : doc s.data.toList = true → a = n → opB s[n] = true → IsEnd s n K → RC s a (rowF ((s.data.toList.drop (n + 1)).take (K - (n + 1))) 0 false) true
theorem rc_ex (s : ByteArray) (a : Int) : ∃ T b, RC s a T b := by
  cases hd : doc s.data.toList with
  | false => exact ⟨_, _, .bad hd⟩
  | true =>
    by_cases h1 : a < -1
    · exact ⟨_, _, .low hd h1⟩
    · by_cases h2 : (s.size : Int) ≤ a
      · exact ⟨_, _, .high hd h2⟩
      · by_cases h3 : a = -1
        · exact ⟨_, _, .whole hd h3⟩
        · obtain ⟨n, rfl⟩ : ∃ n : Nat, a = n := ⟨a.toNat, by omega⟩
          have hn : n < s.size := by omega
          cases ho : opB s[n] with
          | false => exact ⟨_, _, .none n hn hd rfl ho⟩
          | true =>
            obtain ⟨K, hK⟩ := end_ex s hd n hn (dl_is_op ho)
            exact ⟨_, _, .elem n K hn hd rfl ho hK⟩
theorem ext_list (s : ByteArray) (a b : Nat) : (s.extract a b).data.toList = (s.data.toList.drop a).take (b - a) := by
  rw [ByteArray.data_extract, Array.toList_extract, List.extract_eq_take_drop]

set_option maxRecDepth 100000 in
set_option maxHeartbeats 8000000 in
theorem rowS (s : ByteArray) (a : Int) (T : List UInt8) (b : Bool) (hc : RC s a T b) (hs : s.size ≤ 1048576) (w : World) :
    Calls Tryd.prog 13 #[.string s, .int .i64 a] w fun e w' => e = .returned (.tuple #[.string ⟨T.toArray⟩, .bool b]) ∧ Below w.heap.size w w' := by
  have G := goodDocS_any s w hs
  cases hc with
  | bad hd =>
    rw [hd] at G
    replace G := hide G
    go_enter Tryd.func13, Tryd.ntmps13
    go_wp2_with (go_at_call 27; refine G.out.mono ?_; rintro e w' ⟨rfl, hw⟩; replace hw := hw.symm; subst hw)
    go_ret2
    exact ⟨rfl, Below.refl _ _⟩
  | low hd h1 =>
    rw [hd] at G
    replace G := hide G
    go_enter Tryd.func13, Tryd.ntmps13
    go_wp2_with (go_at_call 27; refine G.out.mono ?_; rintro e w' ⟨rfl, hw⟩; replace hw := hw.symm; subst hw)
    go_ret2
    exact ⟨rfl, Below.refl _ _⟩
  | high hd h1 =>
    rw [hd] at G
    replace G := hide G
    have h2 : -1 ≤ a := by omega
    go_enter Tryd.func13, Tryd.ntmps13
    go_wp2_with (go_at_call 27; refine G.out.mono ?_; rintro e w' ⟨rfl, hw⟩; replace hw := hw.symm; subst hw)
    go_ret2
    exact ⟨rfl, Below.refl _ _⟩
  | whole hd h1 =>
    rw [hd] at G
    replace G := hide G
    have R := hide (l7Row_any s w hd (doc_300 hd))
    subst h1
    have hs0 : (-1 : Int) < (s.size : Int) := by omega
    go_enter Tryd.func13, Tryd.ntmps13
    go_wp2_with (first | (go_at_call 27; refine G.out.mono ?_; rintro e w' ⟨rfl, hw⟩; replace hw := hw.symm; subst hw) | (go_at_call 29; refine R.out.mono ?_; rintro e w1 ⟨rfl, hb1⟩))
    go_ret2
    exact ⟨rfl, hb1⟩
  | none n hn hd h1 ho =>
    rw [hd] at G
    replace G := hide G
    subst h1
    have O := fun w => l1Open_any s[n] w
    rw [ho] at O
    replace O := hide O
    go_enter Tryd.func13, Tryd.ntmps13
    go_wp2_with (first | (go_at_call 27; refine G.out.mono ?_; rintro e w' ⟨rfl, hw⟩; replace hw := hw.symm; subst hw) | (go_at_call 28; refine (O.out _).mono ?_; rintro e w' ⟨rfl, hw⟩; replace hw := hw.symm; subst hw))
    go_ret2
    exact ⟨rfl, Below.refl _ _⟩
  | elem n K hn hd h1 ho hK =>
    rw [hd] at G
    replace G := hide G
    subst h1
    have O := fun w => l1Open_any s[n] w
    rw [ho] at O
    replace O := hide O
    have hlo := hK.lo
    have hhi := hK.hi
    have h300 := doc_300 hd
    have M := hide (fun wx => l1Match_end s n K wx (by omega) hK hn ho)
    have R0 := l7Row_any (s.extract (n + 1) K) w (doc_inner3 hd hK ho) (by rw [ByteArray.size_extract]; omega)
    rw [ext_list s (n + 1) K] at R0
    have R := hide R0
    clear R0
    clear hK ho hd
    go_enter Tryd.func13, Tryd.ntmps13
    go_wp2_with (first | (go_at_call 27; refine G.out.mono ?_; rintro e w' ⟨rfl, hw⟩; replace hw := hw.symm; subst hw) | (go_at_call 28; refine (O.out _).mono ?_; rintro e w' ⟨rfl, hw⟩; replace hw := hw.symm; subst hw) | (go_at_call 30; refine (M.out _).mono ?_; rintro e w' ⟨rfl, hw⟩; replace hw := hw.symm; subst hw) | (go_at_call 29; refine R.out.mono ?_; rintro e w1 ⟨rfl, hb1⟩))
    go_ret2
    exact ⟨rfl, hb1⟩

set_option maxRecDepth 100000 in
set_option maxHeartbeats 8000000 in
theorem rowI (s : ByteArray) (a : Int) (T : List UInt8) (b : Bool) (hc : RC s a T b) (hs : s.size ≤ 1048576) (w : World) (hT : Tab w) :
    Calls Tryd.prog 14 #[.string s, .int .i64 a] w fun e w' => e = .returned (.tuple #[.string ⟨T.toArray⟩, .bool b]) ∧ Below w.heap.size w w' := by
  cases hc with
  | bad hd =>
    have D := hide (depthsOf_no s w hs hT hd)
    go_enter Tryd.func14, Tryd.ntmps14
    go_wp2_with (go_at_call 31; refine D.out.mono ?_; rintro e w1 ⟨rfl, hb1⟩)
    go_ret2
    exact ⟨rfl, hb1⟩
  | low hd h1 =>
    have D := hide (depthsOf_yes s w hs hT hd)
    go_enter Tryd.func14, Tryd.ntmps14
    go_wp2_with (go_at_call 31; refine D.out.mono ?_; rintro e w1 ⟨g, cap, rfl, hcp, hb1, hcl⟩)
    go_ret2
    exact ⟨rfl, hb1⟩
  | high hd h1 =>
    have D := hide (depthsOf_yes s w hs hT hd)
    have h2 : -1 ≤ a := by omega
    go_enter Tryd.func14, Tryd.ntmps14
    go_wp2_with (go_at_call 31; refine D.out.mono ?_; rintro e w1 ⟨g, cap, rfl, hcp, hb1, hcl⟩)
    go_ret2
    exact ⟨rfl, hb1⟩
  | whole hd h1 =>
    have D := hide (depthsOf_yes s w hs hT hd)
    have h300 := doc_300 hd
    subst h1
    have hs0 : (-1 : Int) < (s.size : Int) := by omega
    have HR : Hid (∀ w1 g cap, Below w.heap.size w w1 → s.size + 1 ≤ cap ∧ cap ≤ maxLen → (∀ j, j ≤ s.size → w1.cell? ⟨g, j, none⟩ = some (.int .i64 (dep s.data.toList j))) → Calls Tryd.prog 33 #[.string s, .slice (some ⟨g, 0, none⟩) (s.size + 1) cap, .int .i64 (-1)] w1 fun e w' => e = .returned (.string ⟨(rowF s.data.toList 0 false).toArray⟩) ∧ Below w1.heap.size w1 w') := hide (fun w1 g cap hb hcp hcl => by
      have := rowAt_any s (n := 0) (E := s.size) (a := -1) h300 (hT.below hb) hcp (World.block_lt_of_cell? w1 _ (hcl 0 (Nat.zero_le _))) hcl rfl (Nat.zero_le _) (Nat.le_refl _) (fun j _ hj => by rw [dep_zero]; exact (dep_bd s hd j hj).1) (.inl rfl)
      unfold rowR at this
      rw [List.drop_zero, Nat.sub_zero, List.take_of_length_le (by simp), Int.sub_self, prv_zero] at this
      exact this)
    clear hd hT
    go_enter Tryd.func14, Tryd.ntmps14
    go_wp2_with (first | (go_at_call 31; refine D.out.mono ?_; rintro e w1 ⟨g, cap, rfl, hcp, hb1, hcl⟩; have R := hide (HR.out w1 g cap hb1 hcp hcl); clear hcl) | (go_at_call 33; refine R.out.mono ?_; rintro e w2 ⟨rfl, hb2⟩))
    go_ret2
    exact ⟨rfl, hb1.trans (hb2.mono hb1.size)⟩
  | none n hn hd h1 ho =>
    have D := hide (depthsOf_yes s w hs hT hd)
    subst h1
    have k2 : (kd s[n] == 2) = false := by rw [kd_op]; exact ho
    have k2' : (kd s[n] != 2) = true := by unfold bne; rw [k2]; rfl
    have KD := hide (fun w' (hb : Below w.heap.size w w') => kindOf_any s[n] w' (hT.below hb))
    go_enter Tryd.func14, Tryd.ntmps14
    go_wp2_with (first | (go_at_call 31; refine D.out.mono ?_; rintro e w1 ⟨g, cap, rfl, hcp, hb1, hcl⟩; clear hcl) | (go_at_call 32; refine (KD.out _ hb1).mono ?_; rintro e w' ⟨rfl, hw⟩; replace hw := hw.symm; subst hw))
    go_ret2
    exact ⟨rfl, hb1⟩
  | elem n K hn hd h1 ho hK =>
    have D := hide (depthsOf_yes s w hs hT hd)
    have h300 := doc_300 hd
    subst h1
    have hlo := hK.lo
    have hhi := hK.hi
    have k2 : (kd s[n] == 2) = true := by rw [kd_op]; exact ho
    have k2' : (kd s[n] != 2) = false := by unfold bne; rw [k2]; rfl
    have KD := hide (fun w' (hb : Below w.heap.size w w') => kindOf_any s[n] w' (hT.below hb))
    have HR : Hid (∀ w1 g cap, Below w.heap.size w w1 → s.size + 1 ≤ cap ∧ cap ≤ maxLen → (∀ j, j ≤ s.size → w1.cell? ⟨g, j, none⟩ = some (.int .i64 (dep s.data.toList j))) → Calls Tryd.prog 33 #[.string s, .slice (some ⟨g, 0, none⟩) (s.size + 1) cap, .int .i64 (n : Int)] w1 fun e w' => e = .returned (.string ⟨(rowF ((s.data.toList.drop (n + 1)).take (K - (n + 1))) 0 false).toArray⟩) ∧ Below w1.heap.size w1 w') := hide (fun w1 g cap hb hcp hcl => by
      have e1 := dep_succ s n hn
      rw [dl_is_op ho] at e1
      have e2 := hK.at_
      have := rowAt_any s (n := n + 1) (E := K) (a := (n : Int)) h300 (hT.below hb) hcp (World.block_lt_of_cell? w1 _ (hcl 0 (Nat.zero_le _))) hcl (by omega) (by omega) (by omega) (fun j h1 h2 => by have := end_gt hK (dl_is_op ho) j (by omega) h2; omega) (.inr ⟨hhi, by omega⟩)
      unfold rowR at this
      rw [Int.sub_self, prv_succ s n hn, op_not_pl ho] at this
      exact this)
    clear hd hT hK ho
    go_enter Tryd.func14, Tryd.ntmps14
    go_wp2_with (first | (go_at_call 31; refine D.out.mono ?_; rintro e w1 ⟨g, cap, rfl, hcp, hb1, hcl⟩; have R := hide (HR.out w1 g cap hb1 hcp hcl); clear hcl) | (go_at_call 32; refine (KD.out _ hb1).mono ?_; rintro e w' ⟨rfl, hw⟩; replace hw := hw.symm; subst hw) | (go_at_call 33; refine R.out.mono ?_; rintro e w2 ⟨rfl, hb2⟩))
    go_ret2
    exact ⟨rfl, hb1.trans (hb2.mono hb1.size)⟩
end Go.Proofs.YtknodkdlphngmayDoor
