/- The contracts of CountOf, of the model's and of the program's; its law. -/
import Derived.Test.YtbmnciejaknonaaDoorWalks5
import Derived.Test.YtbmnciejaknonaaDoorShelf
namespace Go.Proofs.YtbmnciejaknonaaDoor
open Go.RowKit
open Doc1

/-- Names of elements. -/
def nameB (m : ByteArray) : Bool := match m.data.toList with | [c] => opB c | _ => false
theorem name_one (m : ByteArray) (h : m.size = 1) : ∃ c, m = ⟨#[c]⟩ := by
  obtain ⟨a⟩ := m
  have h1 : a.size = 1 := h
  obtain ⟨l⟩ := a
  match l, h1 with
  | [c], _ => exact ⟨c, rfl⟩
theorem name_no (m : ByteArray) (h : m.size ≠ 1) : nameB m = false := by
  unfold nameB
  split
  · rename_i c hc
    have : m.data.toList.length = 1 := by rw [hc]; rfl
    exact absurd (by simpa using this) h
  · rfl

set_option maxHeartbeats 400000 in
theorem l1Name_any (m : ByteArray) (w : World) :
    Calls Tryd.prog 77 #[.string m] w fun e w' => e = .returned (.bool (nameB m)) ∧ w' = w := by
  by_cases h : m.size = 1
  · obtain ⟨c, rfl⟩ := name_one m h
    show Calls Tryd.prog 77 #[.string ⟨#[c]⟩] w fun e w' => e = .returned (.bool (opB c)) ∧ w' = w
    clear h
    have H := hide (l1Open_any c w)
    go_enter Tryd.func77, Tryd.ntmps77
    go_wp2_with (go_at_call 66; refine H.out.mono ?_; rintro e w' ⟨rfl, hw⟩; replace hw := hw.symm; subst hw)
    go_ret
    exact ⟨rfl, rfl⟩
  · rw [name_no m h]
    have h' : ((m.size : Int) == 1) = false := by simp; omega
    clear h
    go_enter Tryd.func77, Tryd.ntmps77
    go_wp2
    go_ret
    exact ⟨rfl, rfl⟩

set_option maxHeartbeats 400000 in
theorem isName_any (m : ByteArray) (w : World) (hT : Tab w) :
    Calls Tryd.prog 75 #[.string m] w fun e w' => e = .returned (.bool (nameB m)) ∧ w' = w := by
  by_cases h : m.size = 1
  · obtain ⟨c, rfl⟩ := name_one m h
    show Calls Tryd.prog 75 #[.string ⟨#[c]⟩] w fun e w' => e = .returned (.bool (opB c)) ∧ w' = w
    rw [← kd_op]
    clear h
    have H := hide (kindOf_any c w hT)
    clear hT
    go_enter Tryd.func75, Tryd.ntmps75
    go_wp2_with (go_at_call 59; refine H.out.mono ?_; rintro e w' ⟨rfl, hw⟩; replace hw := hw.symm; subst hw)
    go_ret
    exact ⟨rfl, rfl⟩
  · rw [name_no m h]
    have h' : ((m.size : Int) == 1) = false := by simp; omega
    clear h hT
    go_enter Tryd.func75, Tryd.ntmps75
    go_wp2
    go_ret
    exact ⟨rfl, rfl⟩

/-- What CountOf tells. -/
inductive CN (s : ByteArray) : ByteArray → Int → Bool → Prop
  | nodoc (m : ByteArray) (h : doc s.data.toList = false) : CN s m 0 false
  | noname (m : ByteArray) (h : doc s.data.toList = true) (h2 : nameB m = false) : CN s m 0 false
  | yes (c : UInt8) (h : doc s.data.toList = true) (h2 : opB c = true) : CN s ⟨#[c]⟩ (Lib.countByte s.data.toList c) true
theorem cn_ex (s m : ByteArray) : ∃ x b, CN s m x b := by
  by_cases hd : doc s.data.toList = true
  · by_cases hn : nameB m = true
    · have h1 : m.size = 1 := Classical.byContradiction fun h => by rw [name_no m h] at hn; cases hn
      obtain ⟨c, rfl⟩ := name_one m h1
      exact ⟨_, _, .yes c hd hn⟩
    · exact ⟨_, _, .noname m hd (by simpa using hn)⟩
  · exact ⟨_, _, .nodoc m (by simpa using hd)⟩

theorem count_snoc (l : List UInt8) (c d : UInt8) : Lib.countByte (l ++ [d]) c = Lib.countByte l c + if d = c then 1 else 0 := by
  unfold Lib.countByte
  rw [List.count_append]
  by_cases h : d = c
  · subst h; simp
  · simp [h]
theorem val_i {x y : Int} (h : x = y) : Value.int .i64 x = .int .i64 y := by rw [h]
theorem count_le (l : List UInt8) (c : UInt8) : Lib.countByte l c ≤ l.length := List.count_le_length
theorem count_hit (s : ByteArray) (c : UInt8) (k : Nat) (hk : k < s.size) (h : ((s[k].toNat : Int) == (c.toNat : Int)) = true) : Lib.countByte (s.data.toList.take (k + 1)) c = Lib.countByte (s.data.toList.take k) c + 1 := by
  rw [take_snoc s k hk, count_snoc, if_pos]
  simp at h
  exact UInt8.toNat_inj.1 (by omega)
theorem count_miss (s : ByteArray) (c : UInt8) (k : Nat) (hk : k < s.size) (h : ((s[k].toNat : Int) == (c.toNat : Int)) = false) : Lib.countByte (s.data.toList.take (k + 1)) c = Lib.countByte (s.data.toList.take k) c := by
  rw [take_snoc s k hk, count_snoc, if_neg]
  · rfl
  · intro e; rw [e] at h; simp at h

set_option maxHeartbeats 1000000 in
theorem countS_any (s m : ByteArray) (x : Int) (b : Bool) (w : World) (hs : s.size ≤ 1048576) (h : CN s m x b) :
    Calls Tryd.prog 25 #[.string s, .string m] w fun e w' => e = .returned (.tuple #[.int .i64 x, .bool b]) ∧ Below w.heap.size w w' := by
  have H1 := goodDocS_any s w hs
  cases h with
  | nodoc _ hd =>
    rw [hd] at H1
    replace H1 := hide H1
    go_enter Tryd.func25, Tryd.ntmps25
    go_wp2_with (go_at_call 15; refine H1.out.mono ?_; rintro e w' ⟨rfl, hw⟩; replace hw := hw.symm; subst hw)
    go_ret2
    exact ⟨rfl, Below.refl _ _⟩
  | noname _ hd hn =>
    rw [hd] at H1
    replace H1 := hide H1
    have H2 := l1Name_any m w
    rw [hn] at H2
    replace H2 := hide H2
    clear hd hn
    go_enter Tryd.func25, Tryd.ntmps25
    go_wp2_with (first | (go_at_call 15; refine H1.out.mono ?_; rintro e w' ⟨rfl, hw⟩; replace hw := hw.symm; subst hw) | (go_at_call 77; refine H2.out.mono ?_; rintro e w' ⟨rfl, hw⟩; replace hw := hw.symm; subst hw))
    go_ret2
    exact ⟨rfl, Below.refl _ _⟩
  | yes c hd hc =>
    rw [hd] at H1
    replace H1 := hide H1
    have H2 : Calls Tryd.prog 77 #[.string ⟨#[c]⟩] w fun e w' => e = .returned (.bool (opB c)) ∧ w' = w := l1Name_any ⟨#[c]⟩ w
    rw [hc] at H2
    replace H2 := hide H2
    clear hd hc
    go_enter Tryd.func25, Tryd.ntmps25
    go_wp2_with (first | (go_at_call 15; refine H1.out.mono ?_; rintro e w' ⟨rfl, hw⟩; replace hw := hw.symm; subst hw) | (go_at_call 77; refine H2.out.mono ?_; rintro e w' ⟨rfl, hw⟩; replace hw := hw.symm; subst hw))
    clear H1 H2
    go_loopw [6, 7] (fun n i wr => ∃ k : Nat, k ≤ s.size ∧ i = .int .i64 k ∧ n = .int .i64 (Lib.countByte (s.data.toList.take k) c) ∧ Below w.heap.size w wr) (fun _ i _ => s.size - (intOf i).toNat)
    case atStart => exact ⟨0, Nat.zero_le _, rfl, rfl, Below.refl _ _⟩
    case round =>
      obtain ⟨k, hk, rfl, rfl, hb⟩ := hrel
      have hcl : Lib.countByte (s.data.toList.take k) c ≤ 1048576 := by
        have h1 := count_le (s.data.toList.take k) c
        have h2 := List.length_take_le k s.data.toList
        omega
      by_cases hlt : k < s.size
      · have HH := hide (count_hit s c k hlt)
        have HM := hide (count_miss s c k hlt)
        go_wp2
        go_quiet (fail)
        go_wp2
        · have e := HH.out (by rename_i h; exact h)
          have E := hide e
          clear e
          go_roundw
          case rel => exact ⟨k + 1, by omega, by go_num, val_i (by rw [E.out]; omega), below_drewN hb _⟩
          case measure => simp [intOf]; omega
        · have e := HM.out (by rename_i h; exact h)
          have E := hide e
          clear e
          go_roundw
          case rel => exact ⟨k + 1, by omega, by go_num, val_i (by rw [E.out]), below_drewN hb _⟩
          case measure => simp [intOf]; omega
      · go_wp2
        go_ret2
        exact ⟨ret_tup (by rw [List.take_of_length_le (by simp; omega)]) rfl, hb⟩

set_option maxHeartbeats 1000000 in
theorem countI_any (s m : ByteArray) (x : Int) (b : Bool) (w : World) (hs : s.size ≤ 1048576) (hT : Tab w) (h : CN s m x b) :
    Calls Tryd.prog 24 #[.string s, .string m] w fun e w' => e = .returned (.tuple #[.int .i64 x, .bool b]) ∧ Below w.heap.size w w' := by
  have H1 := goodDocI_any s w hs hT
  cases h with
  | nodoc _ hd =>
    rw [hd] at H1
    replace H1 := hide H1
    clear hT
    go_enter Tryd.func24, Tryd.ntmps24
    go_wp2_with (go_at_call 14; refine H1.out.mono ?_; rintro e w' ⟨rfl, hb⟩)
    go_ret2
    exact ⟨rfl, hb⟩
  | noname _ hd hn =>
    rw [hd] at H1
    replace H1 := hide H1
    have H2 : ∀ w1 : World, Tab w1 → Calls Tryd.prog 75 #[.string m] w1 fun e w' => e = .returned (.bool false) ∧ w' = w1 := fun w1 h => by
      have := isName_any m w1 h
      rw [hn] at this
      exact this
    replace H2 := hide H2
    clear hd hn
    go_enter Tryd.func24, Tryd.ntmps24
    go_wp2_with (first | (go_at_call 14; refine H1.out.mono ?_; rintro e w' ⟨rfl, hb⟩; have hT2 := hide (hT.below hb)) | (go_at_call 75; refine (H2.out _ hT2.out).mono ?_; rintro e w' ⟨rfl, hw⟩; replace hw := hw.symm; subst hw))
    go_ret2
    exact ⟨rfl, hb⟩
  | yes c hd hc =>
    rw [hd] at H1
    replace H1 := hide H1
    have H2 : ∀ w1 : World, Tab w1 → Calls Tryd.prog 75 #[.string ⟨#[c]⟩] w1 fun e w' => e = .returned (.bool true) ∧ w' = w1 := fun w1 h => by
      have e : nameB ⟨#[c]⟩ = opB c := rfl
      have := isName_any ⟨#[c]⟩ w1 h
      rw [e, hc] at this
      exact this
    replace H2 := hide H2
    have H3 := hide (fun w1 : World => Tryd.strings_Count_one s c w1)
    clear hd hc
    go_enter Tryd.func24, Tryd.ntmps24
    go_wp2_with (first | (go_at_call 14; refine H1.out.mono ?_; rintro e w' ⟨rfl, hb⟩; have hT2 := hide (hT.below hb)) | (go_at_call 75; refine (H2.out _ hT2.out).mono ?_; rintro e w' ⟨rfl, hw⟩; replace hw := hw.symm; subst hw) | (go_at_call 76; refine (H3.out _).mono ?_; rintro e w' ⟨rfl, hw⟩; replace hw := hw.symm; subst hw))
    go_ret2
    exact ⟨rfl, hb⟩

end Go.Proofs.YtbmnciejaknonaaDoor
