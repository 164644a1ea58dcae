/- The contracts of SafePlace, InnerOf and CountOf, of the model's and of the program's; their laws. -/
import Derived.Test.YtbmnciejaknonaaDoorWalks5
import Derived.Test.YtbmnciejaknonaaDoorShelf
import Derived.Lib.Strings
namespace Go.Proofs.YtbmnciejaknonaaDoor
open Go.RowKit
open Doc1

theorem rn_doc_sub (s : ByteArray) (hd : doc s.data.toList = true) (a b : Nat) : doc (s.extract a b).data.toList = rn (s.extract a b).data.toList 0 := by
  have hg : good (s.extract a b).data.toList = true := by
    have h1 : good s.data.toList = true := by unfold doc at hd; simp at hd; exact hd.1
    unfold good at h1 ⊢
    simp only [Bool.and_eq_true, decide_eq_true_eq] at h1 ⊢
    rw [Lib.extract_data]
    refine ⟨?_, ?_⟩
    · have h2 := h1.1
      unfold allOk at h2 ⊢
      rw [List.all_eq_true] at h2 ⊢
      intro c hc
      exact h2 c (List.mem_of_mem_drop (List.mem_of_mem_take hc))
    · rw [List.length_take, List.length_drop]; omega
  unfold doc
  rw [hg]; rfl

/-- The right answer of SafePlace. -/
inductive SP (s : ByteArray) : Int → Int → Bool → Bool → Prop
  | nodoc (a b : Int) (h : doc s.data.toList = false) : SP s a b false false
  | outA (a b : Int) (h : doc s.data.toList = true) (h2 : ¬ (0 ≤ a ∧ a ≤ s.size)) : SP s a b false false
  | outB (a b : Int) (h : doc s.data.toList = true) (h1 : 0 ≤ a ∧ a ≤ s.size) (h2 : ¬ (a ≤ b ∧ b ≤ s.size)) : SP s a b false false
  | yes (a b : Nat) (h : doc s.data.toList = true) (h1 : a ≤ b) (h2 : b ≤ s.size) : SP s a b (rn (s.extract a b).data.toList 0) true
theorem sp_ex (s : ByteArray) (a b : Int) : ∃ x y, SP s a b x y := by
  by_cases hd : doc s.data.toList = true
  · by_cases h1 : 0 ≤ a ∧ a ≤ s.size
    · by_cases h2 : a ≤ b ∧ b ≤ s.size
      · obtain ⟨n, rfl⟩ : ∃ n : Nat, a = n := ⟨a.toNat, by omega⟩
        obtain ⟨m, rfl⟩ : ∃ m : Nat, b = m := ⟨b.toNat, by omega⟩
        exact ⟨_, _, .yes n m hd (by omega) (by omega)⟩
      · exact ⟨_, _, .outB a b hd h1 h2⟩
    · exact ⟨_, _, .outA a b hd h1⟩
  · exact ⟨_, _, .nodoc a b (by simpa using hd)⟩

set_option maxHeartbeats 1000000 in
theorem safePlaceI_any (s : ByteArray) (a b : Int) (x y : Bool) (w : World) (hs : s.size ≤ 1048576) (hT : Tab w) (h : SP s a b x y) :
    Calls Tryd.prog 17 #[.string s, .int .i64 a, .int .i64 b] w fun e w' => e = .returned (.tuple #[.bool x, .bool y]) ∧ Below w.heap.size w w' := by
  have H1 := goodDocI_any s w hs hT
  cases h with
  | nodoc _ _ hd =>
    rw [hd] at H1
    replace H1 := hide H1
    clear hT
    go_enter Tryd.func17, Tryd.ntmps17
    go_wp2_with (go_at_call 14; refine H1.out.mono ?_; rintro e w' ⟨rfl, hb⟩)
    go_ret2
    exact ⟨rfl, hb⟩
  | outA _ _ hd hr =>
    rw [hd] at H1
    replace H1 := hide H1
    have hr' : a < 0 ∨ (0 ≤ a ∧ b < a) ∨ (0 ≤ a ∧ a ≤ b ∧ (s.size : Int) < b) := by omega
    clear hd hr hT
    rcases hr' with h | ⟨h, h'⟩ | ⟨h, h', h''⟩
    all_goals
      go_enter Tryd.func17, Tryd.ntmps17
      go_wp2_with (go_at_call 14; refine H1.out.mono ?_; rintro e w' ⟨rfl, hb⟩)
      go_ret2
      exact ⟨rfl, hb⟩
  | outB _ _ hd h1 hr =>
    rw [hd] at H1
    replace H1 := hide H1
    have hr' : (0 ≤ a ∧ b < a) ∨ (0 ≤ a ∧ a ≤ b ∧ (s.size : Int) < b) := by omega
    clear hd hr hT h1
    rcases hr' with ⟨h, h'⟩ | ⟨h, h', h''⟩
    all_goals
      go_enter Tryd.func17, Tryd.ntmps17
      go_wp2_with (go_at_call 14; refine H1.out.mono ?_; rintro e w' ⟨rfl, hb⟩)
      go_ret2
      exact ⟨rfl, hb⟩
  | yes n m hd h1 h2 =>
    have H4 : ∀ w1 : World, Tab w1 → Calls Tryd.prog 14 #[.string (s.extract n m)] w1 fun e w' => e = .returned (.bool (rn (s.extract n m).data.toList 0)) ∧ Below w1.heap.size w1 w' := fun w1 h => by
      have := goodDocI_any (s.extract n m) w1 (by rw [ByteArray.size_extract]; omega) h
      rw [rn_doc_sub s hd n m] at this
      exact this
    generalize rn (s.extract n m).data.toList 0 = r at H4 ⊢
    replace H4 := hide H4
    have h0 : (0 : Int) ≤ n := by omega
    rw [hd] at H1
    replace H1 := hide H1
    clear hd
    go_enter Tryd.func17, Tryd.ntmps17
    go_wp2_with fail
    refine H1.out.mono ?_
    rintro e w' ⟨rfl, hb⟩
    have hT2 := hide (hT.below hb)
    go_wp2_with fail
    refine (H4.out _ hT2.out).mono ?_
    rintro e w2 ⟨rfl, hb2⟩
    go_wp2
    go_ret2
    exact ⟨rfl, hb.trans (hb2.mono hb.size)⟩

set_option maxHeartbeats 400000 in
theorem clone_any (s : ByteArray) (w : World) (hs : s.size ≤ 1048576) :
    Calls Tryd.prog 65 #[.string s] w fun e w' => e = .returned (.string s) ∧ Below w.heap.size w w' := by
  have H := hide (Tryd.stringslite_Clone s w (by omega))
  go_enter Tryd.func65, Tryd.ntmps65
  go_wp2_with (go_at_call 109; refine H.out.mono ?_; rintro e w' ⟨rfl, hb⟩)
  go_ret
  exact ⟨rfl, hb⟩

/-- What InnerOf tells. -/
inductive IN (s : ByteArray) : Int → ByteArray → Bool → Prop
  | nodoc (a : Int) (h : doc s.data.toList = false) : IN s a ⟨#[]⟩ false
  | out (a : Int) (h : doc s.data.toList = true) (h2 : a < 0 ∨ (s.size : Int) ≤ a) : IN s a ⟨#[]⟩ false
  | plain (n : Nat) (h : doc s.data.toList = true) (hn : n < s.size) (hp : plB s[n] = true) : IN s n ⟨#[]⟩ false
  | opens (n K : Nat) (h : doc s.data.toList = true) (hn : n < s.size) (hp : opB s[n] = true) (hK : IsEnd s n K) : IN s n (s.extract (n + 1) K) true
  | ends (n K : Nat) (h : doc s.data.toList = true) (hn : n < s.size) (hp : enB s[n] = true) (hK : IsBegin s n K) : IN s n ⟨#[]⟩ false
theorem in_ex (s : ByteArray) (a : Int) : ∃ x b, IN s a x b := by
  obtain ⟨x, b, h⟩ := mt_ex s a
  cases h with
  | nodoc _ h => exact ⟨_, _, .nodoc a h⟩
  | out _ h h2 => exact ⟨_, _, .out a h h2⟩
  | plain n h hn hp => exact ⟨_, _, .plain n h hn hp⟩
  | opens n K h hn hp hK => exact ⟨_, _, .opens n K h hn hp hK⟩
  | ends n K h hn hp hK => exact ⟨_, _, .ends n K h hn hp hK⟩
theorem op_of_pl {c : UInt8} (h : plB c = true) : opB c = false := by
  have := (sep c).1
  rw [h] at this; simpa using this
theorem op_of_en {c : UInt8} (h : enB c = true) : opB c = false := by
  have := (sep c).2.1
  rw [h] at this; simpa using this

set_option maxHeartbeats 1000000 in
theorem innerS_any (s : ByteArray) (a : Int) (x : ByteArray) (b : Bool) (w : World) (hs : s.size ≤ 1048576) (h : IN s a x b) :
    Calls Tryd.prog 13 #[.string s, .int .i64 a] w fun e w' => e = .returned (.tuple #[.string x, .bool b]) ∧ w' = w := by
  have H1 := goodDocS_any s w hs
  cases h with
  | nodoc _ hd =>
    rw [hd] at H1
    replace H1 := hide H1
    go_enter Tryd.func13, Tryd.ntmps13
    go_wp2_with (go_at_call 15; refine H1.out.mono ?_; rintro e w' ⟨rfl, hw⟩; replace hw := hw.symm; subst hw)
    go_ret2
    exact ⟨rfl, rfl⟩
  | out _ hd hr =>
    rw [hd] at H1
    replace H1 := hide H1
    have H2 := l1In_any a 0 (s.size - 1) w
    rw [decide_eq_false (by omega)] at H2
    replace H2 := hide H2
    clear hd hr
    go_enter Tryd.func13, Tryd.ntmps13
    go_wp2_with (first | (go_at_call 15; refine H1.out.mono ?_; rintro e w' ⟨rfl, hw⟩; replace hw := hw.symm; subst hw) | (go_at_call 62; refine H2.out.mono ?_; rintro e w' ⟨rfl, hw⟩; replace hw := hw.symm; subst hw))
    go_ret2
    exact ⟨rfl, rfl⟩
  | plain n hd hn hp =>
    rw [hd] at H1
    replace H1 := hide H1
    have H2 := l1In_any n 0 (s.size - 1) w
    rw [decide_eq_true (by omega)] at H2
    replace H2 := hide H2
    have H3 := l1Open_any s[n] w
    rw [op_of_pl hp] at H3
    replace H3 := hide H3
    clear hd hp
    go_enter Tryd.func13, Tryd.ntmps13
    go_wp2_with (first | (go_at_call 15; refine H1.out.mono ?_; rintro e w' ⟨rfl, hw⟩; replace hw := hw.symm; subst hw) | (go_at_call 62; refine H2.out.mono ?_; rintro e w' ⟨rfl, hw⟩; replace hw := hw.symm; subst hw) | (go_at_call 66; refine H3.out.mono ?_; rintro e w' ⟨rfl, hw⟩; replace hw := hw.symm; subst hw))
    go_ret2
    exact ⟨rfl, rfl⟩
  | opens n K hd hn hp hK =>
    rw [hd] at H1
    replace H1 := hide H1
    have H2 := l1In_any n 0 (s.size - 1) w
    rw [decide_eq_true (by omega)] at H2
    replace H2 := hide H2
    have H3 := l1Open_any s[n] w
    rw [hp] at H3
    replace H3 := hide H3
    have H4 := hide (l1Match_end s n K w hs hK hn hp)
    have h1 := hK.lo
    have h2 := hK.hi
    clear hd hp hK
    go_enter Tryd.func13, Tryd.ntmps13
    go_wp2_with (first | (go_at_call 15; refine H1.out.mono ?_; rintro e w' ⟨rfl, hw⟩; replace hw := hw.symm; subst hw) | (go_at_call 62; refine H2.out.mono ?_; rintro e w' ⟨rfl, hw⟩; replace hw := hw.symm; subst hw) | (go_at_call 66; refine H3.out.mono ?_; rintro e w' ⟨rfl, hw⟩; replace hw := hw.symm; subst hw) | (go_at_call 64; refine H4.out.mono ?_; rintro e w' ⟨rfl, hw⟩; replace hw := hw.symm; subst hw))
    go_ret2
    exact ⟨rfl, rfl⟩
  | ends n K hd hn hp hK =>
    rw [hd] at H1
    replace H1 := hide H1
    have H2 := l1In_any n 0 (s.size - 1) w
    rw [decide_eq_true (by omega)] at H2
    replace H2 := hide H2
    have H3 := l1Open_any s[n] w
    rw [op_of_en hp] at H3
    replace H3 := hide H3
    clear hd hp hK
    go_enter Tryd.func13, Tryd.ntmps13
    go_wp2_with (first | (go_at_call 15; refine H1.out.mono ?_; rintro e w' ⟨rfl, hw⟩; replace hw := hw.symm; subst hw) | (go_at_call 62; refine H2.out.mono ?_; rintro e w' ⟨rfl, hw⟩; replace hw := hw.symm; subst hw) | (go_at_call 66; refine H3.out.mono ?_; rintro e w' ⟨rfl, hw⟩; replace hw := hw.symm; subst hw))
    go_ret2
    exact ⟨rfl, rfl⟩

set_option maxHeartbeats 1000000 in
theorem innerI_no (s : ByteArray) (a y : Int) (c : Bool) (w : World) (hs : s.size ≤ 1048576) (hT : Tab w) (hm : MT s a y c) (hc : c = false ∨ (c = true ∧ y < a)) :
    Calls Tryd.prog 12 #[.string s, .int .i64 a] w fun e w' => e = .returned (.tuple #[.string ⟨#[]⟩, .bool false]) ∧ Below w.heap.size w w' := by
  have H := matchI_any s a y c w hs hT hm
  clear hm hT
  rcases hc with rfl | ⟨rfl, hlt⟩
  all_goals
    replace H := hide H
    go_enter Tryd.func12, Tryd.ntmps12
    go_wp2_with (go_at_call 10; refine H.out.mono ?_; rintro e w' ⟨rfl, hb⟩)
    go_ret2
    exact ⟨rfl, hb⟩

set_option maxHeartbeats 1000000 in
theorem innerI_any (s : ByteArray) (a : Int) (x : ByteArray) (b : Bool) (w : World) (hs : s.size ≤ 1048576) (hT : Tab w) (h : IN s a x b) :
    Calls Tryd.prog 12 #[.string s, .int .i64 a] w fun e w' => e = .returned (.tuple #[.string x, .bool b]) ∧ Below w.heap.size w w' := by
  cases h with
  | nodoc _ h => exact innerI_no s a 0 false w hs hT (.nodoc a h) (.inl rfl)
  | out _ h h2 => exact innerI_no s a 0 false w hs hT (.out a h h2) (.inl rfl)
  | plain n h hn hp => exact innerI_no s n 0 false w hs hT (.plain n h hn hp) (.inl rfl)
  | ends n K h hn hp hK => exact innerI_no s n K true w hs hT (.ends n K h hn hp hK) (.inr ⟨rfl, by have := hK.lo; omega⟩)
  | opens n K hd hn hp hK =>
    have H := hide (matchI_any s n K true w hs hT (.opens n K hd hn hp hK))
    have h1 := hK.lo
    have h2 := hK.hi
    have H2 := hide (fun w1 : World => clone_any (s.extract (n + 1) K) w1 (by rw [ByteArray.size_extract]; omega))
    clear hd hp hK hT
    go_enter Tryd.func12, Tryd.ntmps12
    go_wp2_with (first | (go_at_call 10; refine H.out.mono ?_; rintro e w' ⟨rfl, hb⟩) | (go_at_call 65; refine (H2.out _).mono ?_; rintro e w2 ⟨rfl, hb2⟩))
    go_ret2
    exact ⟨rfl, hb.trans (hb2.mono hb.size)⟩

end Go.Proofs.YtbmnciejaknonaaDoor
