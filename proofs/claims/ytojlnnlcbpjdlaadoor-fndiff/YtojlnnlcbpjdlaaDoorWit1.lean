/- Whether a text is left of another one when bytes are dropped: the program's IsWithin and the model's. -/
import Derived.Test.YtojlnnlcbpjdlaaDoorWalksQ
import Derived.BigQuiet
namespace Go.Proofs.YtojlnnlcbpjdlaaDoor
open Go.RowKit
open Doc1

/-- How many bytes of a are met, one behind another, in b. -/
def met (a : List UInt8) : List UInt8 → Nat → Nat
  | [], m => m
  | y :: b, m => met a b (if a[m]? = some y then m + 1 else m)
def wit (a b : List UInt8) : Bool := decide (met a b 0 = a.length)
theorem met_full (a : List UInt8) : ∀ (b : List UInt8) (m : Nat), a.length ≤ m → met a b m = m
  | [], m, _ => rfl
  | y :: b, m, h => by
    have : a[m]? = none := List.getElem?_eq_none h
    rw [met, this, if_neg (by simp)]
    exact met_full a b m h
theorem bdrop_at (s : ByteArray) (k : Nat) (h : k < s.size) : s.data.toList.drop k = s[k] :: s.data.toList.drop (k + 1) := by
  rw [List.drop_eq_getElem_cons (by simpa using h)]
  rfl
theorem at_some (s : ByteArray) (k : Nat) (h : k < s.size) : s.data.toList[k]? = some s[k] := by
  rw [List.getElem?_eq_getElem (by simpa using h)]
  rfl
theorem met_yes {a b : ByteArray} {m k : Nat} (hm : m < a.size) (hk : k < b.size) (h : a[m] = b[k]) : met a.data.toList (b.data.toList.drop k) m = met a.data.toList (b.data.toList.drop (k + 1)) (m + 1) := by
  rw [bdrop_at b k hk, met, at_some a m hm, if_pos (by rw [h])]
theorem met_no {a b : ByteArray} {m k : Nat} (hm : m < a.size) (hk : k < b.size) (h : ¬ a[m] = b[k]) : met a.data.toList (b.data.toList.drop k) m = met a.data.toList (b.data.toList.drop (k + 1)) m := by
  rw [bdrop_at b k hk, met, at_some a m hm, if_neg (by simpa using h)]
theorem met_end {a b : ByteArray} {m k : Nat} (hm : a.size ≤ m) : met a.data.toList (b.data.toList.drop k) m = m := met_full _ _ _ (by simpa using hm)
theorem met_nil {a b : ByteArray} {m k : Nat} (hk : b.size ≤ k) : met a.data.toList (b.data.toList.drop k) m = m := by rw [drop_end b k hk]; rfl
theorem below_dN {B : Nat} {a w : World} (h : Below B a w) (n : Nat) : Below B a (w.drewN n) := h.trans ⟨rfl, rfl, rfl, Nat.le_refl _, fun _ _ => rfl⟩
theorem u8_eq {x y : UInt8} (h : ((x.toNat : Int) == (y.toNat : Int)) = true) : x = y := by
  simp at h
  exact UInt8.toNat_inj.1 (by omega)
theorem u8_ne {x y : UInt8} (h : ((x.toNat : Int) == (y.toNat : Int)) = false) : ¬ x = y := by
  intro e; subst e; simp at h
theorem u8_beq {x y : UInt8} (h : x = y) : ((x.toNat : Int) == (y.toNat : Int)) = true := by subst h; simp
theorem u8_bne {x y : UInt8} (h : ¬ x = y) : ((x.toNat : Int) == (y.toNat : Int)) = false := by
  rw [beq_eq_false_iff_ne]
  intro e
  exact h (UInt8.toNat_inj.1 (by omega))
theorem wit_is {a b : ByteArray} {m : Nat} (h : met a.data.toList b.data.toList 0 = m) : ((m : Int) == (a.size : Int)) = wit a.data.toList b.data.toList := by
  unfold wit
  rw [h, Bool.eq_iff_iff]
  simp
  omega

set_option maxHeartbeats 1000000 in
theorem l9Texts_any (a b : ByteArray) (w : World) (ha : a.size ≤ 1048576) (hb : b.size ≤ 1048576) :
    Calls Tryd.prog 91 #[.string a, .string b] w fun e w' => e = .returned (.bool (good a.data.toList && good b.data.toList)) ∧ w' = w := by
  have H : Hid (∀ s : ByteArray, s.size ≤ 1048576 → ∀ w1 : World, Calls Tryd.prog 41 #[.string s] w1 fun e w' => e = .returned (.bool (good s.data.toList)) ∧ w' = w1) := hide (fun s h w1 => goodTextS_any s w1 h)
  obtain ⟨x, hx⟩ : ∃ x, good a.data.toList = x := ⟨_, rfl⟩
  obtain ⟨y, hy⟩ : ∃ y, good b.data.toList = y := ⟨_, rfl⟩
  have H1 := H.out a ha
  have H2 := H.out b hb
  rw [hx] at H1
  rw [hy] at H2
  rw [hx, hy]
  replace H1 := hide H1
  replace H2 := hide H2
  clear H hx hy
  cases x
  · go_enter Tryd.func91, Tryd.ntmps91
    go_wp2_with fail
    refine (H1.out _).mono ?_
    rintro e w' ⟨rfl, hw⟩
    replace hw := hw.symm
    subst hw
    go_wp2
    go_ret
    exact ⟨rfl, rfl⟩
  · go_enter Tryd.func91, Tryd.ntmps91
    go_wp2_with fail
    refine (H1.out _).mono ?_
    rintro e w' ⟨rfl, hw⟩
    replace hw := hw.symm
    subst hw
    go_wp2_with fail
    refine (H2.out _).mono ?_
    rintro e w' ⟨rfl, hw⟩
    replace hw := hw.symm
    subst hw
    go_wp2
    go_ret
    exact ⟨rfl, rfl⟩

/-- What both answer. -/
def witA (a b : List UInt8) : Bool := (good a && good b) && wit a b

set_option maxRecDepth 100000 in
set_option maxHeartbeats 2000000 in
theorem withinI_bad (a b : ByteArray) (w : World) (ha : a.size ≤ 1048576) (hb : b.size ≤ 1048576) (hT : Tab w) (h : (good a.data.toList && good b.data.toList) = false) :
    Calls Tryd.prog 51 #[.string a, .string b] w fun e w' => e = .returned (.tuple #[.bool false, .bool false]) ∧ Below w.heap.size w w' := by
  have H1 := goodTextI_any a w ha hT
  have H2 := goodTextI_any b w hb hT
  obtain ⟨x, hx⟩ : ∃ x, good a.data.toList = x := ⟨_, rfl⟩
  obtain ⟨y, hy⟩ : ∃ y, good b.data.toList = y := ⟨_, rfl⟩
  rw [hx] at H1 h
  rw [hy] at H2 h
  replace H1 := hide H1
  replace H2 := hide H2
  clear hx hy hT
  cases x
  · go_enter Tryd.func51, Tryd.ntmps51
    go_wp2_with fail
    refine (H1.out).mono ?_
    rintro e w' ⟨rfl, hw⟩
    replace hw := hw.symm
    subst hw
    go_wp2
    go_ret2
    exact ⟨rfl, Below.refl _ _⟩
  · simp at h
    subst h
    go_enter Tryd.func51, Tryd.ntmps51
    go_wp2_with fail
    refine (H1.out).mono ?_
    rintro e w' ⟨rfl, hw⟩
    replace hw := hw.symm
    subst hw
    go_wp2_with fail
    refine (H2.out).mono ?_
    rintro e w' ⟨rfl, hw⟩
    replace hw := hw.symm
    subst hw
    go_wp2
    go_ret2
    exact ⟨rfl, Below.refl _ _⟩

set_option maxRecDepth 100000 in
set_option maxHeartbeats 2000000 in
theorem withinI_good (a b : ByteArray) (w : World) (ha : a.size ≤ 1048576) (hb : b.size ≤ 1048576) (hT : Tab w) (h1 : good a.data.toList = true) (h2 : good b.data.toList = true) :
    Calls Tryd.prog 51 #[.string a, .string b] w fun e w' => e = .returned (.tuple #[.bool (wit a.data.toList b.data.toList), .bool true]) ∧ Below w.heap.size w w' := by
  have H1 := goodTextI_any a w ha hT
  have H2 := goodTextI_any b w hb hT
  rw [h1] at H1
  rw [h2] at H2
  replace H1 := hide H1
  replace H2 := hide H2
  clear h1 h2 hT
  go_enter Tryd.func51, Tryd.ntmps51
  go_wp2_with fail
  refine (H1.out).mono ?_
  rintro e w' ⟨rfl, hw⟩
  replace hw := hw.symm
  subst hw
  go_wp2_with fail
  refine (H2.out).mono ?_
  rintro e w' ⟨rfl, hw⟩
  replace hw := hw.symm
  subst hw
  go_wp2
  go_loopw [6, 18] (fun x y wr => Hid (Below w.heap.size w wr) ∧ ∃ m k : Nat, m ≤ a.size ∧ k ≤ b.size ∧ x = .int .i64 m ∧ y = .int .i64 k ∧ Hid (met a.data.toList b.data.toList 0 = met a.data.toList (b.data.toList.drop k) m)) (fun _ y _ => b.size - (intOf y).toNat)
  case atStart => exact ⟨hide (Below.refl _ _), 0, 0, Nat.zero_le _, Nat.zero_le _, rfl, rfl, rfl⟩
  case round =>
    obtain ⟨HB, m, k, hm, hk, rfl, rfl, hr⟩ := hrel
    by_cases hkl : k < b.size
    · by_cases hml : m < a.size
      · have hd : decide ((m : Int) < (a.size : Int)) = true := decide_eq_true (by omega)
        by_cases he : a[m] = b[k]
        · have hq : ((a[m].toNat : Int) == (b[k].toNat : Int)) = true := u8_beq he
          have hs := hide (met_yes hml hkl he)
          clear he
          go_wp2
          go_quiet (fail)
          go_wp2
          go_roundw
          case rel => exact ⟨hide (by first | exact HB.out.drew | exact below_dN HB.out _ | exact HB.out), m + 1, k + 1, by omega, by omega, by go_num, by go_num, hr.out.trans hs.out⟩
          case measure => simp [intOf]; omega
        · have hq : ((a[m].toNat : Int) == (b[k].toNat : Int)) = false := u8_bne he
          have hs := hide (met_no hml hkl he)
          clear he
          go_wp2
          go_quiet (fail)
          go_wp2
          go_roundw
          case rel => exact ⟨hide (by first | exact HB.out.drew | exact below_dN HB.out _ | exact HB.out), m, k + 1, by omega, by omega, rfl, by go_num, hr.out.trans hs.out⟩
          case measure => simp [intOf]; omega
      · have hd : decide ((m : Int) < (a.size : Int)) = false := decide_eq_false (by omega)
        have hs : Hid (met a.data.toList (b.data.toList.drop k) m = met a.data.toList (b.data.toList.drop (k + 1)) m) := hide ((met_end (by omega)).trans (met_end (by omega)).symm)
        go_wp2
        go_quiet (fail)
        go_wp2
        go_roundw
        case rel => exact ⟨hide (by first | exact HB.out.drew | exact below_dN HB.out _ | exact HB.out), m, k + 1, by omega, by omega, rfl, by go_num, hr.out.trans hs.out⟩
        case measure => simp [intOf]; omega
    · have hs := hide (hr.out.trans (met_nil (by omega)))
      go_wp2
      go_ret2
      exact ⟨by rw [wit_is hs.out]; rfl, HB.out⟩

theorem withinI_any (a b : ByteArray) (w : World) (ha : a.size ≤ 1048576) (hb : b.size ≤ 1048576) (hT : Tab w) :
    Calls Tryd.prog 51 #[.string a, .string b] w fun e w' => e = .returned (.tuple #[.bool (witA a.data.toList b.data.toList), .bool (good a.data.toList && good b.data.toList)]) ∧ Below w.heap.size w w' := by
  unfold witA
  by_cases h : (good a.data.toList && good b.data.toList) = true
  · rw [h]
    have h' := h
    rw [Bool.and_eq_true] at h'
    exact withinI_good a b w ha hb hT h'.1 h'.2
  · rw [Bool.not_eq_true] at h
    rw [h]
    exact withinI_bad a b w ha hb hT h

end Go.Proofs.YtojlnnlcbpjdlaaDoor
