/- Whether a text is left of another one when bytes are dropped: the program's IsWithin and the model's. -/
import Derived.Test.YtfiefklhhchebaaDoorWalksQ
import Derived.BigQuiet
namespace Go.Proofs.YtfiefklhhchebaaDoor
open Go.RowKit
open Doc1

/-- How many bytes of a are met, one behind another, in b. -/
def met (a : List UInt8) : List UInt8 → Nat → Nat
  | [], m => m
  | y :: b, m => met a b (if a[m]? = some y then m + 1 else m)
def wit (a b : List UInt8) : Bool := decide (met a b 0 = a.length)
theorem met_full (a : List UInt8) : ∀ (b : List UInt8) (m : Nat), a.length ≤ m → met a b m = m
  | [], m, _ => rfl
  | y :: b, m, h => by
    have : a[m]? = none := List.getElem?_eq_none h
    rw [met, this, if_neg (by simp)]
    exact met_full a b m h
theorem bdrop_at (s : ByteArray) (k : Nat) (h : k < s.size) : s.data.toList.drop k = s[k] :: s.data.toList.drop (k + 1) := by
  rw [List.drop_eq_getElem_cons (by simpa using h)]
  rfl
theorem at_some (s : ByteArray) (k : Nat) (h : k < s.size) : s.data.toList[k]? = some s[k] := by
  rw [List.getElem?_eq_getElem (by simpa using h)]
  rfl
theorem met_yes {a b : ByteArray} {m k : Nat} (hm : m < a.size) (hk : k < b.size) (h : a[m] = b[k]) : met a.data.toList (b.data.toList.drop k) m = met a.data.toList (b.data.toList.drop (k + 1)) (m + 1) := by
  rw [bdrop_at b k hk, met, at_some a m hm, if_pos (by rw [h])]
theorem met_no {a b : ByteArray} {m k : Nat} (hm : m < a.size) (hk : k < b.size) (h : ¬ a[m] = b[k]) : met a.data.toList (b.data.toList.drop k) m = met a.data.toList (b.data.toList.drop (k + 1)) m := by
  rw [bdrop_at b k hk, met, at_some a m hm, if_neg (by simpa using h)]
theorem met_end {a b : ByteArray} {m k : Nat} (hm : a.size ≤ m) : met a.data.toList (b.data.toList.drop k) m = m := met_full _ _ _ (by simpa using hm)
theorem met_nil {a b : ByteArray} {m k : Nat} (hk : b.size ≤ k) : met a.data.toList (b.data.toList.drop k) m = m := by rw [drop_end b k hk]; rfl
theorem below_dN {B : Nat} {a w : World} (h : Below B a w) (n : Nat) : Below B a (w.drewN n) := h.trans ⟨rfl, rfl, rfl, Nat.le_refl _, fun _ _ => rfl⟩
theorem u8_eq {x y : UInt8} (h : ((x.toNat : Int) == (y.toNat : Int)) = true) : x = y := by
  simp at h
  exact UInt8.toNat_inj.1 (by omega)
theorem u8_neq {x y : UInt8} (h : ((x.toNat : Int) == (y.toNat : Int)) = false) : ¬ x = y := by
  intro e; subst e; simp at h
theorem u8_beq {x y : UInt8} (h : x = y) : ((x.toNat : Int) == (y.toNat : Int)) = true := by subst h; simp
theorem u8_bne {x y : UInt8} (h : ¬ x = y) : ((x.toNat : Int) == (y.toNat : Int)) = false := by
  rw [beq_eq_false_iff_ne]
  intro e
  exact h (UInt8.toNat_inj.1 (by omega))
theorem wit_is {a b : ByteArray} {m : Nat} (h : met a.data.toList b.data.toList 0 = m) : ((m : Int) == (a.size : Int)) = wit a.data.toList b.data.toList := by
  unfold wit
  rw [h, Bool.eq_iff_iff]
  simp
  omega

set_option maxHeartbeats 1000000 in
theorem l9Texts_any (a b : ByteArray) (w : World) (ha : a.size ≤ 1048576) (hb : b.size ≤ 1048576) :
    Calls Tryd.prog 53 #[.string a, .string b] w fun e w' => e = .returned (.bool (good a.data.toList && good b.data.toList)) ∧ w' = w := by
  have H : Hid (∀ s : ByteArray, s.size ≤ 1048576 → ∀ w1 : World, Calls Tryd.prog 38 #[.string s] w1 fun e w' => e = .returned (.bool (good s.data.toList)) ∧ w' = w1) := hide (fun s h w1 => goodTextS_any s w1 h)
  obtain ⟨x, hx⟩ : ∃ x, good a.data.toList = x := ⟨_, rfl⟩
  obtain ⟨y, hy⟩ : ∃ y, good b.data.toList = y := ⟨_, rfl⟩
  have H1 := H.out a ha
  have H2 := H.out b hb
  rw [hx] at H1
  rw [hy] at H2
  rw [hx, hy]
  replace H1 := hide H1
  replace H2 := hide H2
  clear H hx hy
  cases x
  · go_enter Tryd.func53, Tryd.ntmps53
    go_wp2_with fail
    refine (H1.out _).mono ?_
    rintro e w' ⟨rfl, hw⟩
    replace hw := hw.symm
    subst hw
    go_wp2
    go_ret
    exact ⟨rfl, rfl⟩
  · go_enter Tryd.func53, Tryd.ntmps53
    go_wp2_with fail
    refine (H1.out _).mono ?_
    rintro e w' ⟨rfl, hw⟩
    replace hw := hw.symm
    subst hw
    go_wp2_with fail
    refine (H2.out _).mono ?_
    rintro e w' ⟨rfl, hw⟩
    replace hw := hw.symm
    subst hw
    go_wp2
    go_ret
    exact ⟨rfl, rfl⟩

/-- What both answer. -/
def witA (a b : List UInt8) : Bool := (good a && good b) && wit a b

end Go.Proofs.YtfiefklhhchebaaDoor
