/- The plain mathematics of chapter 5: marks, and when they are good. -/
import Derived.Test.YtbooongkbninhaaDoorTreeM
import GoSem.Op.String
namespace Go.Proofs.YtbooongkbninhaaDoor.Doc1

/-- A mark: a stretch with a style. -/
structure Mk where
  frm : Int
  to : Int
  style : ByteArray
  deriving DecidableEq

/-- A style's byte, and a style: one to eight of them. -/
def stB (b : UInt8) : Bool := decide (97 ≤ b.toNat ∧ b.toNat ≤ 122)
def stTo (s : ByteArray) (k : Nat) : Bool := (s.data.toList.take k).all stB
def isSt (s : ByteArray) : Bool := decide (1 ≤ s.size ∧ s.size ≤ 8) && s.data.toList.all stB
/-- A mark that is one by itself, of so many bytes. -/
def mkOk (size : Int) (m : Mk) : Bool := isSt m.style && decide (0 ≤ m.frm ∧ m.frm < m.to ∧ m.to ≤ size)
/-- Of two marks the one may stand ahead of the other. -/
def mkLt (a b : Mk) : Bool := if a.style.toList == b.style.toList then decide (a.to < b.frm) else Op.bytesLess a.style.toList b.style.toList
/-- The mark with a number is one, and stands behind the one ahead of it. -/
def mkAt (l : List Mk) (size : Int) (i : Nat) : Bool :=
  match l[i]? with
  | none => true
  | some m => mkOk size m && (match i with
    | 0 => true
    | j + 1 => match l[j]? with
      | none => true
      | some p => mkLt p m)
def mkTo (l : List Mk) (size : Int) (k : Nat) : Bool := (List.range k).all (mkAt l size)
def goodM (l : List Mk) (size : Int) : Bool := decide (0 ≤ size ∧ size ≤ 300) && (decide (l.length ≤ 40) && mkTo l size l.length)

theorem mkTo_zero (l : List Mk) (size : Int) : mkTo l size 0 = true := rfl
theorem mkTo_succ (l : List Mk) (size : Int) (k : Nat) : mkTo l size (k + 1) = (mkTo l size k && mkAt l size k) := by
  unfold mkTo; rw [List.range_succ, List.all_append]; simp
theorem mkTo_le (l : List Mk) (size : Int) (k : Nat) : ∀ n, k ≤ n → mkTo l size n = true → mkTo l size k = true
  | n, h, hn => by
    unfold mkTo at hn ⊢
    rw [List.all_eq_true] at hn ⊢
    intro x hx
    exact hn x (by rw [List.mem_range] at hx ⊢; omega)
theorem goodM_no {l : List Mk} {size : Int} {k : Nat} (hk : k < l.length) (h : mkAt l size k = false) : goodM l size = false := by
  cases hg : goodM l size with
  | false => rfl
  | true =>
    unfold goodM at hg
    simp only [Bool.and_eq_true] at hg
    have := mkTo_le l size (k + 1) l.length hk hg.2.2
    rw [mkTo_succ, h, Bool.and_false] at this
    cases this
theorem goodM_big {l : List Mk} {size : Int} (h : ¬ (0 ≤ size ∧ size ≤ 300)) : goodM l size = false := by
  unfold goodM; rw [decide_eq_false h]; rfl
theorem goodM_many {l : List Mk} {size : Int} (h : ¬ l.length ≤ 40) : goodM l size = false := by
  unfold goodM; rw [decide_eq_false h]; simp
theorem goodM_all {l : List Mk} {size : Int} (h : mkTo l size l.length = true) : goodM l size = (decide (0 ≤ size ∧ size ≤ 300) && decide (l.length ≤ 40)) := by
  unfold goodM; rw [h]; simp
theorem mkAt_zero {l : List Mk} {size : Int} (h : 0 < l.length) : mkAt l size 0 = mkOk size l[0] := by
  unfold mkAt; rw [List.getElem?_eq_getElem h]; simp
theorem mkAt_succ {l : List Mk} {size : Int} {j : Nat} (h : j + 1 < l.length) : mkAt l size (j + 1) = (mkOk size l[j + 1] && mkLt (l[j]'(by omega)) l[j + 1]) := by
  unfold mkAt; rw [List.getElem?_eq_getElem h]; simp only [List.getElem?_eq_getElem (show j < l.length by omega)]
theorem stTo_succ (s : ByteArray) (k : Nat) (h : k < s.size) : stTo s (k + 1) = (stTo s k && stB s[k]) := by
  unfold stTo
  have hk : k < s.data.toList.length := by simpa using h
  rw [List.take_succ_eq_append_getElem hk, List.all_append]
  have : s.data.toList[k] = s[k] := by simp; rfl
  rw [this]; simp
theorem stTo_all (s : ByteArray) : stTo s s.size = s.data.toList.all stB := by
  unfold stTo; rw [List.take_of_length_le (by simp)]
theorem isSt_no {s : ByteArray} {k : Nat} (h : k < s.size) (hb : stB s[k] = false) : isSt s = false := by
  unfold isSt
  have : s.data.toList.all stB = false := by
    rw [List.all_eq_false]
    refine ⟨s[k], ?_, by simp [hb]⟩
    have hk : k < s.data.toList.length := by simpa using h
    have e : s.data.toList[k] = s[k] := by simp; rfl
    rw [← e]; exact List.getElem_mem hk
  rw [this]; simp
theorem isSt_all {s : ByteArray} (h : stTo s s.size = true) : isSt s = decide (1 ≤ s.size ∧ s.size ≤ 8) := by
  unfold isSt; rw [← stTo_all, h]; simp
end Go.Proofs.YtbooongkbninhaaDoor.Doc1
