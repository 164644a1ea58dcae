/- The plain mathematics of chapter 6: states, words, and where a word leads. -/
import Derived.Test.YtafhpnkedjbcdayPlain2
import Derived.Lib.Bytealg
namespace Go.Proofs.Ytafhpnkedjbcday.Doc1

/-- A state. -/
structure Stt where
  expr : ByteArray
  fin : Bool
  next : List Int
def symB (c : UInt8) : Bool := opB c || decide (c = 116)
/-- The number of a symbol. -/
def ixB (c : UInt8) : Nat := if c = 116 then 6 else c.toNat - 65
def signL : List UInt8 := [33, 45, 46, 65, 66, 67, 68, 69, 70, 116]
def sgn (c : UInt8) : Int := Go.Lib.indexByte signL c
theorem sgn_all : ∀ n : Fin 256, (if symB (UInt8.ofNat n.val) = true then sgn (UInt8.ofNat n.val) = 3 + (ixB (UInt8.ofNat n.val) : Int) ∧ ixB (UInt8.ofNat n.val) < 7 else sgn (UInt8.ofNat n.val) < 3 ∧ -1 ≤ sgn (UInt8.ofNat n.val)) := by decide +kernel
theorem sgn_at (c : UInt8) : if symB c = true then sgn c = 3 + (ixB c : Int) ∧ ixB c < 7 else sgn c < 3 ∧ -1 ≤ sgn c := by
  have := sgn_all ⟨c.toNat, c.toNat_lt⟩
  simpa using this
theorem sgn_yes {c : UInt8} (h : symB c = true) : sgn c = 3 + (ixB c : Int) ∧ ixB c < 7 := by have := sgn_at c; rwa [if_pos h] at this
theorem sgn_no {c : UInt8} (h : symB c = false) : sgn c < 3 ∧ -1 ≤ sgn c := by have := sgn_at c; rwa [if_neg (by rw [h]; simp)] at this
def wordB (l : List UInt8) : Bool := decide (l.length ≤ 60) && l.all symB
def nextB (m : Nat) (x : Stt) : Bool := x.next.all (fun n => decide (0 ≤ n ∧ n ≤ (m : Int) - 1)) && decide (x.next.length = 7)
def statesB (l : List Stt) : Bool := decide (1 ≤ l.length ∧ l.length ≤ 60) && l.all (nextB l.length)
/-- The state that is come to. -/
def goTo (l : List Stt) (i : Nat) (c : UInt8) : Nat := match l[i]? with | some x => (x.next.getD (ixB c) 0).toNat | none => 0
def runTo (l : List Stt) (w : List UInt8) : Nat := w.foldl (goTo l) 0
def finB (l : List Stt) (i : Nat) : Bool := match l[i]? with | some x => x.fin | none => false
def runOk (l : List Stt) (w : List UInt8) : Bool := statesB l && wordB w
def runA (l : List Stt) (w : List UInt8) : Bool := runOk l w && finB l (runTo l w)
theorem states_at {l : List Stt} (h : statesB l = true) : (1 ≤ l.length ∧ l.length ≤ 60) ∧ ∀ i (hi : i < l.length), l[i].next.length = 7 ∧ ∀ j (hj : j < l[i].next.length), 0 ≤ l[i].next[j] ∧ l[i].next[j] < (l.length : Int) := by
  unfold statesB at h
  simp only [Bool.and_eq_true, decide_eq_true_eq] at h
  refine ⟨h.1, fun i hi => ?_⟩
  have := List.all_eq_true.1 h.2 l[i] (List.getElem_mem hi)
  unfold nextB at this
  simp only [Bool.and_eq_true, decide_eq_true_eq] at this
  refine ⟨this.2, fun j hj => ?_⟩
  have h3 := List.all_eq_true.1 this.1 _ (List.getElem_mem hj)
  have := of_decide_eq_true h3
  omega
theorem goTo_eq {l : List Stt} (h : statesB l = true) {i : Nat} (hi : i < l.length) {c : UInt8} (hc : symB c = true) : ∃ hj : ixB c < l[i].next.length, (goTo l i c : Int) = l[i].next[ixB c] ∧ goTo l i c < l.length := by
  obtain ⟨-, h2⟩ := states_at h
  obtain ⟨h7, hn⟩ := h2 i hi
  have hx := (sgn_yes hc).2
  have hj : ixB c < l[i].next.length := by omega
  have := hn _ hj
  have e : goTo l i c = (l[i].next[ixB c]).toNat := by
    unfold goTo
    rw [List.getElem?_eq_getElem hi]
    simp only [List.getD_eq_getElem?_getD, List.getElem?_eq_getElem hj, Option.getD_some]
  exact ⟨hj, by rw [e]; omega, by rw [e]; omega⟩
theorem runTo_snoc (l : List Stt) (w : List UInt8) (c : UInt8) : runTo l (w ++ [c]) = goTo l (runTo l w) c := by simp [runTo]
theorem runTo_take {l : List Stt} {w : List UInt8} {k : Nat} (hk : k < w.length) : runTo l (w.take (k + 1)) = goTo l (runTo l (w.take k)) w[k] := by
  rw [← runTo_snoc, List.take_succ_eq_append_getElem hk]
theorem word_at {w : List UInt8} (h : wordB w = true) : w.length ≤ 60 ∧ ∀ k (hk : k < w.length), symB w[k] = true := by
  unfold wordB at h
  simp only [Bool.and_eq_true, decide_eq_true_eq] at h
  exact ⟨h.1, fun k hk => List.all_eq_true.1 h.2 _ (List.getElem_mem hk)⟩
theorem runTo_lt {l : List Stt} {w : List UInt8} (h : statesB l = true) (hw : wordB w = true) : ∀ k, k ≤ w.length → runTo l (w.take k) < l.length
  | 0, _ => by simp [runTo]; have := (states_at h).1; omega
  | k + 1, hk => by
    rw [runTo_take (by omega)]
    exact (goTo_eq h (runTo_lt h hw k (by omega)) ((word_at hw).2 k (by omega))).2.2
theorem finB_at {l : List Stt} {i : Nat} (hi : i < l.length) : finB l i = l[i].fin := by unfold finB; rw [List.getElem?_eq_getElem hi]
theorem word_no_at {w : List UInt8} {k : Nat} (hk : k < w.length) (h : symB w[k] = false) : wordB w = false := by
  unfold wordB
  have : w.all symB = false := by
    rw [← Bool.not_eq_true, List.all_eq_true]
    exact fun c => by rw [c _ (List.getElem_mem hk)] at h; exact Bool.noConfusion h
  rw [this, Bool.and_false]
theorem states_no_at {l : List Stt} {i : Nat} (hi : i < l.length) (h : nextB l.length l[i] = false) : statesB l = false := by
  unfold statesB
  have : l.all (nextB l.length) = false := by
    rw [← Bool.not_eq_true, List.all_eq_true]
    exact fun c => by rw [c _ (List.getElem_mem hi)] at h; exact Bool.noConfusion h
  rw [this, Bool.and_false]
theorem next_no_at {m : Nat} {x : Stt} {j : Nat} (hj : j < x.next.length) (h : ¬ (0 ≤ x.next[j] ∧ x.next[j] ≤ (m : Int) - 1)) : nextB m x = false := by
  unfold nextB
  have : x.next.all (fun n => decide (0 ≤ n ∧ n ≤ (m : Int) - 1)) = false := by
    rw [← Bool.not_eq_true, List.all_eq_true]
    exact fun c => h (of_decide_eq_true (c _ (List.getElem_mem hj)))
  rw [this, Bool.false_and]
theorem next_no_len {m : Nat} {x : Stt} (h : x.next.length ≠ 7) : nextB m x = false := by unfold nextB; rw [decide_eq_false h, Bool.and_false]
theorem next_yes {m : Nat} {x : Stt} (h7 : x.next.length = 7) (h : (x.next.take x.next.length).all (fun n => decide (0 ≤ n ∧ n ≤ (m : Int) - 1)) = true) : nextB m x = true := by
  rw [List.take_length] at h
  unfold nextB; rw [decide_eq_true h7, h]; rfl
theorem all_take {α : Type} {f : α → Bool} {l : List α} {k : Nat} (hk : k < l.length) (h : (l.take k).all f = true) (h2 : f l[k] = true) : (l.take (k + 1)).all f = true := by
  rw [List.take_succ_eq_append_getElem hk, List.all_append, h]; simp [h2]
end Go.Proofs.Ytafhpnkedjbcday.Doc1
