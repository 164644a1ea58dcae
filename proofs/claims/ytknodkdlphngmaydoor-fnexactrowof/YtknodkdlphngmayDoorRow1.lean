/- The plain mathematics of a row: the symbols of what stands in a document. -/
import Derived.Test.YtknodkdlphngmayDoorPlain3a
namespace Go.Proofs.YtknodkdlphngmayDoor.Doc1

/-- The symbols from a place on: how deep it lies, and whether a plain byte is just ahead. -/
def rowF : List UInt8 → Int → Bool → List UInt8
  | [], _, _ => []
  | c :: l, d, p => (if d = 0 then (if opB c then [c] else if plB c && !p then [116] else []) else []) ++ rowF l (d + dl c) (plB c)
theorem rowF_cons (c : UInt8) (l : List UInt8) (d : Int) (p : Bool) : rowF (c :: l) d p = (if d = 0 then (if opB c then [c] else if plB c && !p then [116] else []) else []) ++ rowF l (d + dl c) (plB c) := rfl
theorem rowF_len : ∀ (l : List UInt8) (d : Int) (p : Bool), (rowF l d p).length ≤ l.length
  | [], _, _ => Nat.le_refl _
  | c :: l, d, p => by
    have := rowF_len l (d + dl c) (plB c)
    rw [rowF_cons, List.length_append, List.length_cons]
    have : (if d = 0 then (if opB c then [c] else if plB c && !p then [116] else []) else []).length ≤ 1 := by
      split
      · split
        · simp
        · split <;> simp
      · simp
    omega
theorem rowF_at (s : ByteArray) (k : Nat) (h : k < s.size) (d : Int) (p : Bool) : rowF (s.data.toList.drop k) d p = (if d = 0 then (if opB s[k] then [s[k]] else if plB s[k] && !p then [116] else []) else []) ++ rowF (s.data.toList.drop (k + 1)) (d + dl s[k]) (plB s[k]) := by
  rw [drop_cons s k h, rowF_cons]
theorem op_not_pl {c : UInt8} (h : opB c = true) : plB c = false := by
  have := (sep c).1
  rw [h] at this
  simpa using this
theorem en_not_pl {c : UInt8} (h : enB c = true) : plB c = false := by
  have := (sep c).2.2
  rw [h] at this
  simpa using this
/-- Within an element nothing is told. -/
theorem rowF_in (s : ByteArray) {a K : Nat} (h : IsEnd s a K) (ho : dl (s[a]'(by have := h.lo; have := h.hi; omega)) = 1) (h0 : dep s.data.toList a = 0) : ∀ (n j : Nat) (p : Bool), a < j → j ≤ K → K - j = n → rowF (s.data.toList.drop j) (dep s.data.toList j) p = rowF (s.data.toList.drop (K + 1)) 0 false
  | n, j, p, h1, h2, hn => by
    have hK := h.hi
    have hj : j < s.size := by omega
    have hg := end_gt h ho j h1 h2
    rw [rowF_at s j hj, if_neg (by omega), List.nil_append, ← dep_succ s j hj]
    obtain ⟨e1, e2, e3⟩ := end_begin h ho
    by_cases c : j = K
    · subst c
      have e4 : dep s.data.toList (j + 1) = 0 := by rw [← h0]; exact h.at_
      rw [e4, en_not_pl (en_of_dl e1)]
    · match n, hn with
      | n + 1, hn => exact rowF_in s h ho h0 n (j + 1) _ (by omega) (by omega) (by omega)
      | 0, hn => omega
theorem rowF_jump (s : ByteArray) {a K : Nat} (h : IsEnd s a K) (ho : opB (s[a]'(by have := h.lo; have := h.hi; omega)) = true) (h0 : dep s.data.toList a = 0) (p : Bool) : rowF (s.data.toList.drop a) 0 p = (s[a]'(by have := h.lo; have := h.hi; omega)) :: rowF (s.data.toList.drop (K + 1)) 0 false := by
  have ha : a < s.size := by have := h.lo; have := h.hi; omega
  have hl := h.lo
  rw [rowF_at s a ha, if_pos rfl, if_pos ho]
  have e := dep_succ s a ha
  rw [h0] at e
  rw [← e, rowF_in s h (dl_is_op ho) h0 _ (a + 1) _ (by omega) (by omega) rfl]
  rfl
end Go.Proofs.YtknodkdlphngmayDoor.Doc1
