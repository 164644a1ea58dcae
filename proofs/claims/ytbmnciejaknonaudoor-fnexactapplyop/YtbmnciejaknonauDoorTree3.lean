/- The plain mathematics of chapter 2, on: what is known at a place of a document. -/
import Derived.Test.YtbmnciejaknonauDoorTree1
namespace Go.Proofs.YtbmnciejaknonauDoor.Doc1

/-- Behind the first bytes of a text. -/
def P (s : ByteArray) (k : Nat) : PS := feed pin (s.data.toList.take k)
theorem dep_sum (s : ByteArray) : ∀ k, k ≤ s.size → ((s.data.toList.map dl).take k).sum = dep s.data.toList k
  | 0, _ => by rw [dep_zero]; rfl
  | k + 1, h => by
    have ih := dep_sum s k (by omega)
    have hk : k < (s.data.toList.map dl).length := by simp; omega
    rw [dep_succ s k (by omega), ← ih, List.take_succ_eq_append_getElem hk, List.sum_append]
    simp; rfl
theorem P_ok (s : ByteArray) (hd : doc s.data.toList = true) (k : Nat) (hk : k ≤ s.size) : Chain (P s k).l (P s k).st ∧ ((P s k).st.length : Int) = dep s.data.toList k + 1 := by
  have h := feed_ok (s.data.toList.take k) pin 0 rfl ⟨rfl, by simp [pin]⟩ (fun i hi => by
    have hi2 : i ≤ k := by simp at hi; omega
    rw [List.map_take, List.take_take, Nat.min_eq_left hi2, dep_sum s i (by omega)]
    have := (dep_bd s hd i (by omega)).1
    simpa using this)
  refine ⟨h.1, ?_⟩
  have h2 := h.2
  rw [List.map_take, dep_sum s k hk] at h2
  show ((feed pin (s.data.toList.take k)).st.length : Int) = _
  simpa using h2
theorem P_succ (s : ByteArray) (k : Nat) (h : k < s.size) : P s (k + 1) = pst (P s k) s[k] := by
  unfold P; rw [take_snoc s k h, feed_snoc]
theorem P_zero (s : ByteArray) : P s 0 = pin := rfl
theorem P_last (s : ByteArray) : (P s s.size).out = tree s.data.toList := by
  unfold P tree; rw [List.take_of_length_le (by simp)]
theorem P_len (s : ByteArray) (k : Nat) : (P s k).out.length ≤ k + 1 := by
  have := tree_len (s.data.toList.take k)
  have h2 := List.length_take_le k s.data.toList
  have h3 : (P s k).out = tree (s.data.toList.take k) := rfl
  rw [h3]; omega
/-- How many plain bytes lie side by side at the head. -/
def pe (l : List UInt8) : Nat := (l.takeWhile plB).length
theorem pe_end (s : ByteArray) (k : Nat) (h : s.size ≤ k) : pe (s.data.toList.drop k) = 0 := by rw [drop_end s k h]; rfl
theorem pe_pl (s : ByteArray) (k : Nat) (h : k < s.size) (hp : plB s[k] = true) : pe (s.data.toList.drop k) = pe (s.data.toList.drop (k + 1)) + 1 := by
  rw [drop_cons s k h, pe, List.takeWhile_cons, if_pos hp]; rfl
theorem pe_no (s : ByteArray) (k : Nat) (h : k < s.size) (hp : plB s[k] = false) : pe (s.data.toList.drop k) = 0 := by
  rw [drop_cons s k h, pe, List.takeWhile_cons, if_neg (by simp [hp])]; rfl
theorem pe_le (s : ByteArray) (k : Nat) (hk : k ≤ s.size) : k + pe (s.data.toList.drop k) ≤ s.size := by
  have := (List.takeWhile_prefix plB (l := s.data.toList.drop k)).length_le
  simp at this; unfold pe; omega
theorem takeWhile_take {p : UInt8 → Bool} : ∀ l : List UInt8, l.takeWhile p = l.take (l.takeWhile p).length
  | [] => rfl
  | c :: l => by
    rw [List.takeWhile_cons]
    split
    · rw [List.length_cons, List.take_succ_cons, ← takeWhile_take l]
    · rfl
theorem at_drop {p : UInt8 → Bool} : ∀ (l : List UInt8) (c : UInt8) (r : List UInt8), l.dropWhile p = c :: r → l[(l.takeWhile p).length]? = some c
  | [], _, _, h => by simp at h
  | x :: l, c, r, h => by
    rw [List.dropWhile_cons] at h
    rw [List.takeWhile_cons]
    split at h
    · rename_i hp
      rw [if_pos hp]
      have := at_drop l c r h
      simpa using this
    · rename_i hp
      rw [if_neg hp]
      simp at h
      simp [h.1]
theorem pe_next (s : ByteArray) (k : Nat) (h : k + pe (s.data.toList.drop k) < s.size) : plB (s[k + pe (s.data.toList.drop k)]'h) = false := by
  have h1 := List.takeWhile_append_dropWhile (p := plB) (l := s.data.toList.drop k)
  cases hw : (s.data.toList.drop k).dropWhile plB with
  | nil =>
    rw [hw] at h1
    have h2 : (s.data.toList.drop k).length = pe (s.data.toList.drop k) := by rw [pe]; conv => lhs; rw [← h1]
                                                                              simp
    simp at h2; omega
  | cons c r =>
    have hc : plB c = false := by
      have := List.head?_dropWhile_not plB (s.data.toList.drop k)
      rw [hw] at this
      simpa using this
    have e : (s.data.toList.drop k)[pe (s.data.toList.drop k)]? = some c := at_drop _ _ _ hw
    rw [List.getElem?_drop] at e
    have e2 : s.data.toList[k + pe (s.data.toList.drop k)]? = some (s[k + pe (s.data.toList.drop k)]'h) := by
      rw [List.getElem?_eq_getElem (by simpa using h)]; rfl
    rw [e2] at e
    cases e
    exact hc
/-- Behind a run. -/
theorem P_run (s : ByteArray) (k : Nat) (hr : (P s k).r = []) : P s (k + pe (s.data.toList.drop k)) = ⟨(P s k).l, (P s k).st, (s.data.toList.drop k).takeWhile plB⟩ := by
  unfold P at *
  rw [List.take_add, feed_app, pe, ← takeWhile_take, feed_run _ _ List.all_takeWhile, hr]
  rfl

/-- Behind the first bytes of a text, from what was known on. -/
def PP (p : PS) (s : ByteArray) (k : Nat) : PS := feed p (s.data.toList.take k)
theorem PP_zero (p : PS) (s : ByteArray) : PP p s 0 = p := rfl
theorem PP_succ (p : PS) (s : ByteArray) (k : Nat) (h : k < s.size) : PP p s (k + 1) = pst (PP p s k) s[k] := by
  unfold PP; rw [take_snoc s k h, feed_snoc]
theorem PP_last (p : PS) (s : ByteArray) : PP p s s.size = feed p s.data.toList := by
  unfold PP; rw [List.take_of_length_le (by simp)]
theorem PP_run (p : PS) (s : ByteArray) (k : Nat) (hr : (PP p s k).r = []) : PP p s (k + pe (s.data.toList.drop k)) = ⟨(PP p s k).l, (PP p s k).st, (s.data.toList.drop k).takeWhile plB⟩ := by
  unfold PP at *
  rw [List.take_add, feed_app, pe, ← takeWhile_take, feed_run _ _ List.all_takeWhile, hr]
  rfl
theorem PP_sub (p : PS) (s : ByteArray) (k K : Nat) (h : k < K) (hK : K ≤ s.size) : PP p s K = feed (pst (PP p s k) (s[k]'(by omega))) ((s.data.toList.drop (k + 1)).take (K - (k + 1))) := by
  rw [← PP_succ p s k (by omega)]
  unfold PP
  rw [← feed_app]
  congr 1
  rw [← List.take_add, show k + 1 + (K - (k + 1)) = K by omega]
theorem PP_len (p : PS) (s : ByteArray) (k : Nat) : (PP p s k).out.length ≤ p.out.length + k := by
  have := feed_len (s.data.toList.take k) p
  have h2 := List.length_take_le k s.data.toList
  unfold PP; omega
end Go.Proofs.YtbmnciejaknonauDoor.Doc1
