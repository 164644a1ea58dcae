/- Cutting at a byte, as the library has it; the last blank of a line. -/
import Derived.Test.YtmjehpigfkobeabDoorCutS
import Derived.Test.YtmjehpigfkobeabDoorSeal
import Derived.Lib.IndexMore
import Derived.Lib.LastIndexByte
set_option linter.unusedVariables false
namespace Go.Proofs.YtmjehpigfkobeabDoor
open Go.RowKit Go.Shelf
open Doc1

theorem idx_ct (b : UInt8) : ∀ l : List UInt8, (Lib.indexByte l b = -1 ∧ ctL b l = (l, [], false)) ∨ ∃ i : Nat, Lib.indexByte l b = i ∧ ctL b l = (l.take i, l.drop (i + 1), true)
  | [] => .inl ⟨rfl, rfl⟩
  | c :: l => by
    have e : ctL b (c :: l) = if c = b then ([], l, true) else (c :: (ctL b l).1, (ctL b l).2.1, (ctL b l).2.2) := rfl
    by_cases h : c = b
    · refine .inr ⟨0, ?_, ?_⟩
      · unfold Lib.indexByte; simp [h]
      · rw [e, if_pos h]; rfl
    · rw [e, if_neg h]
      rcases idx_ct b l with ⟨h1, h2⟩ | ⟨i, h1, h2⟩
      · refine .inl ⟨?_, by rw [h2]⟩
        unfold Lib.indexByte
        simp [h, h1]
      · refine .inr ⟨i + 1, ?_, by rw [h2]; rfl⟩
        unfold Lib.indexByte
        simp [h, h1]
theorem cut_ct (b : UInt8) (l : List UInt8) : Lib.cut l [b] = ctL b l := by
  unfold Lib.cut
  rw [Lib.index_one]
  rcases idx_ct b l with ⟨h1, h2⟩ | ⟨i, h1, h2⟩
  · rw [h1, h2, if_neg (by omega)]
  · rw [h1, h2, if_pos (by omega)]
    simp

/-- Where the last blank of a line stands, 0 where it has none; and what stands ahead of it. -/
def lbk (s : ByteArray) : Nat := (Lib.lastIndexByte s 32).toNat
def hdO (s : ByteArray) : ByteArray := s.extract 0 (lbk s)
def whO (s : ByteArray) : Bool := decide (s = seB (hdO s))
theorem at_get (s : ByteArray) (j : Nat) (h : j < s.size) : (s.data[j]!).toNat = s[j].toNat := by
  have hd : j < s.data.size := h
  rw [getElem!_pos s.data j hd]; rfl
/-- The last blank, told by what stands behind it. -/
theorem lbk_is {s : ByteArray} {k : Nat} (hk : k < s.size) (h : s[k].toNat = 32) (hn : ∀ j (hj : j < s.size), k < j → s[j].toNat ≠ 32) : Lib.lastIndexByte s 32 = k := by
  rcases Lib.lastIndexByte_spec s 32 with ⟨e, h1⟩ | ⟨i, hi, e, h1, h2⟩
  · have := h1 k hk
    rw [at_get s k hk] at this
    omega
  · rw [e]
    rw [at_get s i hi] at h1
    have c1 : ¬ k < i := fun c => hn i hi c (by omega)
    have c2 : ¬ i < k := fun c => by
      have := h2 k c hk
      rw [at_get s k hk] at this
      omega
    omega
theorem lbk_none {s : ByteArray} (hn : ∀ j (hj : j < s.size), s[j].toNat ≠ 32) : Lib.lastIndexByte s 32 = -1 := by
  rcases Lib.lastIndexByte_spec s 32 with ⟨e, h1⟩ | ⟨i, hi, e, h1, h2⟩
  · exact e
  · rw [at_get s i hi] at h1
    exact absurd (by omega) (hn i hi)
theorem seB_list (h : ByteArray) : (seB h).data.toList = h.data.toList ++ (32 :: (dig (sumL h.data.toList) ++ [10])) := by
  unfold seB baD
  simp only [apdB]
  simp
/-- No line without a blank, and none without its end, is whole. -/
theorem wh_blank {s : ByteArray} (hn : ∀ j (hj : j < s.size), s[j].toNat ≠ 32) : whO s = false := by
  unfold whO
  refine decide_eq_false fun e => ?_
  have hl := congrArg (fun x : ByteArray => x.data.toList) e
  simp only [seB_list] at hl
  have hm : (32 : UInt8) ∈ s.data.toList := by rw [hl]; simp
  obtain ⟨j, hj, hje⟩ := List.getElem_of_mem hm
  have hj2 : j < s.size := by rw [sz_list]; exact hj
  have := hn j hj2
  refine this ?_
  show (s.data[j]).toNat = 32
  have : s.data[j] = 32 := by simpa using hje
  rw [this]; rfl
theorem wh_end {s : ByteArray} (h : s.data.toList.getLast? ≠ some 10) : whO s = false := by
  unfold whO
  refine decide_eq_false fun e => h ?_
  have hl := congrArg (fun x : ByteArray => x.data.toList) e
  simp only [seB_list] at hl
  rw [hl, show (32 :: (dig (sumL (hdO s).data.toList) ++ [10])) = (32 :: dig (sumL (hdO s).data.toList)) ++ [10] from rfl, ← List.append_assoc, List.getLast?_concat]

end Go.Proofs.YtmjehpigfkobeabDoor
