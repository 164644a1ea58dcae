/- The contracts of PlainOf and OutlineOf, of the model's and of the program's; their laws. -/
import Derived.Test.YtmjehpigfkobeabDoorWalksQ
import Derived.Lib.BufferRead
namespace Go.Proofs.YtmjehpigfkobeabDoor
open Go.RowKit
open Doc1

/-- The bytes of a text that are plain, or all others. -/
def flt (p : Bool) (l : List UInt8) : List UInt8 := l.filter (fun c => plB c == p)
theorem flt_snoc (p : Bool) (l : List UInt8) (c : UInt8) : flt p (l ++ [c]) = if (plB c == p) = true then flt p l ++ [c] else flt p l := by
  unfold flt
  rw [List.filter_append]
  by_cases h : (plB c == p) = true <;> simp [h]
theorem flt_len (p : Bool) (l : List UInt8) : (flt p l).length ≤ l.length := List.length_filter_le _ _
/-- Bytes as cells. -/
def byt (l : List UInt8) : List Value := l.map fun c => Value.int .u8 (c.toNat : Int)
theorem byt_len (l : List UInt8) : (byt l).length = l.length := List.length_map _
theorem byt_snoc (l : List UInt8) (c : UInt8) : byt (l ++ [c]) = byt l ++ [.int .u8 (c.toNat : Int)] := by simp [byt]

theorem Tryd.info5 : (Tryd.prog.info? 5).map (fun i => (i.zero, i.size, i.bytes)) = some (some (.int .u8 0), 1, 1) := by kernel_rfl

/-- A text made of a row of bytes of the call's own. -/
theorem conv_own {w : World} {B : Nat} {v : Value} {l : List UInt8} (h : w.ownsRow B 5 1 v l.length (byt l)) :
    (convert 62 9 v).run Tryd.prog w = .ok (.string ⟨l.toArray⟩) w := by
  rcases h.2 with ⟨rfl, h0⟩ | ⟨g, cap, cur, rfl, hb, hh, hle, hm, hs, ht⟩
  · obtain rfl : l = [] := List.eq_nil_of_length_eq_zero h0
    exact Lib.run_convert_nil_bytes w _ _ 5 0 Tryd.underlying62 Tryd.underlying5 Tryd.underlying9
  · refine run_convert_bytes_back w _ _ 5 ⟨g, 0, none⟩ cap l Tryd.underlying62 Tryd.underlying5 Tryd.underlying9 ?_
    intro j hj
    have := h.cells (g := g) rfl j (.int .u8 (l[j].toNat : Int)) (by simp [byt, hj])
    exact this

/-- What is known in the rounds of l1Only and bytesOf. -/
structure BAt (s : ByteArray) (p : Bool) (w : World) (v : Value) (k : Nat) (wr : World) : Prop where
  hk : k ≤ s.size
  own : wr.ownsRow w.heap.size 5 1 v (flt p (s.data.toList.take k)).length (byt (flt p (s.data.toList.take k)))
  below : Below w.heap.size w wr
theorem bat_skip {s : ByteArray} {p : Bool} {w wr : World} {v : Value} {k : Nat} (h : BAt s p w v k wr) (hlt : k < s.size) (hc : (plB s[k] == p) = false) : BAt s p w v (k + 1) wr where
  hk := hlt
  own := by rw [take_snoc s k hlt, flt_snoc, if_neg (by rw [hc]; simp)]; exact h.own
  below := h.below
theorem bat_take {s : ByteArray} {p : Bool} {w wr w2 : World} {v v' : Value} {k : Nat} {o : Obj} (h : BAt s p w v k wr) (hlt : k < s.size) (hc : (plB s[k] == p) = true)
    (hown' : w2.ownsRow w.heap.size 5 1 v' ((flt p (s.data.toList.take k)).length + 1) (byt (flt p (s.data.toList.take k)) ++ [.int .u8 (s[k].toNat : Int)])) (hg : (wr.alloc o).grownBy w2 v.ownBlock) : BAt s p w v' (k + 1) w2 where
  hk := hlt
  own := by rw [take_snoc s k hlt, flt_snoc, if_pos hc, byt_snoc, List.length_append]; exact hown'
  below := below_append h.below h.own h.below.size hg

theorem kp_of {c : UInt8} {p b : Bool} (h : ((kd c == 1) == p) = b) : (plB c == p) = b := by rw [← kd_pl]; exact h

end Go.Proofs.YtmjehpigfkobeabDoor
