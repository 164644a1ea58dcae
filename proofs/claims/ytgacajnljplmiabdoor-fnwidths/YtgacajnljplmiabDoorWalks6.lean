/- The contracts of PlainOf and OutlineOf, of the model's and of the program's; their laws. -/
import Derived.Test.YtgacajnljplmiabDoorWalksQ
import Derived.Lib.BufferRead
namespace Go.Proofs.YtgacajnljplmiabDoor
open Go.RowKit
open Doc1

/-- The bytes of a text that are plain, or all others. -/
def flt (p : Bool) (l : List UInt8) : List UInt8 := l.filter (fun c => plB c == p)
theorem flt_snoc (p : Bool) (l : List UInt8) (c : UInt8) : flt p (l ++ [c]) = if (plB c == p) = true then flt p l ++ [c] else flt p l := by
  unfold flt
  rw [List.filter_append]
  by_cases h : (plB c == p) = true <;> simp [h]
theorem flt_len (p : Bool) (l : List UInt8) : (flt p l).length ≤ l.length := List.length_filter_le _ _
/-- Bytes as cells. -/
def byt (l : List UInt8) : List Value := l.map fun c => Value.int .u8 (c.toNat : Int)
theorem byt_len (l : List UInt8) : (byt l).length = l.length := List.length_map _
theorem byt_snoc (l : List UInt8) (c : UInt8) : byt (l ++ [c]) = byt l ++ [.int .u8 (c.toNat : Int)] := by simp [byt]

theorem Tryd.info5 : (Tryd.prog.info? 5).map (fun i => (i.zero, i.size, i.bytes)) = some (some (.int .u8 0), 1, 1) := by kernel_rfl

/-- A text made of a row of bytes of the call's own. -/
theorem conv_own {w : World} {B : Nat} {v : Value} {l : List UInt8} (h : w.ownsRow B 5 1 v l.length (byt l)) :
    (convert 22 9 v).run Tryd.prog w = .ok (.string ⟨l.toArray⟩) w := by
  rcases h.2 with ⟨rfl, h0⟩ | ⟨g, cap, cur, rfl, hb, hh, hle, hm, hs, ht⟩
  · obtain rfl : l = [] := List.eq_nil_of_length_eq_zero h0
    exact Lib.run_convert_nil_bytes w _ _ 5 0 Tryd.underlying22 Tryd.underlying5 Tryd.underlying9
  · refine run_convert_bytes_back w _ _ 5 ⟨g, 0, none⟩ cap l Tryd.underlying22 Tryd.underlying5 Tryd.underlying9 ?_
    intro j hj
    have := h.cells (g := g) rfl j (.int .u8 (l[j].toNat : Int)) (by simp [byt, hj])
    exact this

/-- What is known in the rounds of l1Only and bytesOf. -/
structure BAt (s : ByteArray) (p : Bool) (w : World) (v : Value) (k : Nat) (wr : World) : Prop where
  hk : k ≤ s.size
  own : wr.ownsRow w.heap.size 5 1 v (flt p (s.data.toList.take k)).length (byt (flt p (s.data.toList.take k)))
  below : Below w.heap.size w wr
theorem bat_skip {s : ByteArray} {p : Bool} {w wr : World} {v : Value} {k : Nat} (h : BAt s p w v k wr) (hlt : k < s.size) (hc : (plB s[k] == p) = false) : BAt s p w v (k + 1) wr where
  hk := hlt
  own := by rw [take_snoc s k hlt, flt_snoc, if_neg (by rw [hc]; simp)]; exact h.own
  below := h.below
theorem bat_take {s : ByteArray} {p : Bool} {w wr w2 : World} {v v' : Value} {k : Nat} {o : Obj} (h : BAt s p w v k wr) (hlt : k < s.size) (hc : (plB s[k] == p) = true)
    (hown' : w2.ownsRow w.heap.size 5 1 v' ((flt p (s.data.toList.take k)).length + 1) (byt (flt p (s.data.toList.take k)) ++ [.int .u8 (s[k].toNat : Int)])) (hg : (wr.alloc o).grownBy w2 v.ownBlock) : BAt s p w v' (k + 1) w2 where
  hk := hlt
  own := by rw [take_snoc s k hlt, flt_snoc, if_pos hc, byt_snoc, List.length_append]; exact hown'
  below := below_append h.below h.own h.below.size hg

set_option maxRecDepth 100000 in
set_option maxHeartbeats 1000000 in
theorem l1Only_any (s : ByteArray) (p : Bool) (w : World) (hs : s.size ≤ 1048576) :
    Calls Tryd.prog 123 #[.string s, .bool p] w fun e w' => e = .returned (.string ⟨(flt p s.data.toList).toArray⟩) ∧ Below w.heap.size w w' := by
  obtain ⟨i0, hi, hz0, hz1, hz2⟩ := info_parts Tryd.info5
  go_enter Tryd.func123, Tryd.ntmps123
  go_wp2
  go_loopw [5, 6] (fun v i wr => ∃ k : Nat, i = .int .i64 k ∧ BAt s p w v k wr) (fun _ i _ => s.size - (intOf i).toNat)
  case atStart => exact ⟨0, rfl, { hk := Nat.zero_le _, own := World.ownsRow_nil _ _ _ _, below := Below.refl _ _ }⟩
  case round =>
    obtain ⟨k, rfl, hat⟩ := hrel
    have hk := hat.hk
    by_cases hlt : k < s.size
    · have hown := hat.own
      have hsz := hat.below.size
      have hln : (flt p (s.data.toList.take k)).length ≤ 1048576 := by
        have h1 := flt_len p (s.data.toList.take k)
        have h2 := List.length_take_le k s.data.toList
        omega
      go_wp2_with (first
        | (go_at_call 120; refine (l1Plain_any _ _).mono ?_; rintro e w' ⟨rfl, hw⟩; replace hw := hw.symm; subst hw)
        | (at_builtin; refine wpList_append_own _ rfl _ _ 22 rfl w.heap.size 5 i0 (.int .u8 0) 1 1 Tryd.underlying22 hi hz0 hz1 hz2 rfl (by decide) _ _ _ rfl (hown.alloc _) ⟨wr.heap.size, 0, none⟩ 1 1 [.int .u8 (s[k].toNat : Int)] rfl rfl ?c1 ?c2 ?c3 ?c4 ?c5 ?_))
      case c1 => exact cell_one_new _ _ _
      case c2 => intro u hu; simp at hu; subst hu; rfl
      case c3 => unfold maxLen; omega
      case c4 => omega
      case c5 => simp; omega
      · intro v' w2 hown' hgrow _
        have A := bat_take hat hlt ‹_› hown' hgrow
        clear hown' hgrow hown hat
        go_wp2
        go_roundw
        case rel => exact ⟨k + 1, by go_num, A⟩
        case measure => simp [intOf]; omega
      · have A := bat_skip hat hlt ‹_›
        go_roundw
        case rel => exact ⟨k + 1, by go_num, A⟩
        case measure => simp [intOf]; omega
    · have e : s.data.toList.take k = s.data.toList := List.take_of_length_le (by simp; omega)
      have hown := hat.own
      rw [e] at hown
      have hcv := conv_own hown
      have hb := hat.below
      clear hat hown e
      go_wp2
      go_ret
      exact ⟨rfl, hb⟩

theorem kp_of {c : UInt8} {p b : Bool} (h : ((kd c == 1) == p) = b) : (plB c == p) = b := by rw [← kd_pl]; exact h

set_option maxRecDepth 100000 in
set_option maxHeartbeats 1000000 in
theorem bytesOf_any (s : ByteArray) (p : Bool) (w : World) (hs : s.size ≤ 1048576) (hT : Tab w) :
    Calls Tryd.prog 116 #[.string s, .bool p] w fun e w' => e = .returned (.string ⟨(flt p s.data.toList).toArray⟩) ∧ Below w.heap.size w w' := by
  obtain ⟨i0, hi, hz0, hz1, hz2⟩ := info_parts Tryd.info5
  go_enter Tryd.func116, Tryd.ntmps116
  go_wp2
  go_loopw [5, 6] (fun v i wr => ∃ k : Nat, i = .int .i64 k ∧ BAt s p w v k wr) (fun _ i _ => s.size - (intOf i).toNat)
  case atStart => exact ⟨0, rfl, { hk := Nat.zero_le _, own := World.ownsRow_nil _ _ _ _, below := Below.refl _ _ }⟩
  case round =>
    obtain ⟨k, rfl, hat⟩ := hrel
    have hk := hat.hk
    by_cases hlt : k < s.size
    · have hown := hat.own
      have hsz := hat.below.size
      have hT2 : Tab wr := hT.below hat.below
      have hln : (flt p (s.data.toList.take k)).length ≤ 1048576 := by
        have h1 := flt_len p (s.data.toList.take k)
        have h2 := List.length_take_le k s.data.toList
        omega
      go_wp2_with (first
        | (go_at_call 133; refine (kindOf_any _ _ hT2).mono ?_; rintro e w' ⟨rfl, hw⟩; replace hw := hw.symm; subst hw)
        | (at_builtin; refine wpList_append_own _ rfl _ _ 22 rfl w.heap.size 5 i0 (.int .u8 0) 1 1 Tryd.underlying22 hi hz0 hz1 hz2 rfl (by decide) _ _ _ rfl (hown.alloc _) ⟨wr.heap.size, 0, none⟩ 1 1 [.int .u8 (s[k].toNat : Int)] rfl rfl ?c1 ?c2 ?c3 ?c4 ?c5 ?_))
      case c1 => exact cell_one_new _ _ _
      case c2 => intro u hu; simp at hu; subst hu; rfl
      case c3 => unfold maxLen; omega
      case c4 => omega
      case c5 => simp; omega
      · intro v' w2 hown' hgrow _
        have A := bat_take hat hlt (kp_of ‹_›) hown' hgrow
        clear hown' hgrow hown hat
        go_wp2
        go_roundw
        case rel => exact ⟨k + 1, by go_num, A⟩
        case measure => simp [intOf]; omega
      · have A := bat_skip hat hlt (kp_of ‹_›)
        go_roundw
        case rel => exact ⟨k + 1, by go_num, A⟩
        case measure => simp [intOf]; omega
    · have e : s.data.toList.take k = s.data.toList := List.take_of_length_le (by simp; omega)
      have hown := hat.own
      rw [e] at hown
      have hcv := conv_own hown
      have hb := hat.below
      clear hat hown e
      go_wp2
      go_ret
      exact ⟨rfl, hb⟩

set_option maxRecDepth 100000 in
set_option maxHeartbeats 400000 in
theorem plainOfS_any (s : ByteArray) (w : World) (hs : s.size ≤ 1048576) :
    Calls Tryd.prog 64 #[.string s] w fun e w' => e = .returned (.tuple #[.string (if good s.data.toList = true then ⟨(flt true s.data.toList).toArray⟩ else ⟨#[]⟩), .bool (good s.data.toList)]) ∧ Below w.heap.size w w' := by
  have H1 := goodTextS_any s w hs
  have H2 := hide (l1Only_any s true w hs)
  by_cases hg : good s.data.toList = true
  · rw [hg] at H1
    rw [if_pos hg, hg]
    replace H1 := hide H1
    clear hg
    go_enter Tryd.func64, Tryd.ntmps64
    go_wp2_with (first | (go_at_call 14; refine H1.out.mono ?_; rintro e w' ⟨rfl, hw⟩; replace hw := hw.symm; subst hw) | (go_at_call 123; refine H2.out.mono ?_; rintro e w' ⟨rfl, hb⟩))
    go_ret2
    exact ⟨rfl, hb⟩
  · rw [Bool.eq_false_iff.2 hg] at H1
    rw [if_neg hg, Bool.eq_false_iff.2 hg]
    replace H1 := hide H1
    clear hg
    go_enter Tryd.func64, Tryd.ntmps64
    go_wp2_with (go_at_call 14; refine H1.out.mono ?_; rintro e w' ⟨rfl, hw⟩; replace hw := hw.symm; subst hw)
    go_ret2
    exact ⟨rfl, Below.refl _ _⟩

set_option maxRecDepth 100000 in
set_option maxHeartbeats 400000 in
theorem plainOfI_any (s : ByteArray) (w : World) (hs : s.size ≤ 1048576) (hT : Tab w) :
    Calls Tryd.prog 60 #[.string s] w fun e w' => e = .returned (.tuple #[.string (if good s.data.toList = true then ⟨(flt true s.data.toList).toArray⟩ else ⟨#[]⟩), .bool (good s.data.toList)]) ∧ Below w.heap.size w w' := by
  have H1 := goodTextI_any s w hs hT
  have H2 := hide (bytesOf_any s true w hs hT)
  clear hT
  by_cases hg : good s.data.toList = true
  · rw [hg] at H1
    rw [if_pos hg, hg]
    replace H1 := hide H1
    clear hg
    go_enter Tryd.func60, Tryd.ntmps60
    go_wp2_with (first | (go_at_call 92; refine H1.out.mono ?_; rintro e w' ⟨rfl, hw⟩; replace hw := hw.symm; subst hw) | (go_at_call 116; refine H2.out.mono ?_; rintro e w' ⟨rfl, hb⟩))
    go_ret2
    exact ⟨rfl, hb⟩
  · rw [Bool.eq_false_iff.2 hg] at H1
    rw [if_neg hg, Bool.eq_false_iff.2 hg]
    replace H1 := hide H1
    clear hg
    go_enter Tryd.func60, Tryd.ntmps60
    go_wp2_with (go_at_call 92; refine H1.out.mono ?_; rintro e w' ⟨rfl, hw⟩; replace hw := hw.symm; subst hw)
    go_ret2
    exact ⟨rfl, Below.refl _ _⟩

end Go.Proofs.YtgacajnljplmiabDoor
