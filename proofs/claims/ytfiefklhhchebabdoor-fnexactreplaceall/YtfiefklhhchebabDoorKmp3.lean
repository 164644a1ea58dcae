/- What is sought: the functions that answer of one text, of both. -/
import Derived.Test.YtfiefklhhchebabDoorKmp2
import Derived.Lib.ConvBytes
set_option linter.unusedVariables false
namespace Go.Proofs.YtfiefklhhchebabDoor
open Go.RowKit
open Doc1

theorem good_le' {s : ByteArray} (h : good s.data.toList = true) : s.size ≤ 300 := by
  unfold good at h
  rw [Bool.and_eq_true] at h
  have := of_decide_eq_true h.2
  simpa using this
theorem emp_not {s : ByteArray} (h : 0 < s.size) : s.toList.isEmpty = false := by
  rw [Lib.toList_data, List.isEmpty_eq_false_iff]
  intro e
  have : s.data.toList.length = 0 := by rw [e]; rfl
  rw [Array.length_toList] at this
  have h2 : s.data.size = s.size := rfl
  omega
theorem emp_yes {s : ByteArray} (h : s.size = 0) : s.toList.isEmpty = true := by
  rw [Lib.toList_data, List.isEmpty_iff]
  exact List.eq_nil_of_length_eq_zero (by simpa using h)
/-- It may be sought. -/
def sgt (p : ByteArray) : Bool := decide (0 < p.size) && good p.data.toList
theorem sgt_yes {p : ByteArray} (h : sgt p = true) : 0 < p.size ∧ p.size ≤ 300 ∧ good p.data.toList = true := by
  unfold sgt at h
  rw [Bool.and_eq_true] at h
  exact ⟨of_decide_eq_true h.1, good_le' h.2, h.2⟩

set_option maxHeartbeats 1000000 in
theorem isSought_any (p : ByteArray) (w : World) (hs : p.size ≤ 1048576) (hT : Tab w) :
    Calls Tryd.prog 30 #[.string p] w fun e w' => e = .returned (.bool (sgt p)) ∧ w' = w := by
  have H := goodTextI_any p w hs hT
  unfold sgt
  by_cases h0 : 0 < p.size
  · have he := emp_not h0
    rw [decide_eq_true h0, Bool.true_and]
    obtain ⟨x, hx⟩ : ∃ x, good p.data.toList = x := ⟨_, rfl⟩
    rw [hx] at H ⊢
    replace H := hide H
    clear hx
    go_enter Tryd.func30, Tryd.ntmps30
    go_wp2_with fail
    refine H.out.mono ?_
    rintro e w' ⟨rfl, hw⟩
    replace hw := hw.symm
    subst hw
    go_wp2
    go_ret
    exact ⟨rfl, rfl⟩
  · have he := emp_yes (s := p) (by omega)
    rw [decide_eq_false h0, Bool.false_and]
    clear H
    go_enter Tryd.func30, Tryd.ntmps30
    go_wp2
    go_ret
    exact ⟨rfl, rfl⟩

/-- What BordersOf tells. -/
def borO (p : ByteArray) : List Int := if sgt p then (List.range p.size).map (bF p.data.toList p.size) else []
theorem borO_len (p : ByteArray) : (borO p).length ≤ 300 := by
  unfold borO
  split
  · rename_i h; simpa using (sgt_yes h).2.1
  · simp
theorem borO_own {p : ByteArray} {w : World} {B g : Nat} (h : BrO w B g p.size (bF p.data.toList p.size)) (hs : sgt p = true) : IOwn w B (.slice (some ⟨g, 0, none⟩) p.size p.size) (borO p) := by
  unfold IOwn borO
  rw [if_pos hs, List.length_map, List.length_range]
  exact h
theorem borO_nil {p : ByteArray} (w : World) (B : Nat) (hs : sgt p = false) : IOwn w B (.slice none 0 0) (borO p) := by
  unfold IOwn borO
  rw [hs, if_neg (by simp)]
  exact World.ownsRow_nil _ _ _ _

theorem bytes_conv (p : ByteArray) (w : World) : ∃ W cap, (convert 9 45 (.string p)).run Tryd.prog w = .ok (.slice (some ⟨w.heap.size, 0, none⟩) p.size cap) W ∧ BtAt W w.heap.size p ∧ p.size ≤ cap ∧ Below w.heap.size w W ∧ W.heap.size = w.heap.size + 1 := by
  refine ⟨_, _, Lib.run_convert_string_bytes (P := Tryd.prog) w 9 45 5 p Tryd.underlying9 Tryd.underlying45 Tryd.underlying5, ⟨fun j hj => ?_, ?_⟩, grownCap_ge _ _ _ _, ?_, Lib.bytesWorld_size _ _ _⟩
  · rw [Lib.bytesWorld_cell w 5 p j hj, gd_at p j hj]
  · rw [Lib.bytesWorld_size]; omega
  · exact ⟨rfl, rfl, rfl, by rw [Lib.bytesWorld_size]; omega, fun i hi => Lib.bytesWorld_at_old w 5 p i hi⟩

set_option maxHeartbeats 1000000 in
theorem bordI_any (p : ByteArray) (w : World) (hs : p.size ≤ 1048576) (hT : Tab w) :
    Calls Tryd.prog 17 #[.string p] w fun e w' => ∃ v, e = .returned (.tuple #[v, .bool (sgt p)]) ∧ IOwn w' w.heap.size v (borO p) ∧ Below w.heap.size w w' := by
  have H := isSought_any p w hs hT
  by_cases h : sgt p = true
  · obtain ⟨h0, h1, h2⟩ := sgt_yes h
    obtain ⟨W, cap, hcv, hbt, hcap, hbw, hsz⟩ := bytes_conv p w
    have HB := hide (bordersIn_any p w.heap.size cap W hbt h0 h1 hcap)
    have HO := hide (fun w' (hh : BrO w' W.heap.size W.heap.size p.size (bF p.data.toList p.size)) => borO_own (hh.mono (Nat.le_of_lt (by omega) : w.heap.size ≤ W.heap.size)) h)
    rw [h] at H ⊢
    replace H := hide H
    replace hsz := hide hsz
    clear h h2 hbt
    go_enter Tryd.func17, Tryd.ntmps17
    go_wp2_with fail
    refine H.out.mono ?_
    rintro e w' ⟨rfl, hw⟩
    replace hw := hw.symm
    subst hw
    go_wp2_with fail
    refine HB.out.mono ?_
    rintro e w1 ⟨rfl, ho, hb1⟩
    replace ho := hide ho
    go_wp2
    go_ret2
    exact ⟨_, rfl, HO.out _ ho.out, hbw.trans (hb1.mono hbw.size)⟩
  · rw [Bool.not_eq_true] at h
    have HO := hide (borO_nil (p := p) w w.heap.size h)
    rw [h] at H ⊢
    replace H := hide H
    clear h
    go_enter Tryd.func17, Tryd.ntmps17
    go_wp2_with fail
    refine H.out.mono ?_
    rintro e w' ⟨rfl, hw⟩
    replace hw := hw.symm
    subst hw
    go_wp2
    go_ret2
    exact ⟨_, rfl, HO.out, Below.refl _ _⟩
end Go.Proofs.YtfiefklhhchebabDoor
