/- NewServer, LastSeq and TextAt, of both. -/
import Derived.Test.YtkjioadmebkaoabDoorSrvM
set_option linter.unusedVariables false
namespace Go.Proofs.YtkjioadmebkaoabDoor
open Go.RowKit
open Doc1

/-- The text of a new server. -/
def nsT (s : ByteArray) : ByteArray := if good s.data.toList = true then s else ⟨#[]⟩
def nsS (s : ByteArray) : ByteArray := nsT s
def nsL (_ : ByteArray) : List En := []

/-- LastSeq's answer. -/
noncomputable def lsB (s t : ByteArray) (l : List En) (c : Int) : Bool := goodSv s t l && decide (0 ≤ c ∧ c ≤ 9)
noncomputable def lsN (s t : ByteArray) (l : List En) (c : Int) : Int := if lsB s t l c = true then lastS l c l.length else 0
/-- TextAt's answer. -/
noncomputable def taB (s t : ByteArray) (l : List En) (v : Int) : Bool := goodSv s t l && decide (0 ≤ v ∧ v ≤ (l.length : Int))
noncomputable def taT (s t : ByteArray) (l : List En) (v : Int) : ByteArray := if taB s t l v = true then tx s l v.toNat else ⟨#[]⟩

set_option maxRecDepth 100000 in
set_option maxHeartbeats 4000000 in
theorem l15Last_any {S : Nat → Prop} {w : World} {v : Value} {s t : ByteArray} {l : List En} (c : Int) (h : ER S w v l) (hl : l.length ≤ 1048576) :
    Calls Tryd.prog 80 #[.agg #[.string s, .string t, v], .int .i64 c] w fun e w' => e = .returned (.int .i64 (lastS l c l.length)) ∧ Below w.heap.size w w' := by
  obtain ⟨a, cap, g, off, vs, rfl, hE⟩ := h.ein
  obtain ⟨w1, hw1⟩ : ∃ w1, w1 = w.alloc (.cells #[.string s, .string t, .slice a l.length cap] 50) := ⟨_, rfl⟩
  have hb1 : Below w.heap.size w w1 := by rw [hw1]; exact (Below.refl _ _).alloc (Nat.le_refl _) _
  have HB := hide hb1
  have HE := hide (hE.later hb1)
  clear h hE hb1
  go_enter Tryd.func80, Tryd.ntmps80
  go_wp2
  rw [← hw1]
  clear hw1
  go_loopw [5, 11] (fun x i wr => ∃ k : Nat, k ≤ l.length ∧ i = .int .i64 k ∧ x = .int .i64 (lastS l c k) ∧ Below w1.heap.size w1 wr) (fun _ i _ => l.length - (intOf i).toNat)
  case atStart => exact ⟨0, by omega, rfl, rfl, Below.refl _ _⟩
  case round =>
    obtain ⟨k, hk, rfl, rfl, hbel⟩ := hrel
    by_cases hlt : k < l.length
    · obtain ⟨rfl, hc1, hc2, hd0⟩ := HE.out (by omega)
      have hd := hd0.later hbel
      have c2 := hd.c k hlt
      obtain ⟨c0, c1⟩ := hd.ua k hlt (Nat.zero_le _)
      obtain ⟨ax, cx, ex⟩ := (hd.op k hlt (Nat.zero_le _)).shp
      rw [ex] at c2
      have HBx : Hid (∀ o, Below w1.heap.size w1 (wr.alloc o)) := hide (fun o => hbel.alloc hbel.size _)
      have hls : lastS l c (k + 1) = if l[k].cl = c then l[k].sq else lastS l c k := by show (if (eAt l k).cl = c then _ else _) = _; rw [eAt_eq hlt]
      clear hd hd0 ex
      by_cases heq : l[k].cl = c
      · rw [if_pos heq] at hls
        have HL := hide hls
        clear hls
        go_wp2
        refine ⟨⟨k + 1, by omega, by go_num, by rw [HL.out], HBx.out _⟩, by simp [intOf]; omega⟩
      · rw [if_neg heq] at hls
        have HL := hide hls
        clear hls
        go_wp2
        refine ⟨⟨k + 1, by omega, by go_num, by rw [HL.out], HBx.out _⟩, by simp [intOf]; omega⟩
    · obtain rfl : k = l.length := by omega
      have HB2 := hide (HB.out.trans (hbel.mono HB.out.size))
      clear hbel
      go_wp2
      go_ret
      exact ⟨rfl, HB2.out⟩

end Go.Proofs.YtkjioadmebkaoabDoor
