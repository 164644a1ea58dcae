/- numberOf; an atom that is good by itself. -/
import Derived.Test.YtnhooalibadeeabDoorSqW2
import Derived.Deep.Cut
import Derived.Deep.CutRange
import Derived.Deep.RegionHeld3
set_option linter.unusedVariables false
namespace Go.Proofs.YtnhooalibadeeabDoor
open Go.RowKit
open Doc1

set_option maxRecDepth 100000 in
set_option maxHeartbeats 2000000 in
theorem indexA_any {w : World} {a : Option Addr} {cap : Nat} {l : List Am} (h : AmIn w a cap l) (hln : l.length ≤ 1048576) (b : Nat) (t m : Int) (hb : BxI w b t m) :
    Calls Tryd.prog 48 #[.slice a l.length cap, .func (.func 49) #[] #[.pointer (some ⟨b, 0, none⟩)]] w fun e w' => e = .returned (.int .i64 (fidx (at2 t m) l)) ∧ Below w.heap.size w w' := by
  obtain ⟨R, hR⟩ : ∃ R, R = fidx (at2 t m) l := ⟨_, rfl⟩
  rw [← hR]
  have HR := hide hR
  clear hR
  have H := hide h
  have HBI := hide hb
  have hcp := h.le
  clear h hb
  go_enter Tryd.func48, Tryd.ntmps48
  go_wp2
  go_loopw [8] (fun i wr => ∃ k : Nat, k ≤ l.length ∧ i = .int .i64 k ∧ Hid (∀ x ∈ l.take k, at2 t m x = false) ∧ Below w.heap.size w wr) (fun i _ => l.length - (intOf i).toNat)
  case atStart => exact ⟨0, by omega, rfl, hide (by simp), Below.refl _ _⟩
  case round =>
    obtain ⟨k, hk, rfl, hno, hbel⟩ := hrel
    by_cases hlt : k < l.length
    · obtain ⟨g, rfl, hg, hc⟩ := (H.out.later hbel).ad (by intro c; rw [c] at hlt; simp at hlt)
      obtain ⟨c0, c1, c2, c3, c4, c5⟩ := hc.amat k hlt
      have N := hide (numberOf1_any l[k] b t m wr (HBI.out.later hbel))
      have HB := hide hbel
      clear hc hbel
      unfold amV at N
      by_cases hp : at2 t m l[k] = true
      · rw [hp] at N
        have HP := hide hp
        clear hp
        go_wp2_with (go_at_call 49; refine N.out.mono ?_; rintro e w2 ⟨rfl, hb2⟩)
        go_ret
        refine ⟨ret_i2 ?_, HB.out.trans (hb2.mono HB.out.size)⟩
        rw [HR.out, fidx_some hlt hno.out HP.out]
      · have hp' : at2 t m l[k] = false := by simpa using hp
        have HY : Hid (∀ x ∈ l.take (k + 1), at2 t m x = false) := hide (by
          rw [List.take_succ_eq_append_getElem hlt]
          intro p hp
          rcases List.mem_append.1 hp with c | c
          · exact hno.out p c
          · simp at c; subst c; exact hp')
        rw [hp'] at N
        clear hp hp'
        go_wp2_with (go_at_call 49; refine N.out.mono ?_; rintro e w2 ⟨rfl, hb2⟩)
        refine ⟨⟨k + 1, by omega, by go_num, HY, HB.out.trans (hb2.mono HB.out.size)⟩, by simp [intOf]; omega⟩
    · obtain rfl : k = l.length := by omega
      have hall := hno.out
      rw [List.take_length] at hall
      have HA := hide hall
      clear hall
      go_wp2
      go_ret
      refine ⟨ret_i2 ?_, hbel⟩
      rw [HR.out, fidx_none HA.out]

set_option maxRecDepth 100000 in
set_option maxHeartbeats 1000000 in
theorem numberOf_any {w : World} {a : Option Addr} {cap : Nat} {l : List Am} (h : AmIn w a cap l) (hln : l.length ≤ 1048576) (t m : Int) :
    Calls Tryd.prog 27 #[.slice a l.length cap, .agg #[.int .i64 t, .int .i64 m]] w fun e w' => e = .returned (.int .i64 (fidx (at2 t m) l)) ∧ Below w.heap.size w w' := by
  have hb1 : Below w.heap.size w (w.alloc (.cells #[.int .i64 t, .int .i64 m] 52)) := (Below.refl _ _).alloc (Nat.le_refl _) _
  have N := hide (indexA_any (h.later hb1) hln w.heap.size t m (BxI.new w t m))
  have HB := hide hb1
  clear h hb1
  go_enter Tryd.func27, Tryd.ntmps27
  go_wp2_with (go_at_call 48; refine N.out.mono ?_; rintro e w2 ⟨rfl, hb2⟩)
  go_ret
  exact ⟨rfl, HB.out.trans (hb2.mono HB.out.size)⟩

set_option maxRecDepth 100000 in
set_option maxHeartbeats 2000000 in
theorem isGoodA_any (x : Am) (w : World) (hx : x.byte.size ≤ 1048576) (hT : Tab w) :
    Calls Tryd.prog 46 #[amV x] w fun e w' => e = .returned (.bool (isOk x)) ∧ Below w.heap.size w w' := by
  have hb1 : Below w.heap.size w (w.alloc (.cells #[.int .i64 x.time, .int .i64 x.actor, .int .i64 x.above, .int .i64 x.maker, .string x.byte, .bool x.gone] 47)) := (Below.refl _ _).alloc (Nat.le_refl _) _
  obtain ⟨w1, hw1⟩ : ∃ w1, w1 = w.alloc (.cells #[.int .i64 x.time, .int .i64 x.actor, .int .i64 x.above, .int .i64 x.maker, .string x.byte, .bool x.gone] 47) := ⟨_, rfl⟩
  rw [← hw1] at hb1
  have BX : Hid (BxA w1 w.heap.size x) := hide (by rw [hw1]; exact BxA.new _ _)
  have HB := hide hb1
  have G := hide (fun w' (hb : Below w1.heap.size w1 w') => goodTextI_any x.byte w' hx ((hT.below hb1).below hb))
  obtain ⟨R, hR⟩ : ∃ R, R = isOk x := ⟨_, rfl⟩
  rw [← hR]
  have HR := hide hR
  have hV : amV x = .agg #[.int .i64 x.time, .int .i64 x.actor, .int .i64 x.above, .int .i64 x.maker, .string x.byte, .bool x.gone] := rfl
  rw [hV]
  clear hV hR hb1 hT hx
  obtain ⟨m0, m1, m2, m3, m4, m5⟩ := BX.out.cells
  by_cases qr : rngA x = true
  · have q : 1 ≤ x.time ∧ x.time ≤ 10000 ∧ 0 ≤ x.actor ∧ x.actor ≤ 9 := by unfold rngA at qr; simpa using qr
    obtain ⟨q1, q2, q3, q4⟩ := q
    have HQ := hide qr
    clear qr
    by_cases q5 : x.byte.size = 1
    · have HE : Hid (isOk x = good x.byte.data.toList) := hide (by
        have hl : x.byte.data.toList.length = 1 := by rw [Array.length_toList]; exact q5
        unfold isOk good; rw [HQ.out, decide_eq_true q5, hl]; simp)
      rw [← HR.out] at HE
      obtain ⟨b, hb⟩ : ∃ b, b = good x.byte.data.toList := ⟨_, rfl⟩
      rw [← hb] at HE G
      have d5 : ((x.byte.size : Int) == 1) = true := by rw [q5]; rfl
      clear q5 hb
      go_enter Tryd.func46, Tryd.ntmps46
      go_wp2_with fail
      rw [← hw1]
      clear hw1
      go_wp2_with (go_at_call 62; refine (G.out _ (Below.refl _ _)).mono ?_; rintro e w' ⟨rfl, hw⟩; replace hw := hw.symm; subst hw)
      go_ret
      exact ⟨ret_bool (by rw [HE.out]), HB.out⟩
    · have HE : Hid (isOk x = false) := hide (by unfold isOk; rw [decide_eq_false q5]; simp)
      rw [← HR.out] at HE
      have d5 : ((x.byte.size : Int) == 1) = false := by rw [beq_eq_false_iff_ne]; omega
      clear q5
      go_enter Tryd.func46, Tryd.ntmps46
      rw [hw1] at m0 m1 m2 m3 m4 m5
      go_wp2
      go_ret
      exact ⟨ret_bool (by rw [HE.out]), by rw [← hw1]; exact HB.out⟩
  · have HE : Hid (isOk x = false) := hide (by unfold isOk; rw [show rngA x = false by simpa using qr]; simp)
    rw [← HR.out] at HE
    have q : ¬ (1 ≤ x.time ∧ x.time ≤ 10000 ∧ 0 ≤ x.actor ∧ x.actor ≤ 9) := by unfold rngA at qr; simpa using qr
    have HQ := hide q
    clear q qr
    rw [hw1] at m0 m1 m2 m3 m4 m5
    by_cases q1 : 1 ≤ x.time
    · by_cases q2 : x.time ≤ 10000
      · by_cases q3 : 0 ≤ x.actor
        · have q4 : ¬ x.actor ≤ 9 := by have := HQ.out; omega
          go_enter Tryd.func46, Tryd.ntmps46
          go_wp2
          go_ret
          exact ⟨ret_bool (by rw [HE.out]), by rw [← hw1]; exact HB.out⟩
        · go_enter Tryd.func46, Tryd.ntmps46
          go_wp2
          go_ret
          exact ⟨ret_bool (by rw [HE.out]), by rw [← hw1]; exact HB.out⟩
      · go_enter Tryd.func46, Tryd.ntmps46
        go_wp2
        go_ret
        exact ⟨ret_bool (by rw [HE.out]), by rw [← hw1]; exact HB.out⟩
    · go_enter Tryd.func46, Tryd.ntmps46
      go_wp2
      go_ret
      exact ⟨ret_bool (by rw [HE.out]), by rw [← hw1]; exact HB.out⟩
end Go.Proofs.YtnhooalibadeeabDoor
