/- The model's l17Less, l17At and GoodSeq. -/
import Derived.Test.YtnhooalibadeeabDoorSqIn
set_option linter.unusedVariables false
namespace Go.Proofs.YtnhooalibadeeabDoor
open Go.RowKit
open Doc1

set_option maxRecDepth 100000 in
set_option maxHeartbeats 1000000 in
theorem l17Less_any (x y : Am) (w : World) :
    Calls Tryd.prog 22 #[amV x, amV y] w fun e w' => e = .returned (.bool (lt2 x y)) ∧ Below w.heap.size w w' := by
  unfold amV
  obtain ⟨R, hR⟩ : ∃ R, R = lt2 x y := ⟨_, rfl⟩
  rw [← hR]
  unfold lt2 at hR
  have HR := hide hR
  clear hR
  go_enter Tryd.func22, Tryd.ntmps22
  go_wp2
  all_goals
    go_ret
    refine ⟨ret_bool ?_, ((Below.refl _ _).alloc (Nat.le_refl _) _).alloc (by simp) _⟩
    rw [HR.out, Bool.eq_iff_iff]; simp; omega

set_option maxRecDepth 100000 in
set_option maxHeartbeats 2000000 in
theorem l17At_any {w : World} {a : Option Addr} {cap : Nat} {l : List Am} (h : AmIn w a cap l) (hln : l.length ≤ 1048576) (t m : Int) :
    Calls Tryd.prog 39 #[.slice a l.length cap, .int .i64 t, .int .i64 m] w fun e w' => e = .returned (.int .i64 (fidx (at2 t m) l)) ∧ Below w.heap.size w w' := by
  obtain ⟨R, hR⟩ : ∃ R, R = fidx (at2 t m) l := ⟨_, rfl⟩
  rw [← hR]
  have HR := hide hR
  clear hR
  have H := hide h
  have hcp := h.le
  clear h
  go_enter Tryd.func39, Tryd.ntmps39
  go_wp2
  go_loopw [11] (fun i wr => ∃ k : Nat, k ≤ l.length ∧ i = .int .i64 k ∧ Hid (∀ x ∈ l.take k, at2 t m x = false) ∧ Below w.heap.size w wr) (fun i _ => l.length - (intOf i).toNat)
  case atStart => exact ⟨0, by omega, rfl, hide (by simp), Below.refl _ _⟩
  case round =>
    obtain ⟨k, hk, rfl, hno, hbel⟩ := hrel
    by_cases hlt : k < l.length
    · obtain ⟨g, rfl, hg, hc⟩ := (H.out.later hbel).ad (by intro c; rw [c] at hlt; simp at hlt)
      obtain ⟨c0, c1, c2, c3, c4, c5⟩ := hc.amat k hlt
      have HB := hide (fun o => hbel.alloc hbel.size o)
      clear hc hbel
      by_cases hp : at2 t m l[k] = true
      · have q : l[k].time = t ∧ l[k].actor = m := by unfold at2 at hp; simpa using hp
        have HP := hide hp
        have q1 := q.1
        have q2 := q.2
        clear q hp
        have d1 : (l[k].time == t) = true := by simp [q1]
        have d2 : (l[k].actor == m) = true := by simp [q2]
        clear q1 q2
        go_wp2
        go_ret
        refine ⟨ret_i2 ?_, HB.out _⟩
        rw [HR.out, fidx_some hlt hno.out HP.out]
      · have hp' : at2 t m l[k] = false := by simpa using hp
        have HY : Hid (∀ x ∈ l.take (k + 1), at2 t m x = false) := hide (by
          rw [List.take_succ_eq_append_getElem hlt]
          intro p hp
          rcases List.mem_append.1 hp with c | c
          · exact hno.out p c
          · simp at c; subst c; exact hp')
        unfold at2 at hp'
        clear hp
        by_cases d1 : l[k].time = t
        · have d2 : (l[k].actor == m) = false := by rw [d1] at hp'; simpa using hp'
          have d1 : (l[k].time == t) = true := by simp [d1]
          clear hp'
          go_wp2
          refine ⟨⟨k + 1, by omega, by go_num, HY, HB.out _⟩, by simp [intOf]; omega⟩
        · have d1 : (l[k].time == t) = false := by simp [d1]
          clear hp'
          go_wp2
          refine ⟨⟨k + 1, by omega, by go_num, HY, HB.out _⟩, by simp [intOf]; omega⟩
    · obtain rfl : k = l.length := by omega
      have hall := hno.out
      rw [List.take_length] at hall
      have HA := hide hall
      clear hall
      go_wp2
      go_ret
      refine ⟨ret_i2 ?_, hbel⟩
      rw [HR.out, fidx_none HA.out]
end Go.Proofs.YtnhooalibadeeabDoor
