/- The program's GoodSeq. -/
import Derived.Test.YtnhooalibadeeabDoorSqW3
set_option linter.unusedVariables false
namespace Go.Proofs.YtnhooalibadeeabDoor
open Go.RowKit
open Doc1

def sbA (x : Am) (l : List Am) : Bool := begA x || (decide (x.above < x.time) && l.any (at2 x.above x.maker))

set_option maxRecDepth 100000 in
set_option maxHeartbeats 2000000 in
theorem standsBehind_any {w : World} {a : Option Addr} {cap : Nat} {l : List Am} (h : AmIn w a cap l) (hln : l.length ≤ 1048576) (x : Am) {n : Int} (hn : n = (l.length : Int)) :
    Calls Tryd.prog 47 #[amV x, .slice a n.toNat cap] w fun e w' => e = .returned (.bool (sbA x l)) ∧ Below w.heap.size w w' := by
  subst hn
  rw [Int.toNat_natCast]
  have hb1 : Below w.heap.size w (w.alloc (.cells #[.int .i64 x.time, .int .i64 x.actor, .int .i64 x.above, .int .i64 x.maker, .string x.byte, .bool x.gone] 47)) := (Below.refl _ _).alloc (Nat.le_refl _) _
  obtain ⟨w1, hw1⟩ : ∃ w1, w1 = w.alloc (.cells #[.int .i64 x.time, .int .i64 x.actor, .int .i64 x.above, .int .i64 x.maker, .string x.byte, .bool x.gone] 47) := ⟨_, rfl⟩
  rw [← hw1] at hb1
  have BX : Hid (BxA w1 w.heap.size x) := hide (by rw [hw1]; exact BxA.new _ _)
  have HB := hide hb1
  have H := hide (h.later hb1)
  have A := hide (fun w => above_any x w)
  have N := hide (fun (w' : World) (hb : Below w1.heap.size w1 w') => numberOf_any (H.out.later hb) hln x.above x.maker)
  have FX : Hid (decide (0 ≤ fidx (at2 x.above x.maker) l) = l.any (at2 x.above x.maker)) := hide (fidx_any _ _)
  obtain ⟨F, hF⟩ : ∃ F, F = fidx (at2 x.above x.maker) l := ⟨_, rfl⟩
  rw [← hF] at FX N
  obtain ⟨R, hR⟩ : ∃ R, R = sbA x l := ⟨_, rfl⟩
  rw [← hR]
  have HR := hide hR
  have hV : amV x = .agg #[.int .i64 x.time, .int .i64 x.actor, .int .i64 x.above, .int .i64 x.maker, .string x.byte, .bool x.gone] := rfl
  rw [hV] at A ⊢
  have EQ := eq_id
  clear hV hR hb1 h hF
  obtain ⟨m0, m1, m2, m3, m4, m5⟩ := BX.out.cells
  have D : Hid (begA x = (x.above == 0 && x.maker == 0)) := hide rfl
  by_cases qb : begA x = true
  · have HE : Hid (R = true) := hide (by rw [HR.out]; unfold sbA; rw [qb]; rfl)
    have qb' : (x.above == 0 && x.maker == 0) = true := qb
    have q1 : (x.above == 0) = true := by simp at qb'; rw [qb'.1]; rfl
    have q2 : (x.maker == 0) = true := by simp at qb'; rw [qb'.2]; rfl
    clear qb qb'
    go_enter Tryd.func47, Tryd.ntmps47
    go_wp2_with fail
    rw [← hw1]
    clear hw1
    refine (A.out _).mono ?_
    rintro e w2 ⟨rfl, hb2⟩
    go_wp2
    go_ret
    exact ⟨ret_bool (by rw [HE.out]), HB.out.trans (hb2.mono HB.out.size)⟩
  · have qb' : ¬ (x.above = 0 ∧ x.maker = 0) := by intro c; apply qb; unfold begA; rw [c.1, c.2]; rfl
    have HE : Hid (R = (decide (x.above < x.time) && decide (0 ≤ F))) := hide (by rw [HR.out, FX.out]; unfold sbA; rw [show begA x = false by simpa using qb]; rfl)
    have D2 : Hid ((x.above == 0) = false ∨ ((x.above == 0) = true ∧ (x.maker == 0) = false)) := hide (by
      by_cases c : x.above = 0
      · exact .inr ⟨by rw [c]; rfl, by rw [beq_eq_false_iff_ne]; exact fun d => qb' ⟨c, d⟩⟩
      · exact .inl (by rw [beq_eq_false_iff_ne]; exact c))
    clear qb qb'
    by_cases qt : x.above < x.time
    · have HE2 : Hid (R = decide (0 ≤ F)) := hide (by rw [HE.out, decide_eq_true qt]; rfl)
      have q4 : decide (x.above < x.time) = true := decide_eq_true qt
      clear qt
      rcases D2.out with e1 | ⟨e1, e2⟩
      · go_enter Tryd.func47, Tryd.ntmps47
        go_wp2_with fail
        rw [← hw1]
        clear hw1
        refine (A.out _).mono ?_
        rintro e w2 ⟨rfl, hb2⟩
        clear m0 m1 m2 m3 m4 m5
        obtain ⟨m0, m1, m2, m3, m4, m5⟩ := (BX.out.later hb2).cells
        have HB2 := hide hb2
        clear hb2
        go_wp2_with fail
        refine (A.out _).mono ?_
        rintro e w3 ⟨rfl, hb3⟩
        have HB3 := hide (HB2.out.trans (hb3.mono HB2.out.size))
        clear hb3
        go_wp2_with fail
        refine (N.out _ HB3.out).mono ?_
        rintro e w4 ⟨rfl, hb4⟩
        go_wp2
        go_ret
        exact ⟨ret_bool (by rw [HE2.out]), HB.out.trans ((HB3.out.trans (hb4.mono HB3.out.size)).mono HB.out.size)⟩
      · go_enter Tryd.func47, Tryd.ntmps47
        go_wp2_with fail
        rw [← hw1]
        clear hw1
        refine (A.out _).mono ?_
        rintro e w2 ⟨rfl, hb2⟩
        clear m0 m1 m2 m3 m4 m5
        obtain ⟨m0, m1, m2, m3, m4, m5⟩ := (BX.out.later hb2).cells
        have HB2 := hide hb2
        clear hb2
        go_wp2_with fail
        refine (A.out _).mono ?_
        rintro e w3 ⟨rfl, hb3⟩
        have HB3 := hide (HB2.out.trans (hb3.mono HB2.out.size))
        clear hb3
        go_wp2_with fail
        refine (N.out _ HB3.out).mono ?_
        rintro e w4 ⟨rfl, hb4⟩
        go_wp2
        go_ret
        exact ⟨ret_bool (by rw [HE2.out]), HB.out.trans ((HB3.out.trans (hb4.mono HB3.out.size)).mono HB.out.size)⟩
    · have HE2 : Hid (R = false) := hide (by rw [HE.out, decide_eq_false qt]; rfl)
      have q4 : decide (x.above < x.time) = false := decide_eq_false qt
      clear qt
      rcases D2.out with e1 | ⟨e1, e2⟩
      · go_enter Tryd.func47, Tryd.ntmps47
        go_wp2_with fail
        rw [← hw1]
        clear hw1
        refine (A.out _).mono ?_
        rintro e w2 ⟨rfl, hb2⟩
        clear m0 m1 m2 m3 m4 m5
        obtain ⟨m0, m1, m2, m3, m4, m5⟩ := (BX.out.later hb2).cells
        go_wp2
        go_ret
        exact ⟨ret_bool (by rw [HE2.out]), HB.out.trans (hb2.mono HB.out.size)⟩
      · go_enter Tryd.func47, Tryd.ntmps47
        go_wp2_with fail
        rw [← hw1]
        clear hw1
        refine (A.out _).mono ?_
        rintro e w2 ⟨rfl, hb2⟩
        clear m0 m1 m2 m3 m4 m5
        obtain ⟨m0, m1, m2, m3, m4, m5⟩ := (BX.out.later hb2).cells
        go_wp2
        go_ret
        exact ⟨ret_bool (by rw [HE2.out]), HB.out.trans (hb2.mono HB.out.size)⟩
end Go.Proofs.YtnhooalibadeeabDoor
