/- The model's GoodSeq. -/
import Derived.Test.YtnhooalibadeeabDoorSqS1
import Derived.Deep.Cut
import Derived.Deep.CutRange
import Derived.Deep.RegionHeld3
set_option linter.unusedVariables false
namespace Go.Proofs.YtnhooalibadeeabDoor
open Go.RowKit
open Doc1

set_option maxRecDepth 100000 in
set_option maxHeartbeats 3000000 in
theorem goodSeqS {w : World} {a : Option Addr} {cap : Nat} {l : List Am} (h : SIn w a cap l) :
    Calls Tryd.prog 21 #[.agg #[.slice a l.length cap]] w fun e w' => e = .returned (.bool (goodQ l)) ∧ Below w.heap.size w w' := by
  obtain ⟨R, hR⟩ : ∃ R, R = goodQ l := ⟨_, rfl⟩
  rw [← hR]
  have HR := hide hR
  clear hR
  have H := hide h
  have hcp := h.inn.le
  have hln := h.len
  have hb0 : Below w.heap.size w (w.alloc (.cells #[.slice a l.length cap] 28)) := (Below.refl _ _).alloc (Nat.le_refl _) _
  have hc0 : CellR (w.alloc (.cells #[.slice a l.length cap] 28)) w.heap.size (.slice a l.length cap) := CellR.new _ _
  obtain ⟨w0, hw0⟩ : ∃ w0, w0 = w.alloc (.cells #[.slice a l.length cap] 28) := ⟨_, rfl⟩
  rw [← hw0] at hb0 hc0
  have k0 := hc0.cell
  have HC := hide hc0
  have H0 := hide (H.out.later hb0)
  have HB0 := hide hb0
  clear h hc0 hb0
  go_enter Tryd.func21, Tryd.ntmps21
  rw [hw0] at k0
  go_wp2
  rw [← hw0]
  rw [← hw0] at k0
  clear hw0 k0
  go_loopw [8] (fun i wr => ∃ k : Nat, k ≤ l.length ∧ i = .int .i64 k ∧ Hid (goodM l k = true) ∧ Below w0.heap.size w0 wr) (fun i _ => l.length - (intOf i).toNat)
  case atStart => exact ⟨0, by omega, rfl, hide rfl, Below.refl _ _⟩
  case round =>
    obtain ⟨k, hk, rfl, hgm, hbel⟩ := hrel
    by_cases hlt : k < l.length
    · obtain ⟨g, rfl, hg, hc⟩ := (H0.out.later hbel).inn.ad (by intro c; rw [c] at hlt; simp at hlt)
      obtain ⟨x, hx⟩ : ∃ x, x = l[k] := ⟨_, rfl⟩
      have hca := hc.amat k hlt
      rw [← hx] at hca
      obtain ⟨c0, c1, c2, c3, c4, c5⟩ := hca
      have HX := hide hx
      have hxs : x.byte.size ≤ 1048576 := by rw [hx]; exact H.out.txt k hlt
      obtain ⟨w1, hw1⟩ : ∃ w1, w1 = wr.alloc (.cells #[.int .i64 x.time, .int .i64 x.actor, .int .i64 x.above, .int .i64 x.maker, .string x.byte, .bool x.gone] 47) := ⟨_, rfl⟩
      have hb1 : Below wr.heap.size wr w1 := by rw [hw1]; exact (Below.refl _ _).alloc (Nat.le_refl _) _
      have BX : Hid (BxA w1 wr.heap.size x) := hide (by rw [hw1]; exact BxA.new _ _)
      have HB1 := hide (hbel.trans (hb1.mono hbel.size))
      have KC : Hid (∀ w', Below w1.heap.size w1 w' → w'.cell? ⟨w.heap.size, 0, none⟩ = some (.slice (some ⟨g, 0, none⟩) l.length cap)) := hide (fun w' hb => ((HC.out.later HB1.out).later hb).cell)
      have KI : Hid (∀ w', Below w1.heap.size w1 w' → SIn w' (some ⟨g, 0, none⟩) cap l ∧ CLs w' g (encAm l)) := hide (fun w' hb => ⟨(H0.out.later HB1.out).later hb, (hc.later hb1 hg).later hb (Nat.lt_of_lt_of_le hg hb1.size)⟩)
      clear hc hbel hb1 hx
      go_wp2_with fail
      rw [← hw1]
      clear hw1 c0 c1 c2 c3 c4 c5
      obtain ⟨B, hB⟩ : ∃ B, B = (isOk x && pvOk l k x) := ⟨_, rfl⟩
      have HBb := hide hB
      clear hB
      obtain ⟨m0, m1, m2, m3, m4, m5⟩ := BX.out.cells
      have k1 := KC.out w1 (Below.refl _ _)
      go_cut [49] from 13 to 49 (fun v wx => v = .bool (!B) ∧ Below w1.heap.size w1 wx)
      case first =>
        have LS := hide (fun w => l17Less_any x x w)
        have LT := hide (fun w => l1Text_any x.byte w hxs)
        by_cases q1 : 1 ≤ x.time ∧ x.time ≤ 10000
        · have L1 := hide (fun w => (l1In_any x.time 1 10000 w)); simp only [decide_eq_true q1] at L1
          have Q1 := hide q1
          clear q1
          by_cases q2 : 0 ≤ x.actor ∧ x.actor ≤ 9
          · have L2 := hide (fun w => (l1In_any x.actor 0 9 w)); simp only [decide_eq_true q2] at L2
            have Q2 := hide q2
            clear q2
            by_cases q3 : x.byte.size = 1
            · have Q3 := hide q3
              have d3 : ((x.byte.size : Int) != 1) = false := by rw [q3]; rfl
              clear q3
              have QR : Hid (rngA x = true) := hide (by unfold rngA; rw [decide_eq_true_eq]; have := Q1.out; have := Q2.out; omega)
              by_cases q4 : allOk x.byte.data.toList = true
              · have QO : Hid (isOk x = true) := hide (by unfold isOk; rw [QR.out, q4, decide_eq_true Q3.out]; rfl)
                rw [q4] at LT
                clear q4
                by_cases q5 : k = 0
                · have QP : Hid (pvOk l k x = true) := hide (by rw [q5]; rfl)
                  have z1 : decide ((0 : Int) < (k : Int)) = false := by rw [q5]; rfl
                  have z2 : decide (0 < k) = false := by rw [q5]; rfl
                  clear q5
                  clear hxs
                  go_quiet ((first | (go_at_call 43; with_reducible exact Calls.quiet_of_same (L1.out _)) | (go_at_call 43; with_reducible exact Calls.quiet_of_same (L2.out _)) | (go_at_call 44; with_reducible exact Calls.quiet_of_same (LT.out _))))
                  go_wp2
                  go_meet
                  case rel => exact ⟨by rw [HBb.out]; rw [QO.out, QP.out]; rfl, ⟨rfl, rfl, rfl, Nat.le_refl _, fun _ _ => rfl⟩⟩
                · have q6 : 0 < k := by omega
                  have z1 : decide ((0 : Int) < (k : Int)) = true := by rw [decide_eq_true_eq]; omega
                  have z2 : decide (0 < k) = true := by rw [decide_eq_true_eq]; omega
                  have hwr : IntKind.i64.wrap ((k : Int) - 1) = ((k - 1 : Nat) : Int) := by rw [IntKind.wrap_i64]; omega
                  have hpl : k - 1 < l.length := by omega
                  have QP : Hid (pvOk l k x = lt2 l[k - 1] x) := hide (by obtain ⟨j, rfl⟩ : ∃ j, k = j + 1 := ⟨k - 1, by omega⟩; exact pv_succ (by omega) x)
                  obtain ⟨y, hy⟩ : ∃ y, y = l[k - 1] := ⟨_, rfl⟩
                  have hcp2 := (KI.out w1 (Below.refl _ _)).2.amat (k - 1) hpl
                  rw [← hy] at hcp2 QP
                  have HY0 := hide hy
                  clear hy q5
                  obtain ⟨p0, p1, p2, p3, p4, p5⟩ := hcp2
                  replace LS := hide (fun w => l17Less_any y x w)
                  unfold amV at LS
                  by_cases q7 : lt2 y x = true
                  · skip
                    rw [q7] at LS QP
                    clear q7
                    clear hxs
                    have KS : Hid (∀ w', Below w1.heap.size w1 w' → w'.cell? ⟨wr.heap.size, 0, none⟩ = some (.int .i64 x.time) ∧ w'.cell? ⟨wr.heap.size, 1, none⟩ = some (.int .i64 x.actor) ∧ w'.cell? ⟨wr.heap.size, 2, none⟩ = some (.int .i64 x.above) ∧ w'.cell? ⟨wr.heap.size, 3, none⟩ = some (.int .i64 x.maker) ∧ w'.cell? ⟨wr.heap.size, 4, none⟩ = some (.string x.byte) ∧ w'.cell? ⟨wr.heap.size, 5, none⟩ = some (.bool x.gone) ∧ w'.cell? ⟨w.heap.size, 0, none⟩ = some (.slice (some ⟨g, 0, none⟩) l.length cap) ∧ w'.cell? ⟨g, (k - 1) * 6, none⟩ = some (.int .i64 y.time) ∧ w'.cell? ⟨g, (k - 1) * 6 + 1, none⟩ = some (.int .i64 y.actor) ∧ w'.cell? ⟨g, (k - 1) * 6 + 2, none⟩ = some (.int .i64 y.above) ∧ w'.cell? ⟨g, (k - 1) * 6 + 3, none⟩ = some (.int .i64 y.maker) ∧ w'.cell? ⟨g, (k - 1) * 6 + 4, none⟩ = some (.string y.byte) ∧ w'.cell? ⟨g, (k - 1) * 6 + 5, none⟩ = some (.bool y.gone)) := hide (fun w' hb => by have q := (BX.out.later hb).cells; have p := (KI.out w' hb).2.amat (k - 1) hpl; rw [← HY0.out] at p; exact ⟨q.1, q.2.1, q.2.2.1, q.2.2.2.1, q.2.2.2.2.1, q.2.2.2.2.2, KC.out w' hb, p⟩)
                    go_region_held3 (fun w' => w'.cell? ⟨wr.heap.size, 0, none⟩ = some (.int .i64 x.time) ∧ w'.cell? ⟨wr.heap.size, 1, none⟩ = some (.int .i64 x.actor) ∧ w'.cell? ⟨wr.heap.size, 2, none⟩ = some (.int .i64 x.above) ∧ w'.cell? ⟨wr.heap.size, 3, none⟩ = some (.int .i64 x.maker) ∧ w'.cell? ⟨wr.heap.size, 4, none⟩ = some (.string x.byte) ∧ w'.cell? ⟨wr.heap.size, 5, none⟩ = some (.bool x.gone) ∧ w'.cell? ⟨w.heap.size, 0, none⟩ = some (.slice (some ⟨g, 0, none⟩) l.length cap) ∧ w'.cell? ⟨g, (k - 1) * 6, none⟩ = some (.int .i64 y.time) ∧ w'.cell? ⟨g, (k - 1) * 6 + 1, none⟩ = some (.int .i64 y.actor) ∧ w'.cell? ⟨g, (k - 1) * 6 + 2, none⟩ = some (.int .i64 y.above) ∧ w'.cell? ⟨g, (k - 1) * 6 + 3, none⟩ = some (.int .i64 y.maker) ∧ w'.cell? ⟨g, (k - 1) * 6 + 4, none⟩ = some (.string y.byte) ∧ w'.cell? ⟨g, (k - 1) * 6 + 5, none⟩ = some (.bool y.gone))
                      (first | assumption | exact KS.out _ (Below.refl _ _) | exact KS.out _ (Below.refl _ _).drew | exact KS.out _ hb3)
                      (first | (go_at_call 22; refine (LS.out _).mono ?_; rintro e w2 ⟨rfl, hb2⟩; have hb3 : Below w1.heap.size w1 w2 := (by first | exact hb2 | exact (Below.refl _ _).drew.trans hb2)) | (go_at_call 44; with_reducible refine (LT.out _).mono ?_; rintro e w' ⟨rfl, hw⟩; replace hw := hw.symm; subst hw) | (go_at_call 43; with_reducible refine (L1.out _).mono ?_; rintro e w' ⟨rfl, hw⟩; replace hw := hw.symm; subst hw) | (go_at_call 43; with_reducible refine (L2.out _).mono ?_; rintro e w' ⟨rfl, hw⟩; replace hw := hw.symm; subst hw))
                    all_goals
                      go_wp2
                      go_meet
                      case rel => exact ⟨by rw [HBb.out]; rw [QO.out, QP.out]; rfl, hb3⟩
                  · have q7 : lt2 y x = false := by simpa using q7
                    rw [q7] at LS QP
                    clear q7
                    clear hxs
                    have KS : Hid (∀ w', Below w1.heap.size w1 w' → w'.cell? ⟨wr.heap.size, 0, none⟩ = some (.int .i64 x.time) ∧ w'.cell? ⟨wr.heap.size, 1, none⟩ = some (.int .i64 x.actor) ∧ w'.cell? ⟨wr.heap.size, 2, none⟩ = some (.int .i64 x.above) ∧ w'.cell? ⟨wr.heap.size, 3, none⟩ = some (.int .i64 x.maker) ∧ w'.cell? ⟨wr.heap.size, 4, none⟩ = some (.string x.byte) ∧ w'.cell? ⟨wr.heap.size, 5, none⟩ = some (.bool x.gone) ∧ w'.cell? ⟨w.heap.size, 0, none⟩ = some (.slice (some ⟨g, 0, none⟩) l.length cap) ∧ w'.cell? ⟨g, (k - 1) * 6, none⟩ = some (.int .i64 y.time) ∧ w'.cell? ⟨g, (k - 1) * 6 + 1, none⟩ = some (.int .i64 y.actor) ∧ w'.cell? ⟨g, (k - 1) * 6 + 2, none⟩ = some (.int .i64 y.above) ∧ w'.cell? ⟨g, (k - 1) * 6 + 3, none⟩ = some (.int .i64 y.maker) ∧ w'.cell? ⟨g, (k - 1) * 6 + 4, none⟩ = some (.string y.byte) ∧ w'.cell? ⟨g, (k - 1) * 6 + 5, none⟩ = some (.bool y.gone)) := hide (fun w' hb => by have q := (BX.out.later hb).cells; have p := (KI.out w' hb).2.amat (k - 1) hpl; rw [← HY0.out] at p; exact ⟨q.1, q.2.1, q.2.2.1, q.2.2.2.1, q.2.2.2.2.1, q.2.2.2.2.2, KC.out w' hb, p⟩)
                    go_region_held3 (fun w' => w'.cell? ⟨wr.heap.size, 0, none⟩ = some (.int .i64 x.time) ∧ w'.cell? ⟨wr.heap.size, 1, none⟩ = some (.int .i64 x.actor) ∧ w'.cell? ⟨wr.heap.size, 2, none⟩ = some (.int .i64 x.above) ∧ w'.cell? ⟨wr.heap.size, 3, none⟩ = some (.int .i64 x.maker) ∧ w'.cell? ⟨wr.heap.size, 4, none⟩ = some (.string x.byte) ∧ w'.cell? ⟨wr.heap.size, 5, none⟩ = some (.bool x.gone) ∧ w'.cell? ⟨w.heap.size, 0, none⟩ = some (.slice (some ⟨g, 0, none⟩) l.length cap) ∧ w'.cell? ⟨g, (k - 1) * 6, none⟩ = some (.int .i64 y.time) ∧ w'.cell? ⟨g, (k - 1) * 6 + 1, none⟩ = some (.int .i64 y.actor) ∧ w'.cell? ⟨g, (k - 1) * 6 + 2, none⟩ = some (.int .i64 y.above) ∧ w'.cell? ⟨g, (k - 1) * 6 + 3, none⟩ = some (.int .i64 y.maker) ∧ w'.cell? ⟨g, (k - 1) * 6 + 4, none⟩ = some (.string y.byte) ∧ w'.cell? ⟨g, (k - 1) * 6 + 5, none⟩ = some (.bool y.gone))
                      (first | assumption | exact KS.out _ (Below.refl _ _) | exact KS.out _ (Below.refl _ _).drew | exact KS.out _ hb3)
                      (first | (go_at_call 22; refine (LS.out _).mono ?_; rintro e w2 ⟨rfl, hb2⟩; have hb3 : Below w1.heap.size w1 w2 := (by first | exact hb2 | exact (Below.refl _ _).drew.trans hb2)) | (go_at_call 44; with_reducible refine (LT.out _).mono ?_; rintro e w' ⟨rfl, hw⟩; replace hw := hw.symm; subst hw) | (go_at_call 43; with_reducible refine (L1.out _).mono ?_; rintro e w' ⟨rfl, hw⟩; replace hw := hw.symm; subst hw) | (go_at_call 43; with_reducible refine (L2.out _).mono ?_; rintro e w' ⟨rfl, hw⟩; replace hw := hw.symm; subst hw))
                    all_goals
                      go_wp2
                      go_meet
                      case rel => exact ⟨by rw [HBb.out]; rw [QO.out, QP.out]; rfl, hb3⟩
              · have q4 : allOk x.byte.data.toList = false := by simpa using q4
                have QO : Hid (isOk x = false) := hide (by unfold isOk; rw [q4]; simp)
                rw [q4] at LT
                clear q4
                clear hxs
                go_quiet ((first | (go_at_call 43; with_reducible exact Calls.quiet_of_same (L1.out _)) | (go_at_call 43; with_reducible exact Calls.quiet_of_same (L2.out _)) | (go_at_call 44; with_reducible exact Calls.quiet_of_same (LT.out _))))
                go_wp2
                go_meet
                case rel => exact ⟨by rw [HBb.out]; rw [QO.out]; rfl, ⟨rfl, rfl, rfl, Nat.le_refl _, fun _ _ => rfl⟩⟩
            · have QO : Hid (isOk x = false) := hide (by unfold isOk; rw [decide_eq_false q3]; simp)
              have d3 : ((x.byte.size : Int) != 1) = true := by rw [bne_iff_ne]; omega
              clear q3
              clear hxs
              go_quiet ((first | (go_at_call 43; with_reducible exact Calls.quiet_of_same (L1.out _)) | (go_at_call 43; with_reducible exact Calls.quiet_of_same (L2.out _)) | (go_at_call 44; with_reducible exact Calls.quiet_of_same (LT.out _))))
              go_wp2
              go_meet
              case rel => exact ⟨by rw [HBb.out]; rw [QO.out]; rfl, ⟨rfl, rfl, rfl, Nat.le_refl _, fun _ _ => rfl⟩⟩
          · have QO : Hid (isOk x = false) := hide (by unfold isOk rngA; rw [decide_eq_false (by omega)]; rfl)
            have L2 := hide (fun w => (l1In_any x.actor 0 9 w)); simp only [decide_eq_false q2] at L2
            clear q2
            clear hxs
            go_quiet ((first | (go_at_call 43; with_reducible exact Calls.quiet_of_same (L1.out _)) | (go_at_call 43; with_reducible exact Calls.quiet_of_same (L2.out _)) | (go_at_call 44; with_reducible exact Calls.quiet_of_same (LT.out _))))
            go_wp2
            go_meet
            case rel => exact ⟨by rw [HBb.out]; rw [QO.out]; rfl, ⟨rfl, rfl, rfl, Nat.le_refl _, fun _ _ => rfl⟩⟩
        · have QO : Hid (isOk x = false) := hide (by unfold isOk rngA; rw [decide_eq_false (by omega)]; rfl)
          have L1 := hide (fun w => (l1In_any x.time 1 10000 w)); simp only [decide_eq_false q1] at L1
          clear q1
          clear hxs
          go_quiet ((first | (go_at_call 43; with_reducible exact Calls.quiet_of_same (L1.out _)) | (go_at_call 43; with_reducible exact Calls.quiet_of_same (L2.out _)) | (go_at_call 44; with_reducible exact Calls.quiet_of_same (LT.out _))))
          go_wp2
          go_meet
          case rel => exact ⟨by rw [HBb.out]; rw [QO.out]; rfl, ⟨rfl, rfl, rfl, Nat.le_refl _, fun _ _ => rfl⟩⟩
      case rest =>
        obtain ⟨rfl, hbc⟩ := hcut
        have HOK : Hid (okM l k = (B && (begA x || (decide (x.above < x.time) && l.any (at2 x.above x.maker))))) := hide (by rw [okM_at hlt, ← HX.out, HBb.out])
        have HBC := hide (HB1.out.trans (hbc.mono HB1.out.size))
        have KW := hide (KC.out wc hbc)
        have KJ := hide (KI.out wc hbc).1
        obtain ⟨m0, m1, m2, m3, m4, m5⟩ := (BX.out.later hbc).cells
        clear hbc
        have GN : Hid (okM l k = false → goodQ l = false) := hide (fun h => by unfold goodQ; rw [goodM_no hlt h]; simp)
        have GY : Hid (okM l k = true → goodM l (k + 1) = true) := hide (fun h => by rw [goodM_succ, hgm.out, h]; rfl)
        cases B with
        | false =>
          go_wp2
          go_ret
          exact ⟨ret_bool (by rw [HR.out, GN.out (by rw [HOK.out]; rfl)]), HB0.out.trans (HBC.out.mono HB0.out.size)⟩
        | true =>
          by_cases qa : x.above = 0 ∧ x.maker = 0
          · have HY : Hid (goodM l (k + 1) = true) := hide (GY.out (by rw [HOK.out]; unfold begA; rw [qa.1, qa.2]; rfl))
            have e1 : (x.above == 0) = true := by rw [qa.1]; rfl
            have e2 : (x.maker == 0) = true := by rw [qa.2]; rfl
            clear qa
            go_wp2
            refine ⟨⟨k + 1, by omega, by go_num, HY, HBC.out⟩, by simp [intOf]; omega⟩
          · have QB : Hid (begA x = false) := hide (by unfold begA; rw [Bool.eq_false_iff]; intro c; simp at c; exact qa c)
            have KW1 := KW.out
            have FX : Hid (decide (0 ≤ fidx (at2 x.above x.maker) l) = l.any (at2 x.above x.maker)) := hide (fidx_any _ _)
            have LA := hide (fun (w' : World) (hb : Below wc.heap.size wc w') => l17At_any (KJ.out.later hb).inn hln x.above x.maker)
            obtain ⟨F, hF⟩ : ∃ F, F = fidx (at2 x.above x.maker) l := ⟨_, rfl⟩
            rw [← hF] at FX LA
            clear hF
            have D : Hid ((x.above == 0) = false ∨ ((x.above == 0) = true ∧ (x.maker == 0) = false)) := hide (by
              by_cases c : x.above = 0
              · exact .inr ⟨by rw [c]; rfl, by rw [beq_eq_false_iff_ne]; exact fun d => qa ⟨c, d⟩⟩
              · exact .inl (by rw [beq_eq_false_iff_ne]; exact c))
            clear qa
            by_cases qg : x.above < x.time
            · by_cases qf : F < 0
              · have HN : Hid (goodQ l = false) := hide (GN.out (by rw [HOK.out, QB.out, ← FX.out, decide_eq_false (show ¬ 0 ≤ F by omega)]; simp))
                have qg' : decide (x.above ≥ x.time) = false := by rw [decide_eq_false_iff_not]; omega
                have qf' : decide (F < 0) = true := by rw [decide_eq_true_eq]; exact qf
                clear qg qf GN GY
                rcases D.out with e1 | ⟨e1, e2⟩
                · skip
                  go_wp2_with fail
                  refine (LA.out _ (by first | exact Below.refl _ _ | exact (Below.refl _ _).drew)).mono ?_
                  rintro e w3 ⟨rfl, hb3⟩
                  go_wp2
                  go_ret
                  exact ⟨ret_bool (by rw [HR.out, HN.out]), HB0.out.trans ((HBC.out.trans (hb3.mono HBC.out.size)).mono HB0.out.size)⟩
                · skip
                  go_wp2_with fail
                  refine (LA.out _ (by first | exact Below.refl _ _ | exact (Below.refl _ _).drew)).mono ?_
                  rintro e w3 ⟨rfl, hb3⟩
                  go_wp2
                  go_ret
                  exact ⟨ret_bool (by rw [HR.out, HN.out]), HB0.out.trans ((HBC.out.trans (hb3.mono HBC.out.size)).mono HB0.out.size)⟩
              · have HY : Hid (goodM l (k + 1) = true) := hide (GY.out (by rw [HOK.out, QB.out, ← FX.out, decide_eq_true (show 0 ≤ F by omega), decide_eq_true qg]; simp))
                have qg' : decide (x.above ≥ x.time) = false := by rw [decide_eq_false_iff_not]; omega
                have qf' : decide (F < 0) = false := by rw [decide_eq_false_iff_not]; exact qf
                clear qg qf GN GY
                rcases D.out with e1 | ⟨e1, e2⟩
                · skip
                  go_wp2_with fail
                  refine (LA.out _ (by first | exact Below.refl _ _ | exact (Below.refl _ _).drew)).mono ?_
                  rintro e w3 ⟨rfl, hb3⟩
                  go_wp2
                  refine ⟨⟨k + 1, by omega, by go_num, HY, HBC.out.trans (hb3.mono HBC.out.size)⟩, by simp [intOf]; omega⟩
                · skip
                  go_wp2_with fail
                  refine (LA.out _ (by first | exact Below.refl _ _ | exact (Below.refl _ _).drew)).mono ?_
                  rintro e w3 ⟨rfl, hb3⟩
                  go_wp2
                  refine ⟨⟨k + 1, by omega, by go_num, HY, HBC.out.trans (hb3.mono HBC.out.size)⟩, by simp [intOf]; omega⟩
            · have HN : Hid (goodQ l = false) := hide (GN.out (by rw [HOK.out, QB.out, decide_eq_false qg]; simp))
              have qg' : decide (x.above ≥ x.time) = true := by rw [decide_eq_true_eq]; omega
              clear qg GN GY
              rcases D.out with e1 | ⟨e1, e2⟩
              · skip
                go_wp2
                go_ret
                exact ⟨ret_bool (by rw [HR.out, HN.out]), HB0.out.trans (HBC.out.mono HB0.out.size)⟩
              · skip
                go_wp2
                go_ret
                exact ⟨ret_bool (by rw [HR.out, HN.out]), HB0.out.trans (HBC.out.mono HB0.out.size)⟩
    · obtain rfl : k = l.length := by omega
      have k1 := (HC.out.later hbel).cell
      have HB := hide (HB0.out.trans (hbel.mono HB0.out.size))
      clear hbel
      go_wp2
      go_ret
      refine ⟨ret_bool ?_, HB.out⟩
      rw [HR.out]
      unfold goodQ
      rw [hgm.out, Bool.and_true, Bool.eq_iff_iff]
      simp <;> omega
end Go.Proofs.YtnhooalibadeeabDoor
