/- The law of AddMark: whatever the marks and the mark, it answers true and turns nothing old. -/
import Derived.Test.YtknodkdlphngmawAddS2
import Derived.Test.YtknodkdlphngmawMarkW3
import Derived.Deep.Cut
import Derived.Deep.CutRange
import Derived.Deep.RegionHeld3
namespace Go.Proofs.Ytknodkdlphngmaw
open Go.RowKit
open Doc1

theorem rsT_len (ok : Bool) (L : List Mk) : (RsT ok L).length ≤ 10000000 := by
  unfold RsT; split
  · rename_i h; have := h.2; omega
  · simp
theorem add_both (l : List Mk) (size : Int) (m : Mk) (hs : m.style.size ≤ 1048576) (hf : szMrn l ≤ 1048576) :
    ∃ (T : List Mk) (b : Bool), T.length ≤ 10000000 ∧ (∀ (w : World) (g : Nat), MrCp w g l → Calls Try.prog 12 #[.slice (some ⟨g, 0, none⟩) l.length l.length, .int .i64 size, .agg #[.int .i64 m.frm, .int .i64 m.to, .string m.style]] w fun e w' => ∃ v, e = .returned (.tuple #[v, .bool b]) ∧ MrOwn w' w.heap.size v T ∧ Below w.heap.size w w') ∧
      (∀ (w : World) (g : Nat), MrCp w g l → Calls Try.prog 14 #[.slice (some ⟨g, 0, none⟩) l.length l.length, .int .i64 size, .agg #[.int .i64 m.frm, .int .i64 m.to, .string m.style]] w fun e w' => ∃ v, e = .returned (.tuple #[v, .bool b]) ∧ MrOwn w' w.heap.size v T ∧ Below w.heap.size w w') :=
  ⟨RsT (goodM l size && mkOk size m) (addL l m), RsB (goodM l size && mkOk size m) (addL l m), rsT_len _ _, fun _ _ h => addS size m hs (h.mrIn hf), fun _ _ h => addI size m hs (h.mrIn hf) (fun _ h1 => goodMarksI size h1)⟩

set_option maxRecDepth 100000 in
set_option maxHeartbeats 8000000 in
theorem law_addMark (vl : Value) (l : List Mk) (size : Int) (m : Mk) (w : World) (hal : ArgMr w vl l) (hrl : (∀ i (hi : i < l.length), (l[i].style.size ≤ 9223372036854775807) ∧ -9223372036854775808 ≤ l[i].frm ∧ l[i].frm ≤ 9223372036854775807 ∧ -9223372036854775808 ≤ l[i].to ∧ l[i].to ≤ 9223372036854775807)) (hmm : m.style.size ≤ maxLen) :
    Calls Try.prog 4 #[vl, .int .i64 size, .agg #[.int .i64 m.frm, .int .i64 m.to, .string m.style]] w fun e w' => e = .returned (.bool true) ∧ Below w.heap.size w w' := by
  unfold maxLen at hmm
  have hll := argMr_len hal
  have hrSl := fun i hi => (hrl i hi).1
  have hb0 : Below w.heap.size w (w.alloc (.cells #[.int .i64 m.frm, .int .i64 m.to, .string m.style] 30)) := (Below.refl _ _).alloc (Nat.le_refl _) _
  have bx0 := bx3_new w m 30
  obtain ⟨wb, hwb⟩ : ∃ wb, wb = w.alloc (.cells #[.int .i64 m.frm, .int .i64 m.to, .string m.style] 30) := ⟨_, rfl⟩
  rw [← hwb] at hb0 bx0
  have hsb : wb.heap.size = w.heap.size + 1 := by rw [hwb]; simp
  have HA0 := hal.later hb0
  have SM := fun (lf : Nat) w' h => szMark_any m lf w' h hmm
  unfold mrV at SM
  by_cases fsl : szMrn l ≤ 1048576
  · by_cases fsm : m.style.size ≤ 1048576 - szMrn l
    · skip
      obtain ⟨T0, T1, len0, HS, HI⟩ := add_both l size m (by omega) fsl
      replace HS := hide HS
      replace HI := hide HI
      have Zl := hide (fun w' (h : ArgMr w' vl l) (lf : Nat) (hlf : lf ≤ 1048576) => szMr_from h hrSl hll lf hlf)
      have Cl : Hid (∀ w', ArgMr w' vl l → Calls Try.prog 8 #[vl] w' fun e w'' => e = .returned (.slice (some ⟨w'.heap.size, 0, none⟩) l.length l.length) ∧ MrCp w'' w'.heap.size l ∧ Below w'.heap.size w' w'') := hide (fun w' h => toMr_cp h (by have := fsl; unfold szMrn at this; omega))
      have HAl := hide hal
      have hbl : l.length ≤ 1048576 := by have := fsl; unfold szMrn at this; omega
      have KM := fun w' => toMark_any m w'
      unfold mrV at KM
      replace KM := hide KM
      replace SM := hide SM
      have hB := hb0
      have bx := bx0
      have s0 := hide hsb
      clear hal hrl hrSl hb0 bx0 hsb
      go_enter Try.func4, Try.ntmps4
      have Yl := hide (Zl.out wb HA0 1048576 (by omega))
      go_wp2_with fail
      rw [← hwb]
      clear hwb
      refine (Yl.out).mono ?_
      rintro e w1 ⟨rfl, hb1⟩
      rw [if_pos fsl]
      replace bx := bx.up hb1
      have s1 := hide hb1.size
      replace hB := hB.trans (hb1.mono hB.size)
      clear hb1
      obtain ⟨p0, p1, p2⟩ := bx.cells
      go_wp2_with fail
      refine (SM.out (1048576 - szMrn l) _ (by omega)).mono ?_
      rintro e w2 ⟨rfl, hb2⟩
      rw [if_pos fsm]
      clear p0 p1 p2
      replace bx := bx.up hb2
      have s2 := hide hb2.size
      replace hB := hB.trans (hb2.mono hB.size)
      clear hb2
      go_wp2_with fail
      have KC := hide (fun w' (h : Below w2.heap.size w2 w') => Cl.out w' (HAl.out.later (hB.trans (h.mono hB.size))))
      have KB := hide (fun w' (h : Below w2.heap.size w2 w') => (bx.up h).cells)
      go_cut [8, 9] from 28 to 36 (fun x y wx => ∃ v0, v0 = x ∧ y = .bool T1 ∧ MrOwn wx w2.heap.size v0 T0 ∧ Below w2.heap.size w2 wx)
      case first =>
        go_region_held3 (fun w' => w'.cell? ⟨w.heap.size, 0, none⟩ = some (.int .i64 m.frm) ∧ w'.cell? ⟨w.heap.size, 1, none⟩ = some (.int .i64 m.to) ∧ w'.cell? ⟨w.heap.size, 2, none⟩ = some (.string m.style))
          (first | assumption | exact KB.out _ (Below.refl _ _) | exact KB.out _ (Below.refl _ _).drew | exact KB.out _ hbx1 | exact KB.out _ hbx2 | exact KB.out _ hbx3)
          (first
            | (go_at_call 8; refine (KC.out _ (by first | exact Below.refl _ _ | exact (Below.refl _ _).drew)).mono ?_; rintro e wa ⟨rfl, ca, hba⟩; have hbx1 : Below w2.heap.size w2 wa := (by first | exact hba | exact (Below.refl _ _).drew.trans hba))
            | (go_at_call 13; refine (KM.out _).mono ?_; rintro e wd ⟨rfl, hbd⟩; have hbx2 : Below w2.heap.size w2 wd := hbx1.trans (hbd.mono hbx1.size))
            | (go_at_call 12; refine (HS.out _ _ (ca.later hbd)).mono ?_; rintro e wf ⟨vx, rfl, ox, hbf⟩; have hbx3 : Below w2.heap.size w2 wf := hbx2.trans (hbf.mono hbx2.size)))
        all_goals
          go_wp2_with fail
          go_meet
          case rel => exact ⟨_, rfl, rfl, MrOwn.mono ox hbx2.size, hbx3⟩
      case rest =>
      clear KC KB
      obtain ⟨x0, hv0, hy0, ox0, hb3⟩ := hcut
      subst hv0 hy0
      have lx0 := hide ox0.lt
      replace bx := bx.up hb3
      have s3 := hide hb3.size
      replace hB := hB.trans (hb3.mono hB.size)
      clear hb3
      go_wp2_with fail
      refine (Cl.out wc (HAl.out.later hB)).mono ?_
      rintro e w4 ⟨rfl, cb, hb4⟩
      have tb := hide cb.lt
      replace bx := bx.up hb4
      replace ox0 := own_below ox0 hb4
      have s4 := hide hb4.size
      replace hB := hB.trans (hb4.mono hB.size)
      clear hb4
      obtain ⟨p0, p1, p2⟩ := bx.cells
      go_wp2_with fail
      refine (KM.out _).mono ?_
      rintro e w5 ⟨rfl, hb5⟩
      clear p0 p1 p2
      replace bx := bx.up hb5
      replace ox0 := own_below ox0 hb5
      replace cb := cb.later hb5
      have s5 := hide hb5.size
      replace hB := hB.trans (hb5.mono hB.size)
      clear hb5
      go_wp2_with fail
      refine (HI.out _ _ cb).mono ?_
      rintro e w6 ⟨y0, rfl, oy0, hb6⟩
      have ly0 := hide oy0.lt
      replace bx := bx.up hb6
      replace ox0 := own_below ox0 hb6
      replace cb := cb.later hb6
      have s6 := hide hb6.size
      replace hB := hB.trans (hb6.mono hB.size)
      clear hb6
      go_wp2_with fail
      refine (eqMr_own oy0 ox0 (by omega)).mono ?_
      rintro e w7 ⟨rfl, hb7⟩
      replace bx := bx.up hb7
      replace ox0 := own_below ox0 hb7
      replace cb := cb.later hb7
      replace oy0 := own_below oy0 hb7
      have s7 := hide hb7.size
      replace hB := hB.trans (hb7.mono hB.size)
      clear hb7
      go_wp2_with fail
      refine (Cl.out w7 (HAl.out.later hB)).mono ?_
      rintro e w8 ⟨rfl, cc, hb8⟩
      replace bx := bx.up hb8
      replace ox0 := own_below ox0 hb8
      replace cb := cb.later hb8
      replace oy0 := own_below oy0 hb8
      have s8 := hide hb8.size
      replace hB := hB.trans (hb8.mono hB.size)
      clear hb8
      go_wp2_with fail
      refine (eqMr_cp cb cc (by omega)).mono ?_
      rintro e w9 ⟨rfl, hb9⟩
      clear cc
      replace bx := bx.up hb9
      replace ox0 := own_below ox0 hb9
      replace cb := cb.later hb9
      replace oy0 := own_below oy0 hb9
      have s9 := hide hb9.size
      replace hB := hB.trans (hb9.mono hB.size)
      clear hb9
      go_wp2_with fail
      refine (markMr_cp cb (by omega)).mono ?_
      rintro e w10 ⟨rfl, hb10⟩
      clear cb
      replace bx := bx.block (hb10.block w.heap.size bx.lt (fun e => by have q0 := s0.out; have q1 := s1.out; have q2 := s2.out; have q3 := s3.out; have q4 := s4.out; have q5 := tb.out; have q6 := s5.out; have q7 := s6.out; have q8 := s7.out; have q9 := s8.out; have q10 := s9.out; have u1 := Option.some.inj e.symm; omega))
      replace ox0 := own_grown ox0 hb10 (fun b hb' e => by have q0 := s0.out; have q1 := s1.out; have q2 := s2.out; have q3 := s3.out; have q4 := s4.out; have q5 := tb.out; have q6 := s5.out; have q7 := s6.out; have q8 := s7.out; have q9 := s8.out; have q10 := s9.out; have u1 := Option.some.inj e; have u0 := lx0.out b hb'; omega)
      replace oy0 := own_grown oy0 hb10 (fun b hb' e => by have q0 := s0.out; have q1 := s1.out; have q2 := s2.out; have q3 := s3.out; have q4 := s4.out; have q5 := tb.out; have q6 := s5.out; have q7 := s6.out; have q8 := s7.out; have q9 := s8.out; have q10 := s9.out; have u1 := Option.some.inj e; have u0 := ly0.out b hb'; omega)
      have s10 := hide hb10.size
      replace hB := hB.grown hb10 hB.size (fun b e => by have q0 := s0.out; have q1 := s1.out; have q2 := s2.out; have q3 := s3.out; have q4 := s4.out; have q5 := tb.out; have q6 := s5.out; have q7 := s6.out; have q8 := s7.out; have q9 := s8.out; have q10 := s9.out; have u1 := Option.some.inj e; omega)
      clear hb10
      go_wp2_with fail
      refine (eqMr_own oy0 ox0 (by omega)).mono ?_
      rintro e w11 ⟨rfl, hb11⟩
      replace bx := bx.up hb11
      replace ox0 := own_below ox0 hb11
      replace oy0 := own_below oy0 hb11
      have s11 := hide hb11.size
      replace hB := hB.trans (hb11.mono hB.size)
      clear hb11
      go_wp2_with fail
      refine (markMr_own oy0 (by omega)).mono ?_
      rintro e w12 ⟨rfl, hb12, m0⟩
      clear oy0
      replace bx := bx.block (hb12.block w.heap.size bx.lt (fun e => by have q0 := s0.out; have q1 := s1.out; have q2 := s2.out; have q3 := s3.out; have q4 := s4.out; have q5 := tb.out; have q6 := s5.out; have q7 := s6.out; have q8 := s7.out; have q9 := s8.out; have q10 := s9.out; have q11 := s10.out; have q12 := s11.out; have u1 := ly0.out _ e.symm; omega))
      replace ox0 := own_grown ox0 hb12 (fun b hb' e => by have q0 := s0.out; have q1 := s1.out; have q2 := s2.out; have q3 := s3.out; have q4 := s4.out; have q5 := tb.out; have q6 := s5.out; have q7 := s6.out; have q8 := s7.out; have q9 := s8.out; have q10 := s9.out; have q11 := s10.out; have q12 := s11.out; have u1 := ly0.out _ e; have u0 := lx0.out b hb'; omega)
      have s12 := hide hb12.size
      replace hB := hB.grown hb12 hB.size (fun b e => by have q0 := s0.out; have q1 := s1.out; have q2 := s2.out; have q3 := s3.out; have q4 := s4.out; have q5 := tb.out; have q6 := s5.out; have q7 := s6.out; have q8 := s7.out; have q9 := s8.out; have q10 := s9.out; have q11 := s10.out; have q12 := s11.out; have u1 := ly0.out _ e; omega)
      clear hb12
      go_wp2_with fail
      refine (heldMr_own m0 (by omega)).mono ?_
      rintro e w13 ⟨rfl, hb13⟩
      replace bx := bx.up hb13
      replace ox0 := own_below ox0 hb13
      replace m0 := m0.later hb13
      have s13 := hide hb13.size
      replace hB := hB.trans (hb13.mono hB.size)
      clear hb13
      go_wp2_with fail
      have KC := hide (fun w' (h : Below w13.heap.size w13 w') => Cl.out w' (HAl.out.later (hB.trans (h.mono hB.size))))
      have KB := hide (fun w' (h : Below w13.heap.size w13 w') => (bx.up h).cells)
      go_cut [16, 17] from 88 to 96 (fun x y wx => ∃ v0, v0 = x ∧ y = .bool T1 ∧ MrOwn wx w13.heap.size v0 T0 ∧ Below w13.heap.size w13 wx)
      case first =>
        go_region_held3 (fun w' => w'.cell? ⟨w.heap.size, 0, none⟩ = some (.int .i64 m.frm) ∧ w'.cell? ⟨w.heap.size, 1, none⟩ = some (.int .i64 m.to) ∧ w'.cell? ⟨w.heap.size, 2, none⟩ = some (.string m.style))
          (first | assumption | exact KB.out _ (Below.refl _ _) | exact KB.out _ (Below.refl _ _).drew | exact KB.out _ hbx1 | exact KB.out _ hbx2 | exact KB.out _ hbx3)
          (first
            | (go_at_call 8; refine (KC.out _ (by first | exact Below.refl _ _ | exact (Below.refl _ _).drew)).mono ?_; rintro e wa ⟨rfl, ca, hba⟩; have hbx1 : Below w13.heap.size w13 wa := (by first | exact hba | exact (Below.refl _ _).drew.trans hba))
            | (go_at_call 13; refine (KM.out _).mono ?_; rintro e wd ⟨rfl, hbd⟩; have hbx2 : Below w13.heap.size w13 wd := hbx1.trans (hbd.mono hbx1.size))
            | (go_at_call 14; refine (HI.out _ _ (ca.later hbd)).mono ?_; rintro e wf ⟨vx, rfl, ox, hbf⟩; have hbx3 : Below w13.heap.size w13 wf := hbx2.trans (hbf.mono hbx2.size)))
        all_goals
          go_wp2_with fail
          go_meet
          case rel => exact ⟨_, rfl, rfl, MrOwn.mono ox hbx2.size, hbx3⟩
      case rest =>
      clear KC KB
      obtain ⟨z0, hv0, hy0, oz0, hb14⟩ := hcut
      subst hv0 hy0
      have lz0 := hide oz0.lt
      replace bx := bx.up hb14
      replace ox0 := own_below ox0 hb14
      replace m0 := m0.later hb14
      have s14 := hide hb14.size
      replace hB := hB.trans (hb14.mono hB.size)
      clear hb14
      go_wp2_with fail
      refine (eqMr_own oz0 ox0 (by omega)).mono ?_
      rintro e w15 ⟨rfl, hb15⟩
      replace bx := bx.up hb15
      replace ox0 := own_below ox0 hb15
      replace m0 := m0.later hb15
      replace oz0 := own_below oz0 hb15
      have s15 := hide hb15.size
      replace hB := hB.trans (hb15.mono hB.size)
      clear hb15
      clear oz0 ox0
      go_wp2_with fail
      refine (heldMr_own m0 (by omega)).mono ?_
      rintro e w16 ⟨rfl, hb16⟩
      replace bx := bx.up hb16
      replace m0 := m0.later hb16
      have s16 := hide hb16.size
      replace hB := hB.trans (hb16.mono hB.size)
      clear hb16
      go_wp2
      go_ret
      exact ⟨rfl, hB⟩
    · have Y := hide (szMr_from HA0 hrSl hll 1048576 (by omega))
      have S := hide SM
      go_enter Try.func4, Try.ntmps4
      go_wp2_with fail
      rw [← hwb]
      clear hwb
      refine Y.out.mono ?_
      rintro e z0 ⟨rfl, hz0⟩
      rw [if_pos fsl]
      obtain ⟨p0, p1, p2⟩ := (bx0.up hz0).cells
      have hB := hb0.trans (hz0.mono hb0.size)
      go_wp2_with fail
      refine (S.out (1048576 - szMrn l) _ (by omega)).mono ?_
      rintro e z1 ⟨rfl, hz1⟩
      rw [if_neg fsm]
      clear p0 p1 p2
      go_wp2
      go_ret
      exact ⟨rfl, hB.trans (hz1.mono hB.size)⟩
  · have Y := hide (szMr_from HA0 hrSl hll 1048576 (by omega))
    go_enter Try.func4, Try.ntmps4
    go_wp2_with fail
    rw [← hwb]
    clear hwb
    refine Y.out.mono ?_
    rintro e z0 ⟨rfl, hz0⟩
    rw [if_neg fsl]
    go_wp2
    go_ret
    exact ⟨rfl, hb0.trans (hz0.mono hb0.size)⟩
end Go.Proofs.Ytknodkdlphngmaw
