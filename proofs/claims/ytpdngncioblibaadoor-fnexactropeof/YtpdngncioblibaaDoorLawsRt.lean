/- The walks of the exact laws of chapter 12. -/
import Derived.Test.YtpdngncioblibaaDoorLawRpA
set_option linter.unusedVariables false
namespace Go.Proofs.YtpdngncioblibaaDoor
open Go.RowKit
open Doc1

set_option maxRecDepth 100000 in
set_option maxHeartbeats 8000000 in
theorem law_ropeOf (s : ByteArray) (w : World) (hms : s.size ≤ maxLen) (hT : Tab w) :
    Calls Tryd.prog 6 #[.string s] w fun e w' => e = .returned (.bool true) ∧ Below w.heap.size w w' := by
  unfold maxLen at hms
  by_cases fss : s.size ≤ 1048576
  · skip
    have HTb := hide hT
    have hB := hide (Below.refl w.heap.size w)
    clear hT
    have HS := hide (fun w' => ropeOfS s w' (by omega))
    have HI := hide (fun w' hT => ropeOfI s w' (by omega) hT)
    obtain ⟨R0, hR0⟩ : ∃ R, roL s = R := ⟨_, rfl⟩
    obtain ⟨R1, hR1⟩ : ∃ R, roB s = R := ⟨_, rfl⟩
    simp only [hR0, hR1] at HS HI
    have hlr0 : R0.length ≤ 1000000 := by rw [← hR0]; exact roL_len _
    clear hR0 hR1
    go_enter Tryd.func6, Tryd.ntmps6
    have H3 := hide (HS.out w)
    go_wp2_with fail
    refine (H3.out).mono ?_
    rintro e w1 ⟨x0, rfl, ox0, hb2⟩
    clear H3
    obtain ⟨ax0, cx0, rfl, -⟩ := own_shp ox0
    have Lx0 : Hid (∀ y, (Value.slice ax0 R0.length cx0).ownBlock = some y → w.heap.size ≤ y ∧ y < w1.heap.size) := hide (fun y hy => World.ownsRow.lt ox0 y hy)
    have Ox0 := hide ox0
    clear ox0
    have z4 := hide hb2.size
    replace hB := hide (hB.out.trans (hb2.mono hB.out.size))
    clear hb2
    obtain ⟨w5, hw6⟩ : ∃ wq0, wq0 = w1.alloc (.cells #[.slice ax0 R0.length cx0] 26) := ⟨_, rfl⟩
    have hb7 : Below w1.heap.size w1 w5 := by rw [hw6]; exact (Below.refl _ _).alloc (Nat.le_refl _) _
    have e8 : Hid (w5.heap.size = w1.heap.size + 1) := hide (by rw [hw6]; simp)
    have X9 : Hid (CellT 26 w5 w1.heap.size (.slice ax0 R0.length cx0)) := hide (by rw [hw6]; exact CellT.new _ _ _)
    replace Ox0 := hide (own_below Ox0.out hb7)
    have z10 := hide hb7.size
    replace hB := hide (hB.out.trans (hb7.mono hB.out.size))
    clear hb7
    have H13 := hide (HI.out w5 (HTb.out.below hB.out))
    go_wp2_with fail
    rw [← hw6]
    clear hw6
    refine (H13.out).mono ?_
    rintro e w11 ⟨y0, rfl, oy0, hb12⟩
    clear H13
    obtain ⟨ay0, cy0, rfl, -⟩ := own_shp oy0
    have Ly0 : Hid (∀ y, (Value.slice ay0 R0.length cy0).ownBlock = some y → w5.heap.size ≤ y ∧ y < w11.heap.size) := hide (fun y hy => World.ownsRow.lt oy0 y hy)
    have Oy0 := hide oy0
    clear oy0
    replace X9 := hide (X9.out.later hb12)
    replace Ox0 := hide (own_below Ox0.out hb12)
    have z14 := hide hb12.size
    replace hB := hide (hB.out.trans (hb12.mono hB.out.size))
    clear hb12
    obtain ⟨w15, hw16⟩ : ∃ wq0, wq0 = w11.alloc (.cells #[.slice ay0 R0.length cy0] 26) := ⟨_, rfl⟩
    have hb17 : Below w11.heap.size w11 w15 := by rw [hw16]; exact (Below.refl _ _).alloc (Nat.le_refl _) _
    have e18 : Hid (w15.heap.size = w11.heap.size + 1) := hide (by rw [hw16]; simp)
    have X19 : Hid (CellT 26 w15 w11.heap.size (.slice ay0 R0.length cy0)) := hide (by rw [hw16]; exact CellT.new _ _ _)
    replace X9 := hide (X9.out.later hb17)
    replace Ox0 := hide (own_below Ox0.out hb17)
    replace Oy0 := hide (own_below Oy0.out hb17)
    have z20 := hide hb17.size
    replace hB := hide (hB.out.trans (hb17.mono hB.out.size))
    clear hb17
    have k24 := X19.out.cell
    rw [hw16] at k24
    have k25 := X9.out.cell
    rw [hw16] at k25
    have E23 := hide (eqRope_own Oy0.out Ox0.out (by omega))
    go_wp2_with fail
    rw [← hw16]
    clear hw16
    refine (E23.out).mono ?_
    rintro e w21 ⟨rfl, hb22⟩
    clear E23 k24 k25
    replace X9 := hide (X9.out.later hb22)
    replace X19 := hide (X19.out.later hb22)
    replace Ox0 := hide (own_below Ox0.out hb22)
    replace Oy0 := hide (own_below Oy0.out hb22)
    have z26 := hide hb22.size
    replace hB := hide (hB.out.trans (hb22.mono hB.out.size))
    clear hb22
    have k31 := X19.out.cell
    have M29 := hide (markRope_own Oy0.out (by omega))
    have em0 : decide (((1 + R0.length * 5 : Nat) : Int) < 0) = false := by rw [decide_eq_false_iff_not]; omega
    obtain ⟨KM, hKM⟩ : ∃ KM : Int, ((1 + R0.length * 5 : Nat) : Int) = KM := ⟨_, rfl⟩
    rw [hKM] at em0 M29
    have HKM := hide hKM
    clear hKM
    have em1 : (KM != KM) = false := by simp
    go_wp2_with fail
    refine (M29.out).mono ?_
    rintro e w27 ⟨rfl, hg28, mk30⟩
    clear M29 k31
    clear Oy0
    replace X9 := hide (X9.out.grown hg28 (fun e => by have u0 := Ly0.out _ e; have q0 := z4.out; have q1 := z10.out; have q2 := e8.out; have q3 := z14.out; have q4 := z20.out; have q5 := e18.out; have q6 := z26.out; omega))
    replace X19 := hide (X19.out.grown hg28 (fun e => by have u0 := Ly0.out _ e; have q0 := z4.out; have q1 := z10.out; have q2 := e8.out; have q3 := z14.out; have q4 := z20.out; have q5 := e18.out; have q6 := z26.out; omega))
    replace Ox0 := hide (own_grown Ox0.out hg28 (fun y hy e => by have u0 := Ly0.out _ e; have u2 := Lx0.out y hy; have q0 := z4.out; have q1 := z10.out; have q2 := e8.out; have q3 := z14.out; have q4 := z20.out; have q5 := e18.out; have q6 := z26.out; omega))
    have z32 := hide hg28.size
    replace hB := hide (hB.out.grown hg28 hB.out.size (fun y e => by have u0 := Ly0.out _ e; have q0 := z4.out; have q1 := z10.out; have q2 := e8.out; have q3 := z14.out; have q4 := z20.out; have q5 := e18.out; have q6 := z26.out; omega))
    clear hg28
    have Y33 := hide mk30
    clear mk30
    have k37 := X19.out.cell
    have D36 := hide (heldRope_of Y33.out (by omega))
    rw [HKM.out] at D36
    go_wp2_with fail
    refine (D36.out).mono ?_
    rintro e w34 ⟨rfl, hb35⟩
    clear D36 k37
    replace X9 := hide (X9.out.later hb35)
    replace X19 := hide (X19.out.later hb35)
    replace Y33 := hide (Y33.out.later hb35)
    replace Ox0 := hide (own_below Ox0.out hb35)
    have z38 := hide hb35.size
    replace hB := hide (hB.out.trans (hb35.mono hB.out.size))
    clear hb35
    have H41 := hide (HI.out w34 (HTb.out.below hB.out))
    go_wp2_with fail
    refine (H41.out).mono ?_
    rintro e w39 ⟨z0, rfl, oz0, hb40⟩
    clear H41
    obtain ⟨az0, cz0, rfl, -⟩ := own_shp oz0
    have Lz0 : Hid (∀ y, (Value.slice az0 R0.length cz0).ownBlock = some y → w34.heap.size ≤ y ∧ y < w39.heap.size) := hide (fun y hy => World.ownsRow.lt oz0 y hy)
    have Oz0 := hide oz0
    clear oz0
    replace X9 := hide (X9.out.later hb40)
    replace X19 := hide (X19.out.later hb40)
    replace Y33 := hide (Y33.out.later hb40)
    replace Ox0 := hide (own_below Ox0.out hb40)
    have z42 := hide hb40.size
    replace hB := hide (hB.out.trans (hb40.mono hB.out.size))
    clear hb40
    obtain ⟨w43, hw44⟩ : ∃ wq0, wq0 = w39.alloc (.cells #[.slice az0 R0.length cz0] 26) := ⟨_, rfl⟩
    have hb45 : Below w39.heap.size w39 w43 := by rw [hw44]; exact (Below.refl _ _).alloc (Nat.le_refl _) _
    have e46 : Hid (w43.heap.size = w39.heap.size + 1) := hide (by rw [hw44]; simp)
    have X47 : Hid (CellT 26 w43 w39.heap.size (.slice az0 R0.length cz0)) := hide (by rw [hw44]; exact CellT.new _ _ _)
    replace X9 := hide (X9.out.later hb45)
    replace X19 := hide (X19.out.later hb45)
    replace Y33 := hide (Y33.out.later hb45)
    replace Ox0 := hide (own_below Ox0.out hb45)
    replace Oz0 := hide (own_below Oz0.out hb45)
    have z48 := hide hb45.size
    replace hB := hide (hB.out.trans (hb45.mono hB.out.size))
    clear hb45
    have k52 := X47.out.cell
    rw [hw44] at k52
    have k53 := X9.out.cell
    rw [hw44] at k53
    have E51 := hide (eqRope_own Oz0.out Ox0.out (by omega))
    go_wp2_with fail
    rw [← hw44]
    clear hw44
    refine (E51.out).mono ?_
    rintro e w49 ⟨rfl, hb50⟩
    clear E51 k52 k53
    replace X9 := hide (X9.out.later hb50)
    replace X19 := hide (X19.out.later hb50)
    replace X47 := hide (X47.out.later hb50)
    replace Y33 := hide (Y33.out.later hb50)
    replace Ox0 := hide (own_below Ox0.out hb50)
    replace Oz0 := hide (own_below Oz0.out hb50)
    have z54 := hide hb50.size
    replace hB := hide (hB.out.trans (hb50.mono hB.out.size))
    clear hb50
    have k58 := X19.out.cell
    have D57 := hide (heldRope_of Y33.out (by omega))
    rw [HKM.out] at D57
    go_wp2_with fail
    refine (D57.out).mono ?_
    rintro e w55 ⟨rfl, hb56⟩
    clear D57 k58
    replace X9 := hide (X9.out.later hb56)
    replace X19 := hide (X19.out.later hb56)
    replace X47 := hide (X47.out.later hb56)
    replace Y33 := hide (Y33.out.later hb56)
    replace Ox0 := hide (own_below Ox0.out hb56)
    replace Oz0 := hide (own_below Oz0.out hb56)
    have z59 := hide hb56.size
    replace hB := hide (hB.out.trans (hb56.mono hB.out.size))
    clear hb56
    go_wp2
    go_ret
    exact ⟨rfl, hB.out⟩
  · go_enter Tryd.func6, Tryd.ntmps6
    go_wp2
    go_ret
    exact ⟨rfl, Below.refl _ _⟩
end Go.Proofs.YtpdngncioblibaaDoor
