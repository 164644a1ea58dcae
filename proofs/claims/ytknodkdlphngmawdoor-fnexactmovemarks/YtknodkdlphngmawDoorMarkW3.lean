/- The contract of the program's GoodMarks. -/
import Derived.Test.YtknodkdlphngmawDoorMarkWA
import Derived.Deep.RegionHeld3
namespace Go.Proofs.YtknodkdlphngmawDoor
open Go.RowKit
open Doc1

set_option maxRecDepth 100000 in
set_option maxHeartbeats 4000000 in
theorem goodMarksI {w : World} {g cap : Nat} {l : List Mk} (size : Int) (h : MrIn w g cap l) :
    Calls Tryd.prog 38 #[.slice (some ⟨g, 0, none⟩) l.length cap, .int .i64 size] w fun e w' => e = .returned (.bool (goodM l size)) ∧ Below w.heap.size w w' := by
  have hcp := h.cap
  have hln := h.len
  have H := hide h
  clear h
  by_cases hz : 0 ≤ size ∧ size ≤ 300
  · by_cases h40 : l.length ≤ 40
    · obtain ⟨hz1, hz2⟩ := hz
      go_enter Tryd.func38, Tryd.ntmps38
      go_wp2
      go_loopw [20] (fun i wr => ∃ k : Nat, k ≤ l.length ∧ i = .int .i64 k ∧ Hid (mkTo l size k = true) ∧ Below w.heap.size w wr) (fun i _ => l.length - (intOf i).toNat)
      case atStart => exact ⟨0, by omega, rfl, hide rfl, Below.refl _ _⟩
      case round =>
        obtain ⟨k, hk, rfl, hall, hbel⟩ := hrel
        by_cases hlt : k < l.length
        · obtain ⟨c0, c1, c2⟩ := (H.out.later hbel).at'.mrat k hlt
          have hs := H.out.sz k hlt
          have P0 := fun w => isGood_any l[k] size w hs
          unfold mrV at P0
          have P := hide P0
          clear P0
          have ha := hide (hbel.alloc hbel.size (.cells #[.int .i64 l[k].frm, .int .i64 l[k].to, .string l[k].style] 73))
          obtain ⟨y0, y1, y2⟩ := box3 wr (.int .i64 l[k].frm) (.int .i64 l[k].to) (.string l[k].style)
          cases hg : mkOk size l[k] with
          | false =>
            rw [hg] at P
            have Hno : Hid (goodM l size = false) := hide (goodM_no hlt (by
              cases k with
              | zero => rw [mkAt_zero hlt, hg]
              | succ j => rw [mkAt_succ hlt, hg]; rfl))
            clear hg
            have hu : undef = Value.tuple #[] := rfl
            go_wp2_with fail
            first
              | go_region_with (go_at_call 53; refine (P.out _).mono ?_; rintro e w2 ⟨rfl, hb2⟩)
              | fail
            all_goals
              go_wp2
              go_ret
              exact ⟨ret_bool Hno.out.symm, below_box ha.out hb2⟩
          | true =>
            rw [hg] at P
            have Hg := hide hg
            clear hg
            have hu : undef = Value.tuple #[] := rfl
            cases k with
            | zero =>
              have Hy : Hid (mkTo l size (0 + 1) = true) := hide (by rw [mkTo_succ, mkTo_zero, mkAt_zero hlt, Hg.out]; rfl)
              go_wp2_with fail
              first
                | go_region_with (go_at_call 53; refine (P.out _).mono ?_; rintro e w2 ⟨rfl, hb2⟩)
                | fail
              all_goals
                go_wp2
                rw [← hu]
                clear hu
                go_roundw
                case rel => exact ⟨0 + 1, by omega, by go_num, Hy, below_box ha.out hb2⟩
                case measure => simp [intOf]; omega
            | succ j =>
              have jl : j < l.length := by omega
              have j0 : (0 : Int) ≤ (j : Int) := by omega
              have j1 : (j : Int) < (l.length : Int) := by omega
              have jw : IntKind.i64.wrap (j : Int) = (j : Int) := by rw [IntKind.wrap_i64] <;> omega
              have jw' : IntKind.i64.wrap ((j : Int) + 1 - 1) = (j : Int) := by rw [show (j : Int) + 1 - 1 = (j : Int) by omega]; exact jw
              have CC := hide (fun w2 (hb : Below w.heap.size w w2) => (H.out.later hb).at'.mrat j jl)
              have hlst := hide (mkAt_succ (size := size) hlt)
              have A0 := fun w => isAheadOf_any l[j] l[j + 1] w
              unfold mrV at A0
              have A1 := hide A0
              clear A0
              have KK := hide (fun (t : TypeId) (w' : World) (hw : Below (wr.alloc (.cells #[.int .i64 l[j + 1].frm, .int .i64 l[j + 1].to, .string l[j + 1].style] t)).drew.heap.size (wr.alloc (.cells #[.int .i64 l[j + 1].frm, .int .i64 l[j + 1].to, .string l[j + 1].style] t)).drew w') =>
                (⟨box_later hw (y0 t), box_later hw (y1 t), box_later hw (y2 t), CC.out w' (below_box (hbel.alloc hbel.size _) hw)⟩ : w'.cell? ⟨wr.heap.size, 0, none⟩ = some (.int .i64 l[j + 1].frm) ∧ w'.cell? ⟨wr.heap.size, 1, none⟩ = some (.int .i64 l[j + 1].to) ∧ w'.cell? ⟨wr.heap.size, 2, none⟩ = some (.string l[j + 1].style) ∧ w'.cell? ⟨g, j * 3, none⟩ = some (.int .i64 l[j].frm) ∧ w'.cell? ⟨g, j * 3 + 1, none⟩ = some (.int .i64 l[j].to) ∧ w'.cell? ⟨g, j * 3 + 2, none⟩ = some (.string l[j].style)))
              clear hu y0 y1 y2
              cases hA : mkLt l[j] l[j + 1] with
              | false =>
                rw [hA] at A1
                have Hn : Hid (goodM l size = false) := hide (goodM_no hlt (by rw [hlst.out, Hg.out, hA]; rfl))
                clear hA
                go_wp2_with fail
                go_region_held3 (fun w' => w'.cell? ⟨wr.heap.size, 0, none⟩ = some (.int .i64 l[j + 1].frm) ∧ w'.cell? ⟨wr.heap.size, 1, none⟩ = some (.int .i64 l[j + 1].to) ∧ w'.cell? ⟨wr.heap.size, 2, none⟩ = some (.string l[j + 1].style) ∧ w'.cell? ⟨g, j * 3, none⟩ = some (.int .i64 l[j].frm) ∧ w'.cell? ⟨g, j * 3 + 1, none⟩ = some (.int .i64 l[j].to) ∧ w'.cell? ⟨g, j * 3 + 2, none⟩ = some (.string l[j].style))
                  (first | assumption | exact KK.out _ _ (Below.refl _ _) | exact KK.out _ _ hb2 | exact KK.out _ _ (hb2.trans (hb3.mono hb2.size)))
                  (first | (go_at_call 53; refine (P.out _).mono ?_; rintro e w2 ⟨rfl, hb2⟩) | (go_at_call 54; refine (A1.out _).mono ?_; rintro e w3 ⟨rfl, hb3⟩))
                all_goals
                  go_wp2
                  go_ret
                  exact ⟨ret_bool Hn.out.symm, (below_box ha.out hb2).trans (hb3.mono (below_box ha.out hb2).size)⟩
              | true =>
                rw [hA] at A1
                have Hy : Hid (mkTo l size (j + 1 + 1) = true) := hide (by rw [mkTo_succ, hall.out, hlst.out, Hg.out, hA]; rfl)
                clear hA
                go_wp2_with fail
                go_region_held3 (fun w' => w'.cell? ⟨wr.heap.size, 0, none⟩ = some (.int .i64 l[j + 1].frm) ∧ w'.cell? ⟨wr.heap.size, 1, none⟩ = some (.int .i64 l[j + 1].to) ∧ w'.cell? ⟨wr.heap.size, 2, none⟩ = some (.string l[j + 1].style) ∧ w'.cell? ⟨g, j * 3, none⟩ = some (.int .i64 l[j].frm) ∧ w'.cell? ⟨g, j * 3 + 1, none⟩ = some (.int .i64 l[j].to) ∧ w'.cell? ⟨g, j * 3 + 2, none⟩ = some (.string l[j].style))
                  (first | assumption | exact KK.out _ _ (Below.refl _ _) | exact KK.out _ _ hb2 | exact KK.out _ _ (hb2.trans (hb3.mono hb2.size)))
                  (first | (go_at_call 53; refine (P.out _).mono ?_; rintro e w2 ⟨rfl, hb2⟩) | (go_at_call 54; refine (A1.out _).mono ?_; rintro e w3 ⟨rfl, hb3⟩))
                all_goals
                  go_wp2
                  go_roundw
                  case rel => exact ⟨j + 1 + 1, by omega, by go_num, Hy, (below_box ha.out hb2).trans (hb3.mono (below_box ha.out hb2).size)⟩
                  case measure => simp [intOf]; omega
        · obtain rfl : k = l.length := by omega
          have Hg : Hid (goodM l size = true) := hide (by rw [goodM_all hall.out, decide_eq_true ⟨hz1, hz2⟩, decide_eq_true h40]; rfl)
          go_wp2
          go_ret
          exact ⟨ret_bool Hg.out.symm, hbel⟩
    · obtain ⟨hz1, hz2⟩ := hz
      have Hg := hide (goodM_many (size := size) h40)
      go_enter Tryd.func38, Tryd.ntmps38
      go_wp2
      go_ret
      exact ⟨ret_bool Hg.out.symm, Below.refl _ _⟩
  · have Hg := hide (goodM_big (l := l) hz)
    by_cases h0 : size < 0
    · go_enter Tryd.func38, Tryd.ntmps38
      go_wp2
      go_ret
      exact ⟨ret_bool Hg.out.symm, Below.refl _ _⟩
    · have h3 : 300 < size := by omega
      go_enter Tryd.func38, Tryd.ntmps38
      go_wp2
      go_ret
      exact ⟨ret_bool Hg.out.symm, Below.refl _ _⟩
end Go.Proofs.YtknodkdlphngmawDoor
