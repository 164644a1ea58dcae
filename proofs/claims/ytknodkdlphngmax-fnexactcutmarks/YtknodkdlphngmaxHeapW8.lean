/- A mark's two ends are pushed. -/
import Derived.Test.YtknodkdlphngmaxHeapW7
import Derived.Test.YtknodkdlphngmaxRowsMark
import Derived.Test.YtknodkdlphngmaxHeapC
namespace Go.Proofs.Ytknodkdlphngmax
open Go.RowKit
open Doc1

set_option maxRecDepth 100000 in
set_option maxHeartbeats 4000000 in
theorem pushMark_any {h : Nat} {v : Value} {l : List En} {w : World} (H : Hv h v l w) (hp : Hp dE ahE l) (m : Mk) (hl : l.length ≤ 90000) :
    Calls Try.prog 33 #[.pointer (some ⟨h, 0, none⟩), mrV m] w fun e w' => e = .returned (.tuple #[]) ∧ ∃ v' l', Hv h v' l' w' ∧ Hp dE ahE l' ∧ Same (l ++ endsOf m) l' ∧ Moves (OV h v) w (OV h v') w' := by
  obtain ⟨y0, y1, y2⟩ := cellsE_new w (.int .i64 m.frm) (.int .i64 m.to) (.string m.style)
  have z0 := y0 46
  have z1 := y1 46
  have z2 := y2 46
  have hbw : Below w.heap.size w (w.alloc (.cells #[.int .i64 m.frm, .int .i64 m.to, .string m.style] 46)) := (Below.refl _ _).alloc (Nat.le_refl _) _
  unfold mrV
  by_cases hft : m.frm < m.to
  · have he : endsOf m = [opE m, clE m] := if_pos hft
    have P1 := push_any (H.up hbw) hp (opE m) (by omega)
    unfold enV opE at P1
    have HP1 := hide P1
    have HH := hide H
    have HB := hide hbw
    clear H hp hbw P1 y0 y1 y2
    go_enter Try.func33, Try.ntmps33
    go_wp2_with fail
    refine HP1.out.mono ?_
    rintro e w2 ⟨rfl, v2, l2, hv2, hp2, hs2, hm2⟩
    have hbx : w2.heap[w.heap.size]? = (w.alloc (.cells #[.int .i64 m.frm, .int .i64 m.to, .string m.style] 46)).heap[w.heap.size]? := hm2.same _ (by simp) (fun c => absurd (HH.out.ltO c) (by omega))
    have b1 := (World.cell?_of_block (a := ⟨w.heap.size, 1, none⟩) hbx).trans z1
    have b2 := (World.cell?_of_block (a := ⟨w.heap.size, 2, none⟩) hbx).trans z2
    have P2 := push_any hv2 hp2 (clE m) (by rw [hs2.len]; simp; omega)
    unfold enV clE at P2
    have HP2 := hide P2
    have HM := hide hm2
    have HS := hide hs2
    clear P2 hv2 hp2 hs2 hm2 z0 z1 z2 hbx
    go_wp2_with fail
    refine HP2.out.mono ?_
    rintro e w3 ⟨rfl, v3, l3, hv3, hp3, hs3, hm3⟩
    go_wp2
    go_end0
    refine ⟨rfl, v3, l3, hv3, hp3, ?_, ((mv_up HB.out).trans HM.out).trans hm3⟩
    rw [he]
    refine ⟨by rw [hs3.len, List.length_append, HS.out.len]; simp [opE], fun x => ?_⟩
    have e1 := HS.out.cnt x
    have e2 := hs3.cnt x
    rw [List.count_append] at e1 e2
    rw [e2, e1, List.count_append, Nat.add_assoc]
    congr 1
    rw [show [opE m, clE m] = [opE m] ++ [clE m] from rfl, List.count_append]
    rfl
  · rw [show endsOf m = [] from if_neg hft, List.append_nil]
    have HH := hide H
    have HP := hide hp
    have HB := hide hbw
    clear H hp hbw y0 y1 y2
    go_enter Try.func33, Try.ntmps33
    go_wp2
    go_end0
    refine ⟨rfl, v, l, HH.out.up HB.out, HP.out, ?_, mv_up HB.out⟩
    exact Same.refl l
end Go.Proofs.Ytknodkdlphngmax
