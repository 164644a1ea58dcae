/- The contract of the layout's add, of the whole. -/
import Derived.Test.YtbmnciejaknonatDoorLyW9
namespace Go.Proofs.YtbmnciejaknonatDoor
open Go.RowKit
open Doc1

set_option maxRecDepth 100000 in
set_option maxHeartbeats 4000000 in
/-- The whole is added where nothing is, and nowhere else. -/
theorem add_whole_no (B g : Nat) (V : Nat → Value) (y : LS) (u : Int) (w : World) (h : Ly B g V y w) (_hY1 : y.fr.length ≤ 4000000) (h0 : 0 < y.fr.length) :
    Calls Tryd.prog 51 #[.pointer (some ⟨g, 0, none⟩), .iface 83 (.agg #[]), .int .i64 u] w fun e w' => e = .returned (.bool false) ∧ w' = w := by
  have t1 := ta_whole_whole
  have k1 := h.c 1 (by omega)
  obtain ⟨a1, c1, hV1, hq1, hq2⟩ := h.shape 1 (by omega)
  rw [X1, ints_len] at hV1 hq1
  rw [hV1] at k1
  clear h
  go_enter Tryd.func51, Tryd.ntmps51
  go_wp2
  go_ret
  exact ⟨rfl, rfl⟩

set_option maxRecDepth 100000 in
set_option maxHeartbeats 4000000 in
theorem add_whole (B g : Nat) (V : Nat → Value) (y : LS) (u : Int) (w : World) (h : Ly B g V y w) (hB : B ≤ w.heap.size) (hY0 : y.text.length ≤ 4000000) (hY1 : y.fr.length ≤ 4000000) (hY2 : y.to.length ≤ 4000000) (hY3 : y.op.length ≤ 4000000) (h0 : y.fr.length = 0) :
    Calls Tryd.prog 51 #[.pointer (some ⟨g, 0, none⟩), .iface 83 (.agg #[]), .int .i64 u] w fun e w' => e = .returned (.bool true) ∧ Below B w w' ∧ (True → ∃ V', Ly B g V' (y.push.write []) w') := by
  have t1 := ta_whole_whole
  obtain ⟨i0, hi0, hz0, hz1, hz2⟩ := info_parts Tryd.info3
  have k1 := h.c 1 (by omega)
  have k3 := h.c 3 (by omega)
  obtain ⟨a1, c1, hV, hq1, hq2⟩ := h.shape 1 (by omega)
  rw [X1, ints_len] at hV hq1
  rw [hV] at k1
  have kf := h.fz 3
  have lg := h.lt
  have own3 := h.own 3 (by omega)
  have hE3 : Et 3 = 3 := rfl
  rw [X3, ints_len, hE3] at own3
  have ne3 := h.ag 3 (by omega)
  have hrl : y.op.reverse.length ≤ 4000000 := by rw [List.length_reverse]; exact hY3
  have hB1 : B ≤ w.heap.size := hB
  obtain ⟨v3, hv3⟩ : ∃ v3, v3 = V 3 := ⟨_, rfl⟩
  obtain ⟨R, hR⟩ : ∃ R, R = y.op.reverse := ⟨_, rfl⟩
  rw [← hR] at own3 hrl
  have H1 := hide h
  have Hv3 := hide hv3
  have HR := hide hR
  rw [← hv3] at k3 own3 ne3
  clear h hv3 hV hR
  go_enter Tryd.func51, Tryd.ntmps51
  go_wp2_with fail
  go_region_law
    ((refine step_append_lies _ (by rfl) _ _ _ (by rfl) B 3 i0 _ 1 8 Tryd.underlying31 hi0 hz0 hz1 hz2 rfl (by omega) v3 R.length (ints (natI R)) (by rfl) ((own3.alloc _).drew)
        ⟨w.heap.size, 0, none⟩ 1 1 [.int .i64 (0 : Int)] (by rfl) (by rfl) (World.news_of_block (cs := #[.int .i64 (0 : Int)]) (t := 3) (fr := (0, 0)) (heap_alloc_new w _)) (by simp [Value.oneCell'])
        (by omega) (by unfold maxLen; omega) (by omega) (by simp; omega) (w.heap.size + 1) (by simp) ?_; intro gg cap w2 hown1 hgrow hat hlt; have hfz := (hgrow.frozen_far ⟨g, 3, none⟩ (by simp; omega) (Ne.symm ne3)).trans (fz_al w _ _ lg kf); have hcz := (hgrow.cell_far ⟨g, 3, none⟩ (by simp; omega) (Ne.symm ne3)).trans (cl_al w _ _ k3)))
  all_goals
    rw [Hv3.out] at hgrow hat
    have hap := ly_app (z' := y.push) H1.out (j := 3) (l := R) (x := 0) (by omega) (by omega) (by rw [X3, HR.out]) (by rw [X3]; show ints (natI (y.fr.length :: y.op).reverse) = _; rw [h0, List.reverse_cons, HR.out]) (fun i hi hne => xz_not3 i hi hne) hown1 hgrow hat hB1
    have hb2 := hap.2
    have Wr := hide (write_whole B g _ y.push _ hap.1 (Nat.le_trans hB hb2.size) hY0 hY1 hY2)
    have HB2 := hide hb2
    clear k1 k3 own3 ne3 kf lg H1 hap hb2 hown1 hgrow hat hlt hfz hcz
    go_wp2_with fail
    refine Wr.out.mono ?_
    rintro e w3 ⟨rfl, hV3, hb3⟩
    go_wp2
    go_ret
    exact ⟨rfl, HB2.out.trans hb3, fun _ => hV3⟩
end Go.Proofs.YtbmnciejaknonatDoor
