/- The contract of the layout's write, of a run. The contract of the layout's write, of the whole. The contract of the layout's add. The contract of the layout's add, of an element. The contract of the layout's add, of the whole. The contract of the layout's add, of any node. -/
import Derived.Test.YtafhpnkedjbcdaaDoorLyW5
namespace Go.Proofs.YtafhpnkedjbcdaaDoor
open Go.RowKit
open Doc1

set_option maxRecDepth 100000 in
set_option maxHeartbeats 4000000 in
theorem write_run (B g : Nat) (V : Nat → Value) (z : LS) (s : ByteArray) (w : World) (h : Ly B g V z w) (hB : B ≤ w.heap.size) (hl : z.text.length ≤ 4000000) (hf : z.fr.length ≤ 4000000) (ht : z.to.length ≤ 4000000) (hs : s.size ≤ 4000000) :
    Calls Tryd.prog 135 #[.pointer (some ⟨g, 0, none⟩), .iface 159 (.agg #[.string s])] w fun e w' => e = .returned (.tuple #[]) ∧ (∃ V', Ly B g V' (z.write s.data.toList) w') ∧ Below B w w' := by
  obtain ⟨i0, hi0, hz0, hz1, hz2⟩ := info_parts Tryd.info3
  obtain ⟨u0, hu0, hz0', hz1', hz2'⟩ := info_parts Tryd.infoU8
  have k0 := h.c 0 (by omega)
  have k1 := h.c 1 (by omega)
  obtain ⟨a0, c0, hV0, hq1, hq2⟩ := h.shape 0 (by omega)
  rw [hV0, X0, byt_len] at k0
  have kf := h.fz 1
  have lg := h.lt
  have own1 := h.own 1 (by omega)
  have hE1 : Et 1 = 3 := rfl
  rw [X1, ints_len, hE1] at own1
  have ne1 := h.ag 1 (by omega)
  obtain ⟨v1, hv1⟩ : ∃ v1, v1 = V 1 := ⟨_, rfl⟩
  have H := hide h
  have Hv1 := hide hv1
  rw [← hv1] at k1 own1 ne1
  clear h hv1
  go_enter Tryd.func135, Tryd.ntmps135
  go_wp2_with fail
  go_cut [4] from 4 to 17 (fun _ wx => ∃ V', Ly B g V' ⟨z.text, z.fr ++ [z.text.length], z.to, z.op⟩ wx ∧ Below B w wx)
  case first =>
    go_region_law
      ((refine step_append_lies _ (by rfl) _ _ _ (by rfl) B 3 i0 _ 1 8 Tryd.underlying47 hi0 hz0 hz1 hz2 rfl (by omega) v1 z.fr.length (ints (natI z.fr)) (by rfl) ((own1.alloc _).drew)
          ⟨w.heap.size, 0, none⟩ 1 1 [.int .i64 (z.text.length : Int)] (by rfl) (by rfl) (World.news_of_block (cs := #[.int .i64 (z.text.length : Int)]) (t := 3) (fr := (0, 0)) (heap_alloc_new w _)) (by simp [Value.oneCell'])
          (by omega) (by unfold maxLen; omega) (by omega) (by simp; omega) (w.heap.size + 1) (by simp) ?_; intro gg cap w2 hown1 hgrow hat hlt; have hfz := (hgrow.frozen_far ⟨g, 1, none⟩ (by simp; omega) (Ne.symm ne1)).trans (fz_al w _ _ lg kf); have hcz := (hgrow.cell_far ⟨g, 1, none⟩ (by simp; omega) (Ne.symm ne1)).trans (cl_al w _ _ k1)))
    all_goals
      rw [Hv1.out] at hgrow hat
      have hap := ly_app (z' := ⟨z.text, z.fr ++ [z.text.length], z.to, z.op⟩) H.out (j := 1) (by omega) (by omega) (X1 z) rfl (fun i _ hne => xz_not1 i hne) hown1 hgrow hat hB
      go_wp2_with fail
      go_meet
      case rel => exact ⟨_, hap.1, hap.2⟩
  case rest =>
    obtain ⟨V1, L1, hb1⟩ := hcut
    clear k0 k1 own1 ne1 hV0 kf lg H Hv1
    have k0 := L1.c 0 (by omega)
    have kf := L1.fz 0
    have lg := L1.lt
    have ne0 := L1.ag 0 (by omega)
    have own0 := L1.own 0 (by omega)
    have hE0 : Et 0 = 5 := rfl
    rw [X0, byt_len, hE0] at own0
    have hBc : B ≤ wc.heap.size := Nat.le_trans hB hb1.size
    obtain ⟨v0, hv0⟩ : ∃ v0, v0 = V1 0 := ⟨_, rfl⟩
    have H1 := hide L1
    have Hv0 := hide hv0
    rw [← hv0] at k0 own0 ne0
    clear L1 hv0
    have C0 : ∀ w', Below wc.heap.size wc w' → w'.cell? ⟨g, 0, none⟩ = some v0 := fun w' h => (World.cell?_of_block (h.block g lg)).trans k0
    go_wp2_with fail
    go_cut [18] from 18 to 27 (fun _ wx => ∃ V', Ly B g V' ⟨z.text ++ s.data.toList, z.fr ++ [z.text.length], z.to, z.op⟩ wx ∧ Below B w wx)
    case first =>
      go_region_law
        (first
          | ((refine step_run (by rfl) _ (by rfl) s (by rfl) ?_; intro w5 hb5; have c5 := C0 w5 ((Below.refl _ _).drew.trans hb5)))
          | ((refine step_str (by rfl) _ _ _ _ (by rfl) B 5 u0 Tryd.underlying22 Tryd.underlying9 hu0 hz0' hz1' hz2' v0 z.text.length (byt z.text) (by rfl) (own_below own0 ((Below.refl _ _).drew.trans hb5)) s (by rfl) (by first | omega | (show z.text.length + 0 ≤ _; omega)) (Nat.le_trans hBc hb5.size) ?_; intro v6 w6 ho6 hg6 hat6; obtain ⟨a6, c6, hv6⟩ := own_sl ho6; subst hv6; have cz := (hg6.cell_far ⟨g, 0, none⟩ (Nat.lt_of_lt_of_le lg hb5.size) (Ne.symm ne0)).trans c5; have fz6 := (hg6.frozen_far ⟨g, 0, none⟩ (Nat.lt_of_lt_of_le lg hb5.size) (Ne.symm ne0)).trans ((World.frozen?_of_block (hb5.block g lg)).trans kf))))
      all_goals
        rw [Hv0.out] at hg6 hat6
        have hblk : ∀ k, k < wc.heap.size → some k ≠ (V1 0).ownBlock → w6.heap[k]? = wc.heap[k]? := fun k hk hne => (hg6.block k (Nat.lt_of_lt_of_le hk hb5.size) hne).trans (hb5.block k hk)
        have hp := H1.out.put (z' := ⟨z.text ++ s.data.toList, z.fr ++ [z.text.length], z.to, z.op⟩) 0 (by omega) _ hblk (by rw [X0]; show w6.ownsRow B 5 1 _ (byt (z.text ++ s.data.toList)).length (byt (z.text ++ s.data.toList)); rw [byt_len, byt_app, List.length_append, size_list]; exact ho6) (fun i _ hi => by unfold Xz; rw [if_neg hi, if_neg hi]) (hat6.imp id (fun e x hx => Nat.le_trans hb5.size (e x hx)))
        have hbb : Below B w (w6.setCell ⟨g, 0, none⟩ (.slice a6 (z.text.length + s.size) c6)) := (((hb1.trans ((Below.refl _ _).drew.trans (hb5.mono hBc))).grown hg6 (Nat.le_trans hBc hb5.size) (fun k hk => ((H1.out.own 0 (by omega)).lt k hk).1)).setCell H1.out.le _)
        go_wp2_with fail
        go_meet
        case rel => exact ⟨_, hp, hbb⟩
    case rest =>
      obtain ⟨V2, L2, hb2⟩ := hcut
      clear k0 kf lg ne0 own0 H1 Hv0 C0 hBc hb1
      obtain ⟨N, hN⟩ : ∃ N, N = (z.text ++ s.data.toList).length := ⟨_, rfl⟩
      have hNl : N ≤ 8000000 := by rw [hN, List.length_append, size_list]; omega
      have k0 := L2.c 0 (by omega)
      have k2 := L2.c 2 (by omega)
      obtain ⟨a0', c0', hV0', hq1', hq2'⟩ := L2.shape 0 (by omega)
      rw [X0, byt_len] at hV0'
      rw [hV0', ← hN] at k0
      have kf := L2.fz 2
      have lg := L2.lt
      have own2 := L2.own 2 (by omega)
      have hE2 : Et 2 = 3 := rfl
      rw [X2, ints_len, hE2] at own2
      have ne2 := L2.ag 2 (by omega)
      have hBc : B ≤ wc.heap.size := Nat.le_trans hB hb2.size
      obtain ⟨v2, hv2⟩ : ∃ v2, v2 = V2 2 := ⟨_, rfl⟩
      have H2 := hide L2
      have Hv2 := hide hv2
      have HN := hide hN
      rw [← hv2] at k2 own2 ne2
      clear L2 hv2 hV0' hN
      go_wp2_with fail
      go_region_law
        ((refine step_append_lies _ (by rfl) _ _ _ (by rfl) B 3 i0 _ 1 8 Tryd.underlying47 hi0 hz0 hz1 hz2 rfl (by omega) v2 z.to.length (ints (natI z.to)) (by rfl) ((own2.alloc _).drew)
            ⟨wc.heap.size, 0, none⟩ 1 1 [.int .i64 (N : Int)] (by rfl) (by rfl) (World.news_of_block (cs := #[.int .i64 (N : Int)]) (t := 3) (fr := (0, 0)) (heap_alloc_new wc _)) (by simp [Value.oneCell'])
            (by omega) (by unfold maxLen; omega) (by omega) (by simp; omega) (wc.heap.size + 1) (by simp) ?_; intro gg cap w2 hown1 hgrow hat hlt; have hfz := (hgrow.frozen_far ⟨g, 2, none⟩ (by simp; omega) (Ne.symm ne2)).trans (fz_al wc _ _ lg kf); have hcz := (hgrow.cell_far ⟨g, 2, none⟩ (by simp; omega) (Ne.symm ne2)).trans (cl_al wc _ _ k2)))
      all_goals
        rw [Hv2.out] at hgrow hat
        have hap := ly_app (z' := z.write s.data.toList) H2.out (j := 2) (l := z.to) (x := N) (by omega) (by omega) rfl (by rw [X2]; show ints (natI (z.to ++ [z.text.length + s.data.toList.length])) = _; rw [HN.out, List.length_append]) (fun i _ hne => xz_not2 i hne) hown1 hgrow hat hBc
        go_wp2
        go_end0
        exact ⟨rfl, ⟨_, hap.1⟩, hb2.trans hap.2⟩
end Go.Proofs.YtafhpnkedjbcdaaDoor

namespace Go.Proofs.YtafhpnkedjbcdaaDoor
open Go.RowKit
open Doc1

set_option maxRecDepth 100000 in
set_option maxHeartbeats 4000000 in
theorem write_whole (B g : Nat) (V : Nat → Value) (z : LS) (w : World) (h : Ly B g V z w) (hB : B ≤ w.heap.size) (hl : z.text.length ≤ 4000000) (hf : z.fr.length ≤ 4000000) (ht : z.to.length ≤ 4000000) :
    Calls Tryd.prog 135 #[.pointer (some ⟨g, 0, none⟩), .iface 155 (.agg #[])] w fun e w' => e = .returned (.tuple #[]) ∧ (∃ V', Ly B g V' (z.write []) w') ∧ Below B w w' := by
  obtain ⟨s, hs0⟩ : ∃ s : ByteArray, s = ⟨#[]⟩ := ⟨_, rfl⟩
  have hs : s.size ≤ 4000000 := by rw [hs0]; show 0 ≤ _; omega
  have hsl : s.data.toList = [] := by rw [hs0]
  rw [← hsl]
  have HS0 := hide hs0
  clear hs0 hsl
  obtain ⟨i0, hi0, hz0, hz1, hz2⟩ := info_parts Tryd.info3
  obtain ⟨u0, hu0, hz0', hz1', hz2'⟩ := info_parts Tryd.infoU8
  have k0 := h.c 0 (by omega)
  have k1 := h.c 1 (by omega)
  obtain ⟨a0, c0, hV0, hq1, hq2⟩ := h.shape 0 (by omega)
  rw [hV0, X0, byt_len] at k0
  have kf := h.fz 1
  have lg := h.lt
  have own1 := h.own 1 (by omega)
  have hE1 : Et 1 = 3 := rfl
  rw [X1, ints_len, hE1] at own1
  have ne1 := h.ag 1 (by omega)
  obtain ⟨v1, hv1⟩ : ∃ v1, v1 = V 1 := ⟨_, rfl⟩
  have H := hide h
  have Hv1 := hide hv1
  rw [← hv1] at k1 own1 ne1
  clear h hv1
  go_enter Tryd.func135, Tryd.ntmps135
  go_wp2_with fail
  go_cut [4] from 4 to 17 (fun _ wx => ∃ V', Ly B g V' ⟨z.text, z.fr ++ [z.text.length], z.to, z.op⟩ wx ∧ Below B w wx)
  case first =>
    go_region_law
      ((refine step_append_lies _ (by rfl) _ _ _ (by rfl) B 3 i0 _ 1 8 Tryd.underlying47 hi0 hz0 hz1 hz2 rfl (by omega) v1 z.fr.length (ints (natI z.fr)) (by rfl) ((own1.alloc _).drew)
          ⟨w.heap.size, 0, none⟩ 1 1 [.int .i64 (z.text.length : Int)] (by rfl) (by rfl) (World.news_of_block (cs := #[.int .i64 (z.text.length : Int)]) (t := 3) (fr := (0, 0)) (heap_alloc_new w _)) (by simp [Value.oneCell'])
          (by omega) (by unfold maxLen; omega) (by omega) (by simp; omega) (w.heap.size + 1) (by simp) ?_; intro gg cap w2 hown1 hgrow hat hlt; have hfz := (hgrow.frozen_far ⟨g, 1, none⟩ (by simp; omega) (Ne.symm ne1)).trans (fz_al w _ _ lg kf); have hcz := (hgrow.cell_far ⟨g, 1, none⟩ (by simp; omega) (Ne.symm ne1)).trans (cl_al w _ _ k1)))
    all_goals
      rw [Hv1.out] at hgrow hat
      have hap := ly_app (z' := ⟨z.text, z.fr ++ [z.text.length], z.to, z.op⟩) H.out (j := 1) (by omega) (by omega) (X1 z) rfl (fun i _ hne => xz_not1 i hne) hown1 hgrow hat hB
      go_wp2_with fail
      go_meet
      case rel => exact ⟨_, hap.1, hap.2⟩
  case rest =>
    obtain ⟨V1, L1, hb1⟩ := hcut
    clear k0 k1 own1 ne1 hV0 kf lg H Hv1
    have k0 := L1.c 0 (by omega)
    have kf := L1.fz 0
    have lg := L1.lt
    have ne0 := L1.ag 0 (by omega)
    have own0 := L1.own 0 (by omega)
    have hE0 : Et 0 = 5 := rfl
    rw [X0, byt_len, hE0] at own0
    have hBc : B ≤ wc.heap.size := Nat.le_trans hB hb1.size
    obtain ⟨v0, hv0⟩ : ∃ v0, v0 = V1 0 := ⟨_, rfl⟩
    have H1 := hide L1
    have Hv0 := hide hv0
    rw [← hv0] at k0 own0 ne0
    clear L1 hv0
    have C0 : ∀ w', Below wc.heap.size wc w' → w'.cell? ⟨g, 0, none⟩ = some v0 := fun w' h => (World.cell?_of_block (h.block g lg)).trans k0
    go_wp2_with fail
    go_cut [18] from 18 to 27 (fun _ wx => ∃ V', Ly B g V' ⟨z.text ++ s.data.toList, z.fr ++ [z.text.length], z.to, z.op⟩ wx ∧ Below B w wx)
    case first =>
      go_region_law
        (first
          | ((refine step_whole (by rfl) _ (by rfl) (by rfl) ?_; intro w5 hb5; have c5 := C0 w5 ((Below.refl _ _).drew.trans hb5)))
          | ((refine step_str (by rfl) _ _ _ _ (by rfl) B 5 u0 Tryd.underlying22 Tryd.underlying9 hu0 hz0' hz1' hz2' v0 z.text.length (byt z.text) (by rfl) (own_below own0 ((Below.refl _ _).drew.trans hb5)) s (by rw [HS0.out]; rfl) (by first | omega | (show z.text.length + 0 ≤ _; omega)) (Nat.le_trans hBc hb5.size) ?_; intro v6 w6 ho6 hg6 hat6; obtain ⟨a6, c6, hv6⟩ := own_sl ho6; subst hv6; have cz := (hg6.cell_far ⟨g, 0, none⟩ (Nat.lt_of_lt_of_le lg hb5.size) (Ne.symm ne0)).trans c5; have fz6 := (hg6.frozen_far ⟨g, 0, none⟩ (Nat.lt_of_lt_of_le lg hb5.size) (Ne.symm ne0)).trans ((World.frozen?_of_block (hb5.block g lg)).trans kf))))
      all_goals
        rw [Hv0.out] at hg6 hat6
        have hblk : ∀ k, k < wc.heap.size → some k ≠ (V1 0).ownBlock → w6.heap[k]? = wc.heap[k]? := fun k hk hne => (hg6.block k (Nat.lt_of_lt_of_le hk hb5.size) hne).trans (hb5.block k hk)
        have hp := H1.out.put (z' := ⟨z.text ++ s.data.toList, z.fr ++ [z.text.length], z.to, z.op⟩) 0 (by omega) _ hblk (by rw [X0]; show w6.ownsRow B 5 1 _ (byt (z.text ++ s.data.toList)).length (byt (z.text ++ s.data.toList)); rw [byt_len, byt_app, List.length_append, size_list]; exact ho6) (fun i _ hi => by unfold Xz; rw [if_neg hi, if_neg hi]) (hat6.imp id (fun e x hx => Nat.le_trans hb5.size (e x hx)))
        have hbb : Below B w (w6.setCell ⟨g, 0, none⟩ (.slice a6 (z.text.length + s.size) c6)) := (((hb1.trans ((Below.refl _ _).drew.trans (hb5.mono hBc))).grown hg6 (Nat.le_trans hBc hb5.size) (fun k hk => ((H1.out.own 0 (by omega)).lt k hk).1)).setCell H1.out.le _)
        go_wp2_with fail
        go_meet
        case rel => exact ⟨_, hp, hbb⟩
    case rest =>
      obtain ⟨V2, L2, hb2⟩ := hcut
      clear k0 kf lg ne0 own0 H1 Hv0 C0 hBc hb1
      obtain ⟨N, hN⟩ : ∃ N, N = (z.text ++ s.data.toList).length := ⟨_, rfl⟩
      have hNl : N ≤ 8000000 := by rw [hN, List.length_append, size_list]; omega
      have k0 := L2.c 0 (by omega)
      have k2 := L2.c 2 (by omega)
      obtain ⟨a0', c0', hV0', hq1', hq2'⟩ := L2.shape 0 (by omega)
      rw [X0, byt_len] at hV0'
      rw [hV0', ← hN] at k0
      have kf := L2.fz 2
      have lg := L2.lt
      have own2 := L2.own 2 (by omega)
      have hE2 : Et 2 = 3 := rfl
      rw [X2, ints_len, hE2] at own2
      have ne2 := L2.ag 2 (by omega)
      have hBc : B ≤ wc.heap.size := Nat.le_trans hB hb2.size
      obtain ⟨v2, hv2⟩ : ∃ v2, v2 = V2 2 := ⟨_, rfl⟩
      have H2 := hide L2
      have Hv2 := hide hv2
      have HN := hide hN
      rw [← hv2] at k2 own2 ne2
      clear L2 hv2 hV0' hN
      go_wp2_with fail
      go_region_law
        ((refine step_append_lies _ (by rfl) _ _ _ (by rfl) B 3 i0 _ 1 8 Tryd.underlying47 hi0 hz0 hz1 hz2 rfl (by omega) v2 z.to.length (ints (natI z.to)) (by rfl) ((own2.alloc _).drew)
            ⟨wc.heap.size, 0, none⟩ 1 1 [.int .i64 (N : Int)] (by rfl) (by rfl) (World.news_of_block (cs := #[.int .i64 (N : Int)]) (t := 3) (fr := (0, 0)) (heap_alloc_new wc _)) (by simp [Value.oneCell'])
            (by omega) (by unfold maxLen; omega) (by omega) (by simp; omega) (wc.heap.size + 1) (by simp) ?_; intro gg cap w2 hown1 hgrow hat hlt; have hfz := (hgrow.frozen_far ⟨g, 2, none⟩ (by simp; omega) (Ne.symm ne2)).trans (fz_al wc _ _ lg kf); have hcz := (hgrow.cell_far ⟨g, 2, none⟩ (by simp; omega) (Ne.symm ne2)).trans (cl_al wc _ _ k2)))
      all_goals
        rw [Hv2.out] at hgrow hat
        have hap := ly_app (z' := z.write s.data.toList) H2.out (j := 2) (l := z.to) (x := N) (by omega) (by omega) rfl (by rw [X2]; show ints (natI (z.to ++ [z.text.length + s.data.toList.length])) = _; rw [HN.out, List.length_append]) (fun i _ hne => xz_not2 i hne) hown1 hgrow hat hBc
        go_wp2
        go_end0
        exact ⟨rfl, ⟨_, hap.1⟩, hb2.trans hap.2⟩
end Go.Proofs.YtafhpnkedjbcdaaDoor

namespace Go.Proofs.YtafhpnkedjbcdaaDoor
open Go.RowKit
open Doc1

theorem ta_whole_whole (w : World) : (Instr.typeAssert (.iface 155 (.agg #[])) 134 155 true).run Tryd.prog w = .ok (.tuple #[.agg #[], .bool true]) w := by kernel_rfl
theorem ta_whole_elem (w : World) : (Instr.typeAssert (.iface 155 (.agg #[])) 134 157 true).run Tryd.prog w = .ok (.tuple #[.agg #[.string ⟨#[]⟩], .bool false]) w := by kernel_rfl
theorem ta_whole_run (w : World) : (Instr.typeAssert (.iface 155 (.agg #[])) 134 159 true).run Tryd.prog w = .ok (.tuple #[.agg #[.string ⟨#[]⟩], .bool false]) w := by kernel_rfl
theorem ta_elem_whole (s : ByteArray) (w : World) : (Instr.typeAssert (.iface 157 (.agg #[.string s])) 134 155 true).run Tryd.prog w = .ok (.tuple #[.agg #[], .bool false]) w := by kernel_rfl
theorem ta_elem_elem (s : ByteArray) (w : World) : (Instr.typeAssert (.iface 157 (.agg #[.string s])) 134 157 true).run Tryd.prog w = .ok (.tuple #[.agg #[.string s], .bool true]) w := by kernel_rfl
theorem ta_elem_run (s : ByteArray) (w : World) : (Instr.typeAssert (.iface 157 (.agg #[.string s])) 134 159 true).run Tryd.prog w = .ok (.tuple #[.agg #[.string ⟨#[]⟩], .bool false]) w := by kernel_rfl
theorem ta_run_whole (s : ByteArray) (w : World) : (Instr.typeAssert (.iface 159 (.agg #[.string s])) 134 155 true).run Tryd.prog w = .ok (.tuple #[.agg #[], .bool false]) w := by kernel_rfl
theorem ta_run_elem (s : ByteArray) (w : World) : (Instr.typeAssert (.iface 159 (.agg #[.string s])) 134 157 true).run Tryd.prog w = .ok (.tuple #[.agg #[.string ⟨#[]⟩], .bool false]) w := by kernel_rfl
theorem ta_run_run (s : ByteArray) (w : World) : (Instr.typeAssert (.iface 159 (.agg #[.string s])) 134 159 true).run Tryd.prog w = .ok (.tuple #[.agg #[.string s], .bool true]) w := by kernel_rfl
theorem ta_nil_whole (w : World) : (Instr.typeAssert .nilIface 134 155 true).run Tryd.prog w = .ok (.tuple #[.agg #[], .bool false]) w := by kernel_rfl
theorem ta_nil_elem (w : World) : (Instr.typeAssert .nilIface 134 157 true).run Tryd.prog w = .ok (.tuple #[.agg #[.string ⟨#[]⟩], .bool false]) w := by kernel_rfl
theorem ta_nil_run (w : World) : (Instr.typeAssert .nilIface 134 159 true).run Tryd.prog w = .ok (.tuple #[.agg #[.string ⟨#[]⟩], .bool false]) w := by kernel_rfl

set_option maxRecDepth 100000 in
set_option maxHeartbeats 4000000 in
theorem add_none (g : Nat) (u : Int) (w : World) :
    Calls Tryd.prog 116 #[.pointer (some ⟨g, 0, none⟩), .nilIface, .int .i64 u] w fun e w' => e = .returned (.bool false) ∧ w' = w := by
  have t1 := ta_nil_whole
  have t2 := ta_nil_elem
  have t3 := ta_nil_run
  go_enter Tryd.func116, Tryd.ntmps116
  go_wp2
  go_ret
  exact ⟨rfl, rfl⟩

set_option maxRecDepth 100000 in
set_option maxHeartbeats 4000000 in
/-- A run is added, or not. -/
theorem add_run (B g : Nat) (V : Nat → Value) (z : LS) (u : Int) (s : ByteArray) (w : World) (h : Ly B g V z w) (hB : B ≤ w.heap.size) (hT : Tab w) (hTB : 0 < B) (hl : z.text.length + z.op.length ≤ 3000000) (hf : z.fr.length = z.to.length) (hn : z.to.length ≤ 3000000) (ho : ∀ o ∈ z.op, o < z.to.length) (hs : s.size ≤ 3000000)
    (hy : ∀ y, z.endInto u = some y → y.text.length ≤ 4000000 ∧ y.fr.length ≤ 4000000 ∧ y.to.length ≤ 4000000) :
    Calls Tryd.prog 116 #[.pointer (some ⟨g, 0, none⟩), .iface 159 (.agg #[.string s]), .int .i64 u] w fun e w' => e = .returned (.bool ((z.endInto u).bind fun y => if endsPl y.text then none else some (y.write s.data.toList)).isSome) ∧ Below B w w' ∧ ∀ y, ((z.endInto u).bind fun y => if endsPl y.text then none else some (y.write s.data.toList)) = some y → ∃ V', Ly B g V' y w' := by
  have t1 := ta_run_whole s
  have t2 := ta_run_elem s
  have t3 := ta_run_run s
  have E := hide (endInto_any B g V z u w h hB (by omega) hf (by omega) ho)
  clear h
  cases hz : z.endInto u with
  | none =>
    rw [hz] at E
    go_enter Tryd.func116, Tryd.ntmps116
    go_wp2_with fail
    refine E.out.mono ?_
    rintro e w1 ⟨rfl, hb1, -⟩
    go_wp2
    go_ret
    exact ⟨rfl, hb1, fun y hy => by simp at hy⟩
  | some y =>
    rw [hz] at E
    have hY := hy y hz
    go_enter Tryd.func116, Tryd.ntmps116
    go_wp2_with fail
    refine E.out.mono ?_
    rintro e w1 ⟨rfl, hb1, hL⟩
    obtain ⟨V1, L1⟩ := hL y rfl
    have P := hide (endsPlain_any B g V1 y w1 L1 hY.1 (hT.low hb1 hTB))
    have H1 := hide L1
    clear L1 hL
    cases hp : endsPl y.text with
    | true =>
      rw [hp] at P
      go_wp2_with fail
      refine P.out.mono ?_
      rintro e w2 ⟨rfl, hb2⟩
      go_wp2
      go_ret
      refine ⟨by simp [hp], hb1.trans (hb2.mono (Nat.le_trans hB hb1.size)), fun y' hy' => by simp [hp] at hy'⟩
    | false =>
      rw [hp] at P
      go_wp2_with fail
      refine P.out.mono ?_
      rintro e w2 ⟨rfl, hb2⟩
      have Wr := hide (write_run B g V1 y s w2 (H1.out.later hb2) (Nat.le_trans (Nat.le_trans hB hb1.size) hb2.size) hY.1 hY.2.1 hY.2.2 (by omega))
      go_wp2_with fail
      refine Wr.out.mono ?_
      rintro e w3 ⟨rfl, hV3, hb3⟩
      go_wp2
      go_ret
      refine ⟨by simp [hp], (hb1.trans (hb2.mono (Nat.le_trans hB hb1.size))).trans hb3, fun y' hy' => ?_⟩
      simp [hp] at hy'
      subst hy'
      exact hV3
end Go.Proofs.YtafhpnkedjbcdaaDoor

namespace Go.Proofs.YtafhpnkedjbcdaaDoor
open Go.RowKit
open Doc1

theorem xz_not3 {t : List UInt8} {f o p p' : List Nat} (i : Nat) (hi : i < 4) (hne : i ≠ 3) : Xz ⟨t, f, o, p'⟩ i = Xz ⟨t, f, o, p⟩ i := by
  unfold Xz
  by_cases h0 : i = 0
  · rw [if_pos h0, if_pos h0]
  · rw [if_neg h0, if_neg h0]
    by_cases h1 : i = 1
    · rw [if_pos h1, if_pos h1]
    · rw [if_neg h1, if_neg h1]
      by_cases h2 : i = 2
      · rw [if_pos h2, if_pos h2]
      · exact (by omega : False).elim

set_option maxRecDepth 100000 in
set_option maxHeartbeats 4000000 in
/-- An element is added, or not. -/
theorem add_elem (B g : Nat) (V : Nat → Value) (z : LS) (u : Int) (s : ByteArray) (w : World) (h : Ly B g V z w) (hB : B ≤ w.heap.size) (hl : z.text.length + z.op.length ≤ 3000000) (hf : z.fr.length = z.to.length) (hn : z.to.length ≤ 3000000) (ho : ∀ o ∈ z.op, o < z.to.length) (hs : s.size ≤ 3000000)
    (hy : ∀ y, z.endInto u = some y → y.text.length ≤ 4000000 ∧ y.fr.length ≤ 4000000 ∧ y.to.length ≤ 4000000 ∧ y.op.length ≤ 4000000) :
    Calls Tryd.prog 116 #[.pointer (some ⟨g, 0, none⟩), .iface 157 (.agg #[.string s]), .int .i64 u] w fun e w' => e = .returned (.bool (z.endInto u).isSome) ∧ Below B w w' ∧ ∀ y, z.endInto u = some y → ∃ V', Ly B g V' (y.push.write s.data.toList) w' := by
  have t1 := ta_elem_whole s
  have t2 := ta_elem_elem s
  have E := hide (endInto_any B g V z u w h hB (by omega) hf (by omega) ho)
  clear h
  obtain ⟨i0, hi0, hz0, hz1, hz2⟩ := info_parts Tryd.info3
  cases hz : z.endInto u with
  | none =>
    rw [hz] at E
    go_enter Tryd.func116, Tryd.ntmps116
    go_wp2_with fail
    refine E.out.mono ?_
    rintro e w1 ⟨rfl, hb1, -⟩
    go_wp2
    go_ret
    exact ⟨rfl, hb1, fun y hy => by cases hy⟩
  | some y =>
    rw [hz] at E
    obtain ⟨hY0, hY1, hY2, hY3⟩ := hy y hz
    clear hy
    go_enter Tryd.func116, Tryd.ntmps116
    go_wp2_with fail
    refine E.out.mono ?_
    rintro e w1 ⟨rfl, hb1, hL⟩
    obtain ⟨V1, L1⟩ := hL y rfl
    clear hL E
    have k1 := L1.c 1 (by omega)
    have k3 := L1.c 3 (by omega)
    obtain ⟨a1, c1, hV1, hq1, hq2⟩ := L1.shape 1 (by omega)
    rw [X1, ints_len] at hV1 hq1
    rw [hV1] at k1
    have kf := L1.fz 3
    have lg := L1.lt
    have own3 := L1.own 3 (by omega)
    have hE3 : Et 3 = 3 := rfl
    rw [X3, ints_len, hE3] at own3
    have ne3 := L1.ag 3 (by omega)
    have hrl : y.op.reverse.length ≤ 4000000 := by rw [List.length_reverse]; exact hY3
    have hB1 : B ≤ w1.heap.size := Nat.le_trans hB hb1.size
    obtain ⟨v3, hv3⟩ : ∃ v3, v3 = V1 3 := ⟨_, rfl⟩
    obtain ⟨R, hR⟩ : ∃ R, R = y.op.reverse := ⟨_, rfl⟩
    rw [← hR] at own3 hrl
    have H1 := hide L1
    have Hv3 := hide hv3
    have HR := hide hR
    rw [← hv3] at k3 own3 ne3
    clear L1 hv3 hV1 hR
    go_wp2_with fail
    go_region_law
      ((refine step_append_lies _ (by rfl) _ _ _ (by rfl) B 3 i0 _ 1 8 Tryd.underlying47 hi0 hz0 hz1 hz2 rfl (by omega) v3 R.length (ints (natI R)) (by rfl) ((own3.alloc _).drew)
          ⟨w1.heap.size, 0, none⟩ 1 1 [.int .i64 (y.fr.length : Int)] (by rfl) (by rfl) (World.news_of_block (cs := #[.int .i64 (y.fr.length : Int)]) (t := 3) (fr := (0, 0)) (heap_alloc_new w1 _)) (by simp [Value.oneCell'])
          (by omega) (by unfold maxLen; omega) (by omega) (by simp; omega) (w1.heap.size + 1) (by simp) ?_; intro gg cap w2 hown1 hgrow hat hlt; have hfz := (hgrow.frozen_far ⟨g, 3, none⟩ (by simp; omega) (Ne.symm ne3)).trans (fz_al w1 _ _ lg kf); have hcz := (hgrow.cell_far ⟨g, 3, none⟩ (by simp; omega) (Ne.symm ne3)).trans (cl_al w1 _ _ k3)))
    all_goals
      rw [Hv3.out] at hgrow hat
      have hap := ly_app (z' := y.push) H1.out (j := 3) (l := R) (x := y.fr.length) (by omega) (by omega) (by rw [X3, HR.out]) (by rw [X3]; show ints (natI (y.fr.length :: y.op).reverse) = _; rw [List.reverse_cons, HR.out]) (fun i hi hne => xz_not3 i hi hne) hown1 hgrow hat hB1
      have hb2 := hb1.trans hap.2
      have Wr := hide (write_elem B g _ y.push s _ hap.1 (Nat.le_trans hB hb2.size) hY0 hY1 hY2 (by omega))
      have HB2 := hide hb2
      clear k1 k3 own3 ne3 kf lg H1 hap hb2 hown1 hgrow hat hlt hfz hcz
      go_wp2_with fail
      refine Wr.out.mono ?_
      rintro e w3 ⟨rfl, hV3, hb3⟩
      go_wp2
      go_ret
      exact ⟨rfl, HB2.out.trans hb3, fun y' hy' => by cases hy'; exact hV3⟩
end Go.Proofs.YtafhpnkedjbcdaaDoor

namespace Go.Proofs.YtafhpnkedjbcdaaDoor
open Go.RowKit
open Doc1

set_option maxRecDepth 100000 in
set_option maxHeartbeats 4000000 in
/-- The whole is added where nothing is, and nowhere else. -/
theorem add_whole_no (B g : Nat) (V : Nat → Value) (y : LS) (u : Int) (w : World) (h : Ly B g V y w) (_hY1 : y.fr.length ≤ 4000000) (h0 : 0 < y.fr.length) :
    Calls Tryd.prog 116 #[.pointer (some ⟨g, 0, none⟩), .iface 155 (.agg #[]), .int .i64 u] w fun e w' => e = .returned (.bool false) ∧ w' = w := by
  have t1 := ta_whole_whole
  have k1 := h.c 1 (by omega)
  obtain ⟨a1, c1, hV1, hq1, hq2⟩ := h.shape 1 (by omega)
  rw [X1, ints_len] at hV1 hq1
  rw [hV1] at k1
  clear h
  go_enter Tryd.func116, Tryd.ntmps116
  go_wp2
  go_ret
  exact ⟨rfl, rfl⟩

set_option maxRecDepth 100000 in
set_option maxHeartbeats 4000000 in
theorem add_whole (B g : Nat) (V : Nat → Value) (y : LS) (u : Int) (w : World) (h : Ly B g V y w) (hB : B ≤ w.heap.size) (hY0 : y.text.length ≤ 4000000) (hY1 : y.fr.length ≤ 4000000) (hY2 : y.to.length ≤ 4000000) (hY3 : y.op.length ≤ 4000000) (h0 : y.fr.length = 0) :
    Calls Tryd.prog 116 #[.pointer (some ⟨g, 0, none⟩), .iface 155 (.agg #[]), .int .i64 u] w fun e w' => e = .returned (.bool true) ∧ Below B w w' ∧ (True → ∃ V', Ly B g V' (y.push.write []) w') := by
  have t1 := ta_whole_whole
  obtain ⟨i0, hi0, hz0, hz1, hz2⟩ := info_parts Tryd.info3
  have k1 := h.c 1 (by omega)
  have k3 := h.c 3 (by omega)
  obtain ⟨a1, c1, hV, hq1, hq2⟩ := h.shape 1 (by omega)
  rw [X1, ints_len] at hV hq1
  rw [hV] at k1
  have kf := h.fz 3
  have lg := h.lt
  have own3 := h.own 3 (by omega)
  have hE3 : Et 3 = 3 := rfl
  rw [X3, ints_len, hE3] at own3
  have ne3 := h.ag 3 (by omega)
  have hrl : y.op.reverse.length ≤ 4000000 := by rw [List.length_reverse]; exact hY3
  have hB1 : B ≤ w.heap.size := hB
  obtain ⟨v3, hv3⟩ : ∃ v3, v3 = V 3 := ⟨_, rfl⟩
  obtain ⟨R, hR⟩ : ∃ R, R = y.op.reverse := ⟨_, rfl⟩
  rw [← hR] at own3 hrl
  have H1 := hide h
  have Hv3 := hide hv3
  have HR := hide hR
  rw [← hv3] at k3 own3 ne3
  clear h hv3 hV hR
  go_enter Tryd.func116, Tryd.ntmps116
  go_wp2_with fail
  go_region_law
    ((refine step_append_lies _ (by rfl) _ _ _ (by rfl) B 3 i0 _ 1 8 Tryd.underlying47 hi0 hz0 hz1 hz2 rfl (by omega) v3 R.length (ints (natI R)) (by rfl) ((own3.alloc _).drew)
        ⟨w.heap.size, 0, none⟩ 1 1 [.int .i64 (0 : Int)] (by rfl) (by rfl) (World.news_of_block (cs := #[.int .i64 (0 : Int)]) (t := 3) (fr := (0, 0)) (heap_alloc_new w _)) (by simp [Value.oneCell'])
        (by omega) (by unfold maxLen; omega) (by omega) (by simp; omega) (w.heap.size + 1) (by simp) ?_; intro gg cap w2 hown1 hgrow hat hlt; have hfz := (hgrow.frozen_far ⟨g, 3, none⟩ (by simp; omega) (Ne.symm ne3)).trans (fz_al w _ _ lg kf); have hcz := (hgrow.cell_far ⟨g, 3, none⟩ (by simp; omega) (Ne.symm ne3)).trans (cl_al w _ _ k3)))
  all_goals
    rw [Hv3.out] at hgrow hat
    have hap := ly_app (z' := y.push) H1.out (j := 3) (l := R) (x := 0) (by omega) (by omega) (by rw [X3, HR.out]) (by rw [X3]; show ints (natI (y.fr.length :: y.op).reverse) = _; rw [h0, List.reverse_cons, HR.out]) (fun i hi hne => xz_not3 i hi hne) hown1 hgrow hat hB1
    have hb2 := hap.2
    have Wr := hide (write_whole B g _ y.push _ hap.1 (Nat.le_trans hB hb2.size) hY0 hY1 hY2)
    have HB2 := hide hb2
    clear k1 k3 own3 ne3 kf lg H1 hap hb2 hown1 hgrow hat hlt hfz hcz
    go_wp2_with fail
    refine Wr.out.mono ?_
    rintro e w3 ⟨rfl, hV3, hb3⟩
    go_wp2
    go_ret
    exact ⟨rfl, HB2.out.trans hb3, fun _ => hV3⟩
end Go.Proofs.YtafhpnkedjbcdaaDoor

namespace Go.Proofs.YtafhpnkedjbcdaaDoor
open Go.RowKit
open Doc1

/-- Ending turns open nodes into letters. -/
theorem end_sum (u : Int) : ∀ (op : List Nat) (text : List UInt8) (fr ts : List Nat) (y : LS), endI text fr ts op u = some y → y.text.length + y.op.length = text.length + op.length ∧ y.fr = fr ∧ y.to.length = ts.length ∧ ∀ o ∈ y.op, o ∈ op
  | [], _, _, _, _, h => by simp [endI] at h
  | o :: r, text, fr, ts, y, h => by
    unfold endI at h
    split at h
    · cases h; exact ⟨rfl, rfl, rfl, fun x hx => hx⟩
    · obtain ⟨h1, h2, h3, h4⟩ := end_sum u r _ _ _ y h
      refine ⟨by rw [h1]; simp; omega, h2, by rw [h3, List.length_set], fun x hx => List.mem_cons_of_mem _ (h4 x hx)⟩

theorem add_any (B g : Nat) (V : Nat → Value) (z : LS) (n : Nd) (w : World) (h : Ly B g V z w) (hB : B ≤ w.heap.size) (hT : Tab w) (hTB : 0 < B) (hl : z.text.length + z.op.length ≤ 3000000) (hf : z.fr.length = z.to.length) (hn : z.to.length ≤ 3000000) (ho : ∀ o ∈ z.op, o < z.to.length) (h1 : n.name.size ≤ 3000000) (h2 : n.text.size ≤ 3000000) :
    Calls Tryd.prog 116 #[.pointer (some ⟨g, 0, none⟩), shV n, .int .i64 n.up] w fun e w' => e = .returned (.bool (addN z n).isSome) ∧ Below B w w' ∧ ∀ y, addN z n = some y → ∃ V', Ly B g V' y w' := by
  have hb : ∀ y, z.endInto n.up = some y → y.text.length ≤ 4000000 ∧ y.fr.length ≤ 4000000 ∧ y.to.length ≤ 4000000 ∧ y.op.length ≤ 4000000 := fun y hy => by
    obtain ⟨e1, e2, e3, _⟩ := end_sum n.up _ _ _ _ y hy
    rw [e2]
    omega
  unfold addN shV
  cases hs : shp n with
  | whole =>
    by_cases h0 : z.fr.length = 0
    · rw [if_pos h0]
      refine (add_whole B g V z n.up w h hB (by omega) (by omega) (by omega) (by omega) h0).mono ?_
      rintro e w' ⟨rfl, hb', hv⟩
      exact ⟨rfl, hb', fun y hy => by cases hy; exact hv trivial⟩
    · rw [if_neg h0]
      refine (add_whole_no B g V z n.up w h (by omega) (by omega)).mono ?_
      rintro e w' ⟨rfl, hw⟩
      subst hw
      exact ⟨rfl, Below.refl _ _, fun y hy => by cases hy⟩
  | elem =>
    refine (add_elem B g V z n.up n.name w h hB hl hf hn ho h1 hb).mono ?_
    rintro e w' ⟨rfl, hb', hv⟩
    refine ⟨by simp, hb', fun y hy => ?_⟩
    cases hz : z.endInto n.up with
    | none => rw [hz] at hy; cases hy
    | some x =>
      rw [hz] at hy
      cases hy
      exact hv x hz
  | run =>
    refine (add_run B g V z n.up n.text w h hB hT hTB hl hf hn ho h2 (fun y hy => ⟨(hb y hy).1, (hb y hy).2.1, (hb y hy).2.2.1⟩)).mono ?_
    rintro e w' ⟨rfl, hb', hv⟩
    exact ⟨rfl, hb', hv⟩
  | none =>
    refine (add_none g n.up w).mono ?_
    rintro e w' ⟨rfl, hw⟩
    subst hw
    exact ⟨rfl, Below.refl _ _, fun y hy => by cases hy⟩
end Go.Proofs.YtafhpnkedjbcdaaDoor
