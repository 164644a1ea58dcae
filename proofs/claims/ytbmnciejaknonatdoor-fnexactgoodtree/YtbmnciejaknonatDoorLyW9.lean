/- The contract of the layout's add, of an element. -/
import Derived.Test.YtbmnciejaknonatDoorLyW8
namespace Go.Proofs.YtbmnciejaknonatDoor
open Go.RowKit
open Doc1

theorem xz_not3 {t : List UInt8} {f o p p' : List Nat} (i : Nat) (hi : i < 4) (hne : i ≠ 3) : Xz ⟨t, f, o, p'⟩ i = Xz ⟨t, f, o, p⟩ i := by
  unfold Xz
  by_cases h0 : i = 0
  · rw [if_pos h0, if_pos h0]
  · rw [if_neg h0, if_neg h0]
    by_cases h1 : i = 1
    · rw [if_pos h1, if_pos h1]
    · rw [if_neg h1, if_neg h1]
      by_cases h2 : i = 2
      · rw [if_pos h2, if_pos h2]
      · exact (by omega : False).elim

set_option maxRecDepth 100000 in
set_option maxHeartbeats 4000000 in
/-- An element is added, or not. -/
theorem add_elem (B g : Nat) (V : Nat → Value) (z : LS) (u : Int) (s : ByteArray) (w : World) (h : Ly B g V z w) (hB : B ≤ w.heap.size) (hl : z.text.length + z.op.length ≤ 3000000) (hf : z.fr.length = z.to.length) (hn : z.to.length ≤ 3000000) (ho : ∀ o ∈ z.op, o < z.to.length) (hs : s.size ≤ 3000000)
    (hy : ∀ y, z.endInto u = some y → y.text.length ≤ 4000000 ∧ y.fr.length ≤ 4000000 ∧ y.to.length ≤ 4000000 ∧ y.op.length ≤ 4000000) :
    Calls Tryd.prog 51 #[.pointer (some ⟨g, 0, none⟩), .iface 85 (.agg #[.string s]), .int .i64 u] w fun e w' => e = .returned (.bool (z.endInto u).isSome) ∧ Below B w w' ∧ ∀ y, z.endInto u = some y → ∃ V', Ly B g V' (y.push.write s.data.toList) w' := by
  have t1 := ta_elem_whole s
  have t2 := ta_elem_elem s
  have E := hide (endInto_any B g V z u w h hB (by omega) hf (by omega) ho)
  clear h
  obtain ⟨i0, hi0, hz0, hz1, hz2⟩ := info_parts Tryd.info3
  cases hz : z.endInto u with
  | none =>
    rw [hz] at E
    go_enter Tryd.func51, Tryd.ntmps51
    go_wp2_with fail
    refine E.out.mono ?_
    rintro e w1 ⟨rfl, hb1, -⟩
    go_wp2
    go_ret
    exact ⟨rfl, hb1, fun y hy => by cases hy⟩
  | some y =>
    rw [hz] at E
    obtain ⟨hY0, hY1, hY2, hY3⟩ := hy y hz
    clear hy
    go_enter Tryd.func51, Tryd.ntmps51
    go_wp2_with fail
    refine E.out.mono ?_
    rintro e w1 ⟨rfl, hb1, hL⟩
    obtain ⟨V1, L1⟩ := hL y rfl
    clear hL E
    have k1 := L1.c 1 (by omega)
    have k3 := L1.c 3 (by omega)
    obtain ⟨a1, c1, hV1, hq1, hq2⟩ := L1.shape 1 (by omega)
    rw [X1, ints_len] at hV1 hq1
    rw [hV1] at k1
    have kf := L1.fz 3
    have lg := L1.lt
    have own3 := L1.own 3 (by omega)
    have hE3 : Et 3 = 3 := rfl
    rw [X3, ints_len, hE3] at own3
    have ne3 := L1.ag 3 (by omega)
    have hrl : y.op.reverse.length ≤ 4000000 := by rw [List.length_reverse]; exact hY3
    have hB1 : B ≤ w1.heap.size := Nat.le_trans hB hb1.size
    obtain ⟨v3, hv3⟩ : ∃ v3, v3 = V1 3 := ⟨_, rfl⟩
    obtain ⟨R, hR⟩ : ∃ R, R = y.op.reverse := ⟨_, rfl⟩
    rw [← hR] at own3 hrl
    have H1 := hide L1
    have Hv3 := hide hv3
    have HR := hide hR
    rw [← hv3] at k3 own3 ne3
    clear L1 hv3 hV1 hR
    go_wp2_with fail
    go_region_law
      ((refine step_append_lies _ (by rfl) _ _ _ (by rfl) B 3 i0 _ 1 8 Tryd.underlying31 hi0 hz0 hz1 hz2 rfl (by omega) v3 R.length (ints (natI R)) (by rfl) ((own3.alloc _).drew)
          ⟨w1.heap.size, 0, none⟩ 1 1 [.int .i64 (y.fr.length : Int)] (by rfl) (by rfl) (World.news_of_block (cs := #[.int .i64 (y.fr.length : Int)]) (t := 3) (fr := (0, 0)) (heap_alloc_new w1 _)) (by simp [Value.oneCell'])
          (by omega) (by unfold maxLen; omega) (by omega) (by simp; omega) (w1.heap.size + 1) (by simp) ?_; intro gg cap w2 hown1 hgrow hat hlt; have hfz := (hgrow.frozen_far ⟨g, 3, none⟩ (by simp; omega) (Ne.symm ne3)).trans (fz_al w1 _ _ lg kf); have hcz := (hgrow.cell_far ⟨g, 3, none⟩ (by simp; omega) (Ne.symm ne3)).trans (cl_al w1 _ _ k3)))
    all_goals
      rw [Hv3.out] at hgrow hat
      have hap := ly_app (z' := y.push) H1.out (j := 3) (l := R) (x := y.fr.length) (by omega) (by omega) (by rw [X3, HR.out]) (by rw [X3]; show ints (natI (y.fr.length :: y.op).reverse) = _; rw [List.reverse_cons, HR.out]) (fun i hi hne => xz_not3 i hi hne) hown1 hgrow hat hB1
      have hb2 := hb1.trans hap.2
      have Wr := hide (write_elem B g _ y.push s _ hap.1 (Nat.le_trans hB hb2.size) hY0 hY1 hY2 (by omega))
      have HB2 := hide hb2
      clear k1 k3 own3 ne3 kf lg H1 hap hb2 hown1 hgrow hat hlt hfz hcz
      go_wp2_with fail
      refine Wr.out.mono ?_
      rintro e w3 ⟨rfl, hV3, hb3⟩
      go_wp2
      go_ret
      exact ⟨rfl, HB2.out.trans hb3, fun y' hy' => by cases hy'; exact hV3⟩
end Go.Proofs.YtbmnciejaknonatDoor
