/- The model's l12Part: a bough with its own, as a rope. -/
import Derived.Test.YtgacajnljplmiabDoorRpt8
set_option linter.unusedVariables false
namespace Go.Proofs.YtgacajnljplmiabDoor
open Go.RowKit
open Doc1

theorem seg_at {l : List Bg} {f k : Nat} {t : Lm} (h : SG l f (k + 1) t) (j : Nat) (hj : j < (t.pd 0).length) (h2 : f + j < l.length) : l[f + j] = shf f (t.pd 0)[j] := by
  have e := h.seg
  have hp := pd_shf t 0 f
  rw [Nat.zero_add] at hp
  rw [← hp] at e
  have hlt := h.lt
  have hl := Lm.pd_len t 0
  have e2 : ((l.take (k + 1)).drop f)[j]? = ((t.pd 0).map (shf f))[j]? := by rw [e]
  rw [List.getElem?_drop, List.getElem?_take, if_pos (by omega), List.getElem?_map, List.getElem?_eq_getElem hj, List.getElem?_eq_getElem h2] at e2
  simpa using e2

set_option maxRecDepth 100000 in
set_option maxHeartbeats 8000000 in
theorem l12Part_any {l : List Bg} {k f : Nat} {t : Lm} (hs : SG l f (k + 1) t) {g cap : Nat} {w : World} (hl : l.length ≤ 200) (hcl : l.length ≤ cap) (hcm : cap ≤ 9223372036854775807) (hx : ∀ i (hi : i < l.length), l[i].text.size ≤ 1048576) (hc : CLs w g (encBo l)) (hg : g < w.heap.size) :
    Calls Tryd.prog 125 #[.slice (some ⟨g, 0, none⟩) l.length cap, .int .i64 (k : Int)] w (OwPost w (t.pd 0)) := by
  obtain ⟨i0, hi0, hz0, hz1, hz2⟩ := info_parts Tryd.infoBough
  unfold OwPost
  obtain ⟨hf1, hf2, hgd⟩ := hs.lt
  have FS := hide (l12First_any l g cap hl hcl hcm hx k w (by omega) hc hg)
  unfold FsPost at FS
  rw [frs_some hs] at FS
  have np := Lm.nb_pos t
  have lp := Lm.pd_len t 0
  have HC := hide hc
  have HSG := hide (seg_at hs)
  have ek : IntKind.i64.wrap ((k : Int) + 1) = (k : Int) + 1 := by rw [IntKind.wrap_i64]; omega
  have ek1 : decide (((k : Int) + 1) < 0) = false := by rw [decide_eq_false_iff_not]; omega
  have ek2 : ((k : Int) + 1).toNat = k + 1 := by omega
  obtain ⟨n, hn⟩ : ∃ n, k + 1 - f = n := ⟨_, rfl⟩
  have hn2 : n = t.nb := by omega
  clear hc hx hs
  go_enter Tryd.func125, Tryd.ntmps125
  go_wp2_with fail
  refine FS.out.mono ?_
  rintro e w1 ⟨rfl, hb1⟩
  have HB1 := hide hb1
  clear hb1 FS
  go_wp2
  go_loopw [6, 18] (fun v vi wr => ∃ (j : Nat), j ≤ n ∧ vi = .int .i64 (j : Int) ∧ ∃ v0, v0 = v ∧ Hid (BoOwn wr w.heap.size v0 ((t.pd 0).take j) ∧ Below w.heap.size w wr)) (fun _ vi _ => n - (intOf vi).toNat)
  case atStart => exact ⟨0, by omega, rfl, _, rfl, hide ⟨by rw [List.take_zero]; exact World.ownsRow_nil _ _ _ _, HB1.out⟩⟩
  case round =>
    obtain ⟨j, hj, rfl, v, hv0, HR⟩ := hrel
    subst hv0
    have hB := HR.out.2.size
    by_cases hlt : j < n
    · have hlt2 : j < (t.pd 0).length := by omega
      have hlt3 : f + j < l.length := by omega
      obtain ⟨b0, b1, b2, b3, b4⟩ := (HC.out.later HR.out.2 hg).bgat (f + j) hlt3
      have hbd := pd_bd t 0 _ (List.getElem_mem hlt2)
      rw [HSG.out j hlt2 hlt3] at b0 b1 b2 b3 b4
      have hll : ((t.pd 0).take j).length = j := by rw [List.length_take]; omega
      have HT : Hid ((t.pd 0).take (j + 1) = (t.pd 0).take j ++ [(t.pd 0)[j]]) := hide (by rw [List.take_succ_eq_append_getElem hlt2])
      obtain ⟨⟨xl, xr, xt, xs, xd⟩, hx⟩ : ∃ x, (t.pd 0)[j] = x := ⟨_, rfl⟩
      rw [hx] at b0 b1 b2 b3 b4 hbd HT
      obtain ⟨L, hL⟩ : ∃ L, (t.pd 0).take j = L := ⟨_, rfl⟩
      rw [hL] at HR hll HT
      have hLl : L.length ≤ 10000 := by omega
      rw [show (f + j) * 5 = f * 5 + j * 5 by omega] at b0 b1 b2 b3 b4
      clear hx hL HC HSG
      simp only at hbd
      by_cases h0 : 0 ≤ xl
      · have ew1 : IntKind.i64.wrap (xl + (f : Int) - (f : Int)) = xl := by rw [IntKind.wrap_i64]; omega
        have ew2 : IntKind.i64.wrap (xr + (f : Int) - (f : Int)) = xr := by rw [IntKind.wrap_i64]; omega
        have e0 : decide ((0 : Int) ≤ xl + (f : Int)) = true := decide_eq_true (by omega)
        simp only [shf, if_pos h0] at b0 b1 b2 b3 b4
        go_wp2_with (at_builtin; go_loud (refine wpList_append_loc _ rfl _ _ 39 rfl w.heap.size 65 i0 (.agg #[.int .i64 0, .int .i64 0, .string ⟨#[]⟩, .int .i64 0, .int .i64 0]) 5 48 Tryd.underlying39 hi0 hz0 hz1 hz2 rfl (by decide) _ _ _ rfl (World.ownsRow.alloc (World.ownsRow.alloc HR.out.1 _) _) ⟨wr.heap.size + 1, 0, none⟩ 1 1 (bgC ⟨xl, xr, xt, xs, xd⟩) rfl rfl (cell5_at _ _ (by simp) _ _ _ _ _ _) (by intro u hu; simp [bgC] at hu; rcases hu with rfl | rfl | rfl | rfl | rfl <;> rfl) (by unfold maxLen; omega) (by omega) (by simp; omega) ?_); intro v5 w5 own5 grow5 loc5; have HR5 : Hid (BoOwn w5 w.heap.size v5 ((t.pd 0).take (j + 1)) ∧ Below w.heap.size w w5) := hide ⟨(by rw [HT.out]; exact BoOwn.app own5), below_append (HR.out.2.alloc hB _) (World.ownsRow.alloc HR.out.1 _) (by simp; omega) grow5⟩; clear own5 grow5 loc5 HR)
        exact ⟨⟨j + 1, by omega, by go_num, v5, rfl, HR5⟩, by simp [intOf]; omega⟩
      · have e0 : decide ((0 : Int) ≤ xl) = false := decide_eq_false h0
        simp only [shf, if_neg h0] at b0 b1 b2 b3 b4
        go_wp2_with (at_builtin; go_loud (refine wpList_append_loc _ rfl _ _ 39 rfl w.heap.size 65 i0 (.agg #[.int .i64 0, .int .i64 0, .string ⟨#[]⟩, .int .i64 0, .int .i64 0]) 5 48 Tryd.underlying39 hi0 hz0 hz1 hz2 rfl (by decide) _ _ _ rfl (World.ownsRow.alloc (World.ownsRow.alloc HR.out.1 _) _) ⟨wr.heap.size + 1, 0, none⟩ 1 1 (bgC ⟨xl, xr, xt, xs, xd⟩) rfl rfl (cell5_at _ _ (by simp) _ _ _ _ _ _) (by intro u hu; simp [bgC] at hu; rcases hu with rfl | rfl | rfl | rfl | rfl <;> rfl) (by unfold maxLen; omega) (by omega) (by simp; omega) ?_); intro v5 w5 own5 grow5 loc5; have HR5 : Hid (BoOwn w5 w.heap.size v5 ((t.pd 0).take (j + 1)) ∧ Below w.heap.size w w5) := hide ⟨(by rw [HT.out]; exact BoOwn.app own5), below_append (HR.out.2.alloc hB _) (World.ownsRow.alloc HR.out.1 _) (by simp; omega) grow5⟩; clear own5 grow5 loc5 HR)
        exact ⟨⟨j + 1, by omega, by go_num, v5, rfl, HR5⟩, by simp [intOf]; omega⟩
    · have HE : Hid (BoOwn wr w.heap.size v (t.pd 0) ∧ Below w.heap.size w wr) := hide (by
        have := HR.out
        rw [List.take_of_length_le (by omega)] at this
        exact this)
      clear HR
      go_wp2
      go_ret
      exact ⟨v, rfl, HE.out.1, HE.out.2⟩
end Go.Proofs.YtgacajnljplmiabDoor
