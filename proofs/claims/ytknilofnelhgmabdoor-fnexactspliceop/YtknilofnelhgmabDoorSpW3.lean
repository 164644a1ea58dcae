/- The contract of slices.DeleteFunc over parts. -/
import Derived.Test.YtknilofnelhgmabDoorSpW3a
namespace Go.Proofs.YtknilofnelhgmabDoor
open Go.RowKit
open Doc1

set_option maxRecDepth 100000 in
set_option maxHeartbeats 4000000 in
theorem deleteFunc_any {w : World} {g cap : Nat} {l : List Pt} {z : List Value} (h : Pin w (some ⟨g, 0, none⟩) g cap l) (hr : RowC w g (encP l ++ z)) :
    Calls Tryd.prog 39 #[.slice (some ⟨g, 0, none⟩) l.length cap, .func (.func 40) #[] #[]] w fun e w' => e = .returned (.slice (some ⟨g, 0, none⟩) (flt0 l).length cap) ∧ Pin w' (some ⟨g, 0, none⟩) g cap (flt0 l) ∧ Moves (fun k => k = g) w (fun k => k = g) w' := by
  have X := hide (indexFunc_any h)
  have hln := h.len
  have hcap := h.cap
  have H := hide h
  have HR := hide hr
  clear h hr
  go_enter Tryd.func39, Tryd.ntmps39
  go_wp2_with fail
  refine X.out.mono ?_
  rintro e w1 ⟨hb1, ⟨rfl, hall⟩ | ⟨k, hk, rfl, hno, hn⟩⟩
  · have e : flt0 l = l := List.filter_eq_self.2 (fun p hp => by simpa using hall p hp)
    have HE := hide e
    clear e hall
    go_wp2
    go_ret
    rw [HE.out]
    exact ⟨rfl, H.out.later hb1, moves_up hb1⟩
  · have D0 : DelAt l z w g k (k + 1) w1 := by
      have e : flt0 (l.take k) = l.take k := List.filter_eq_self.2 (fun p hp => by simpa using hno p hp)
      have e2 : flt0 (l.take (k + 1)) = l.take k := by rw [flt_take hk, if_pos hn, List.append_nil, e]
      refine ⟨⟨by omega, hk⟩, ⟨encP l ++ z, HR.out.up hb1, by rw [List.length_append, encP_len], ?_, rfl⟩, by rw [e2, List.length_take]; omega, moves_up hb1⟩
      rw [e2]
      have : encP l = encP (l.take k) ++ encP (l.drop k) := by rw [← encP_app, List.take_append_drop]
      rw [this, List.append_assoc, List.take_left' (by rw [encP_len, List.length_take]; omega)]
    have HD := hide D0
    clear D0 hno hn X
    go_wp2_with fail
    go_loopw [5, 6] (fun a b wr => ∃ i j : Nat, a = .int .i64 i ∧ b = .int .i64 j ∧ i < j ∧ Hid (DelAt l z w g i j wr)) (fun _ b _ => l.length - (intOf b).toNat)
    case atStart => exact ⟨k, k + 1, rfl, by simp, by omega, HD⟩
    case round =>
      obtain ⟨i, j, rfl, rfl, hij, HDr⟩ := hrel
      have hjl := HDr.out.le.2
      by_cases hlt : j < l.length
      · obtain ⟨c0, c1, c2⟩ := HDr.out.part hlt
        have N := hide (fun o => isNothing_any l[j] (wr.alloc o))
        obtain ⟨y0, y1, y2⟩ := cells3_new' wr (.int .i64 l[j].keep) (.string l[j].put) (.string l[j].drop)
        have hB : Hid (∀ o w2, Below (wr.alloc o).heap.size (wr.alloc o) w2 → Below wr.heap.size wr w2) := hide (fun o w2 hb => ((Below.refl _ _).alloc (Nat.le_refl _) _).trans (hb.mono (by simp)))
        have ji : (j : Int) < (l.length : Int) := by omega
        have j0 : (0 : Int) ≤ (j : Int) := by omega
        by_cases hn : nth l[j]
        · rw [decide_eq_true hn] at N
          have HN := hide hn
          clear hn
          go_wp2_with (go_at_call 40; refine (N.out _).mono ?_; rintro e w2 ⟨rfl, hb2⟩)
          go_roundw
          case rel =>
            iterate 23 apply Exists.intro
            refine ⟨?_, rfl⟩
            exact ⟨i, j + 1, rfl, by go_num, by omega, hide (HDr.out.skip hlt HN.out (hB.out _ _ hb2))⟩
          case measure => simp [intOf]; omega
        · rw [decide_eq_false hn] at N
          have HN := hide hn
          clear hn
          have il : (i : Int) < (l.length : Int) := by omega
          have i0 : (0 : Int) ≤ (i : Int) := by omega
          have HT := hide (fun w2 hb => HDr.out.take hlt hij HN.out (w2 := w2) hb)
          have RR : Hid (∀ w2, Below wr.heap.size wr w2 → ∃ cs, RowC w2 g cs ∧ cs.length = l.length * 3 + z.length) := hide (fun w2 hb => by obtain ⟨cs, hr, hl, -, -⟩ := HDr.out.row; exact ⟨cs, hr.up hb, hl⟩)
          go_wp2_with (go_at_call 40; refine (N.out _).mono ?_; rintro e w2 ⟨rfl, hb2⟩; have z0 := (World.cell?_of_block (a := ⟨wr.heap.size, 0, none⟩) (hb2.block _ (by simp))).trans (y0 _); have z1 := (World.cell?_of_block (a := ⟨wr.heap.size, 1, none⟩) (hb2.block _ (by simp))).trans (y1 _); have z2 := (World.cell?_of_block (a := ⟨wr.heap.size, 2, none⟩) (hb2.block _ (by simp))).trans (y2 _); obtain ⟨cs, hrc, hcl⟩ := RR.out w2 (hB.out _ _ hb2); have q0 := hrc.cls (i * 3) _ (List.getElem?_eq_getElem (by omega)); have f0 := hrc.fz (i * 3); have q1 := (hrc.set (i * 3) (.int .i64 l[j].keep)).cls (i * 3 + 1) _ (List.getElem?_eq_getElem (by simp; omega)); have f1 := (hrc.set (i * 3) (.int .i64 l[j].keep)).fz (i * 3 + 1); have q2 := ((hrc.set (i * 3) (.int .i64 l[j].keep)).set (i * 3 + 1) (.string l[j].put)).cls (i * 3 + 2) _ (List.getElem?_eq_getElem (by simp; omega)); have f2 := ((hrc.set (i * 3) (.int .i64 l[j].keep)).set (i * 3 + 1) (.string l[j].put)).fz (i * 3 + 2))
          go_roundw
          case rel =>
            iterate 23 apply Exists.intro
            refine ⟨?_, rfl⟩
            exact ⟨i + 1, j + 1, by go_num, by go_num, by omega, hide (HT.out _ (hB.out _ _ hb2))⟩
          case measure => simp [intOf]; omega
      · obtain rfl : j = l.length := by omega
        obtain ⟨cs, hrc, hcl, htk, -⟩ := HDr.out.row
        have hli := hide HDr.out.len
        have hmv := hide HDr.out.mv
        have HC := hide (And.intro hcl htk)
        have i1 : (i : Int) ≤ (l.length : Int) := by omega
        have i0 : (0 : Int) ≤ (i : Int) := by omega
        rw [List.take_length] at hli HC
        have hil : i < l.length := by omega
        clear HDr htk hjl
        go_wp2_with (refine wpList_clear (by rfl) _ (by rfl) (g := g) (i := i) (n := l.length - i) (cs := cs) (by rfl) hrc (by omega) (by omega) ?_)
        intro cs' k1 k2
        go_wp2
        go_ret
        have e1 : cs'.take (i * 3) = encP (flt0 l) := k2.trans HC.out.2
        have hsub : (flt0 l).length ≤ l.length := List.length_filter_le _ _
        have HRR := (RowC.setRow (cs' := cs') hrc)
        refine ⟨by rw [← hli.out]; rfl, ⟨⟨Nat.le_trans hsub hcap.1, hcap.2⟩, fun m hm => ?_, Nat.le_trans hsub hln, fun m u hu => ?_, HRR.lt, fun _ => rfl⟩, hmv.out.setRow (fun _ => rfl) _⟩
        · obtain ⟨m', hm', e⟩ := List.mem_iff_getElem.1 ((List.mem_filter.1 (List.getElem_mem hm)).1)
          rw [show (flt0 l)[m] = l[m'] from e.symm]
          exact H.out.sz m' hm'
        · refine HRR.cls m u ?_
          rw [← e1] at hu
          rw [List.getElem?_take] at hu
          split at hu
          · exact hu
          · cases hu
end Go.Proofs.YtknilofnelhgmabDoor
