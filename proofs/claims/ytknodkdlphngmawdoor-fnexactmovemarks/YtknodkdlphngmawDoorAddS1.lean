/- The model's l5Add: a mark put to marks: the walk. -/
import Derived.Test.YtknodkdlphngmawDoorCutSA
namespace Go.Proofs.YtknodkdlphngmawDoor
open Go.RowKit
open Doc1

set_option maxRecDepth 100000 in
set_option maxHeartbeats 8000000 in
theorem l5Add_any {w : World} {g cap : Nat} {l : List Mk} (m : Mk) (hst : m.style.size ≤ 1048576) (hm : m.frm < m.to) (h : MrIn w g cap l) (hpw : l.Pairwise (fun a b => mkLt a b = true)) (hlts : ∀ x ∈ l, x.frm < x.to) :
    Calls Tryd.prog 36 #[.slice (some ⟨g, 0, none⟩) l.length cap, .agg #[.int .i64 m.frm, .int .i64 m.to, .string m.style]] w fun e w' => ∃ v, e = .returned v ∧ MrOwn w' w.heap.size v (addL l m) ∧ Below w.heap.size w w' := by
  obtain ⟨i0, hi0, hz0, hz1, hz2⟩ := info_parts Tryd.infoMk
  have hcp := h.cap
  have hln := h.len
  have H := hide h
  have HP := hide hpw
  have HLT := hide hlts
  have hb0 : Below w.heap.size w (w.alloc (.cells #[.int .i64 m.frm, .int .i64 m.to, .string m.style] 73)) := (Below.refl _ _).alloc (Nat.le_refl _) _
  have A0 : Hid (AI w.heap.size w l m 0 false (.slice none 0 0) m [] (w.alloc (.cells #[.int .i64 m.frm, .int .i64 m.to, .string m.style] 73))) := hide ⟨bx3_new w m _, World.ownsRow_nil _ _ _ _, hb0, by simp, fun c => (by cases c), hm, hst, by simp⟩
  clear h hpw hlts hb0 hm hst
  go_enter Tryd.func36, Tryd.ntmps36
  go_wp2_with fail
  go_loopw [5, 6, 11] (fun v b i wr => ∃ k : Nat, k ≤ l.length ∧ i = .int .i64 k ∧ ∃ put, b = .bool put ∧ ∃ v0, v0 = v ∧ ∃ M out, Hid (AI w.heap.size w l m k put v0 M out wr)) (fun _ _ i _ => l.length - (intOf i).toNat)
  case atStart => exact ⟨0, by omega, rfl, false, rfl, _, rfl, m, [], A0⟩
  case round =>
    obtain ⟨k, hk, rfl, put, rfl, v, hv0, M, out, HI⟩ := hrel
    subst hv0
    have hbel := HI.out.bel
    have hol := HI.out.ol
    have hel := encMr_len out
    have hBlt := HI.out.bx.lt
    by_cases hlt : k < l.length
    · obtain ⟨c0, c1, c2⟩ := (H.out.later hbel).at'.mrat k hlt
      obtain ⟨x, hxx⟩ : ∃ x, x = l[k] := ⟨_, rfl⟩
      have HXL : Hid (x.frm < x.to) := hide (by rw [hxx]; exact HLT.out _ (List.getElem_mem _))
      rw [← hxx] at c0 c1 c2
      have HXX := hide hxx
      obtain ⟨z0', z1', z2'⟩ := cellsE_new wr (.int .i64 x.frm) (.int .i64 x.to) (.string x.style)
      have z0 := z0' 73
      have z1 := z1' 73
      have z2 := z2' 73
      have HBX2 := hide (HI.out.bx.up ((Below.refl _ _).alloc (Nat.le_refl _) (.cells #[.int .i64 x.frm, .int .i64 x.to, .string x.style] 73)))
      obtain ⟨p0, p1, p2⟩ := HBX2.out.cells
      have f0 := HBX2.out.fz 0
      have f1 := HBX2.out.fz 1
      have hown2 := HI.out.own.alloc (.cells #[.int .i64 x.frm, .int .i64 x.to, .string x.style] 73)
      have hbel2 := hbel.alloc hbel.size (.cells #[.int .i64 x.frm, .int .i64 x.to, .string x.style] 73)
      have hsz2 := hbel2.size
      have hsz3 := hbel.size
      clear z0' z1' z2' hxx
      cases put with
      | false =>
        rcases mk_cases x M with hc | hc | hc
        · obtain ⟨t1, t2, t3⟩ := lt_styles hc
          have HW : Hid (mkLt x M = true) := hide (t1)
          go_wp2_with (at_builtin; refine wpList_append_own _ rfl _ _ 35 rfl (w.heap.size + 1) 73 i0 (.agg #[.int .i64 0, .int .i64 0, .string ⟨#[]⟩]) 3 32 Tryd.underlying35 hi0 hz0 hz1 hz2 rfl (by decide) _ _ _ rfl (hown2.alloc _) ⟨wr.heap.size + 1, 0, none⟩ 1 1 [.int .i64 x.frm, .int .i64 x.to, .string x.style] rfl rfl (cellC_new2 _ _ _ _ _ _) (by intro u hu; simp at hu; rcases hu with rfl | rfl | rfl <;> rfl) (by unfold maxLen; omega) (by omega) (by simp; omega) ?_; intro v3 w3 hown3 hgrow3 _; have hb3 := below_append hbel2 (own_mono hown2 (Nat.le_succ _)) hsz2 hgrow3; have hx3 := hide (HBX2.out.block ((hgrow3.block w.heap.size (by simp; omega) (fun c => absurd (HI.out.own.lt _ c.symm).1 (by omega))).trans (Below.heap_alloc _ _ _ (by simp; omega)))); have HO3 := hide hown3; clear hown3 hgrow3 hown2)
          have A := hide (HI.out.before hlt HXX.out HW.out hx3.out HO3.out hb3)
          exact ⟨⟨k + 1, by omega, by go_num, false, rfl, _, rfl, _, _, A⟩, by simp [intOf]; omega⟩
        · obtain ⟨t0, t1, t2, t3, t4⟩ := eq_styles hc
          have T3 := hide t3
          have T4 := hide t4
          clear t0 t3 t4
          by_cases g1 : x.to < M.frm
          · have HW : Hid (mkLt x M = true) := hide (by rw [T3.out]; exact decide_eq_true g1)
            go_wp2_with (at_builtin; refine wpList_append_own _ rfl _ _ 35 rfl (w.heap.size + 1) 73 i0 (.agg #[.int .i64 0, .int .i64 0, .string ⟨#[]⟩]) 3 32 Tryd.underlying35 hi0 hz0 hz1 hz2 rfl (by decide) _ _ _ rfl (hown2.alloc _) ⟨wr.heap.size + 1, 0, none⟩ 1 1 [.int .i64 x.frm, .int .i64 x.to, .string x.style] rfl rfl (cellC_new2 _ _ _ _ _ _) (by intro u hu; simp at hu; rcases hu with rfl | rfl | rfl <;> rfl) (by unfold maxLen; omega) (by omega) (by simp; omega) ?_; intro v3 w3 hown3 hgrow3 _; have hb3 := below_append hbel2 (own_mono hown2 (Nat.le_succ _)) hsz2 hgrow3; have hx3 := hide (HBX2.out.block ((hgrow3.block w.heap.size (by simp; omega) (fun c => absurd (HI.out.own.lt _ c.symm).1 (by omega))).trans (Below.heap_alloc _ _ _ (by simp; omega)))); have HO3 := hide hown3; clear hown3 hgrow3 hown2)
            have A := hide (HI.out.before hlt HXX.out HW.out hx3.out HO3.out hb3)
            exact ⟨⟨k + 1, by omega, by go_num, false, rfl, _, rfl, _, _, A⟩, by simp [intOf]; omega⟩
          · by_cases g2 : M.to < x.frm
            · have HW : Hid (mkLt M x = true) := hide (by rw [T4.out]; exact decide_eq_true g2)
              have HN : Hid (mkLt x M = false) := hide (by rw [T3.out]; exact decide_eq_false g1)
              go_wp2_with (first | (at_builtin; refine wpList_append_own _ rfl _ _ 35 rfl (w.heap.size + 1) 73 i0 (.agg #[.int .i64 0, .int .i64 0, .string ⟨#[]⟩]) 3 32 Tryd.underlying35 hi0 hz0 hz1 hz2 rfl (by decide) _ _ _ rfl (hown2.alloc _) ⟨wr.heap.size + 1, 0, none⟩ 1 1 [.int .i64 M.frm, .int .i64 M.to, .string M.style] rfl rfl (cellC_new2 _ _ _ _ _ _) (by intro u hu; simp at hu; rcases hu with rfl | rfl | rfl <;> rfl) (by unfold maxLen; omega) (by omega) (by simp; omega) ?_; intro v3 w3 hown3 hgrow3 _; have hb3 := below_append hbel2 (own_mono hown2 (Nat.le_succ _)) hsz2 hgrow3; have hsz4 := hb3.size; have hx3 := hide (HBX2.out.block ((hgrow3.block w.heap.size (by simp; omega) (fun c => absurd (HI.out.own.lt _ c.symm).1 (by omega))).trans (Below.heap_alloc _ _ _ (by simp; omega)))); have y3 := (hgrow3.block wr.heap.size (by simp; omega) (fun c => absurd (HI.out.own.lt _ c.symm).2 (by omega))).trans (Below.heap_alloc _ _ _ (by simp)); have b0 := (World.cell?_of_block (a := ⟨wr.heap.size, 0, none⟩) y3).trans z0; have b1 := (World.cell?_of_block (a := ⟨wr.heap.size, 1, none⟩) y3).trans z1; have b2 := (World.cell?_of_block (a := ⟨wr.heap.size, 2, none⟩) y3).trans z2; have hown4 : w3.ownsRow (w.heap.size + 1) 73 3 v3 (out.length + 1) (encMr (out ++ [M])) := (by rw [encMr_app]; exact hown3); have hel4 := encMr_len (out ++ [M]); clear hown3 hgrow3 hown2 z0 z1 z2 y3) | (at_builtin; refine wpList_append_own _ rfl _ _ 35 rfl (w.heap.size + 1) 73 i0 (.agg #[.int .i64 0, .int .i64 0, .string ⟨#[]⟩]) 3 32 Tryd.underlying35 hi0 hz0 hz1 hz2 rfl (by decide) _ _ _ rfl (hown4.alloc _) ⟨w3.heap.size, 0, none⟩ 1 1 [.int .i64 x.frm, .int .i64 x.to, .string x.style] rfl rfl (cellC_new _ _ _ _ _) (by intro u hu; simp at hu; rcases hu with rfl | rfl | rfl <;> rfl) (by unfold maxLen; omega) (by omega) (by simp; omega) ?_; intro v5 w5 hown5 hgrow5 _; have hb5 := below_append hb3 (own_mono hown4 (Nat.le_succ _)) hsz4 hgrow5; have hx5 := hide (hx3.out.block ((hgrow5.block w.heap.size (by have := hx3.out.lt; simp; omega) (fun c => absurd (hown4.lt _ c.symm).1 (by omega))).trans (Below.heap_alloc _ _ _ hx3.out.lt))); have HO5 := hide hown5; clear hown5 hgrow5 hown4))
              have A := hide (HI.out.after0 hlt HXX.out HN.out HW.out HP.out HXL.out hx5.out HO5.out hb5)
              exact ⟨⟨k + 1, by omega, by go_num, true, rfl, _, rfl, _, _, A⟩, by simp [intOf]; omega⟩
            · have HN : Hid (mkLt x M = false) := hide (by rw [T3.out]; exact decide_eq_false g1)
              have HL : Hid (mkLt M x = false) := hide (by rw [T4.out]; exact decide_eq_false g2)
              by_cases g6 : x.frm < M.frm
              · by_cases g7 : M.to < x.to
                · have hsa : (wr.setCell ⟨w.heap.size, 0, none⟩ (.int .i64 x.frm)).heap.size = wr.heap.size := by simp [World.setCell]
                  obtain ⟨ya0, ya1, ya2⟩ := cellsE_new (wr.setCell ⟨w.heap.size, 0, none⟩ (.int .i64 x.frm)) (.int .i64 x.frm) (.int .i64 x.to) (.string x.style)
                  have za0 := ya0 73
                  have za1 := ya1 73
                  have za2 := ya2 73
                  rw [hsa] at za0 za1 za2
                  obtain ⟨pa0, pa1, pa2⟩ := ((HI.out.bx.set0 x.frm).up ((Below.refl _ _).alloc (Nat.le_refl _) (.cells #[.int .i64 x.frm, .int .i64 x.to, .string x.style] 73))).cells
                  have fa1 := ((HI.out.bx.set0 x.frm).up ((Below.refl _ _).alloc (Nat.le_refl _) (.cells #[.int .i64 x.frm, .int .i64 x.to, .string x.style] 73))).fz 1
                  clear ya0 ya1 ya2
                  have HE : Hid ((⟨x.frm, x.to, M.style⟩ : Mk) = mgM M x) := hide (by unfold mgM; congr 1 <;> omega)
                  have HT := hide (fun wr' b o e => HI.out.touch hlt HXX.out HN.out HL.out HXL.out HE.out (wr' := wr') b o e)
                  have HBX3 := hide ((HI.out.bx.set0 x.frm).set1 x.to)
                  have HO3 := hide (own_held (w2 := ((wr.setCell ⟨w.heap.size, 0, none⟩ (.int .i64 x.frm)).setCell ⟨w.heap.size, 1, none⟩ (.int .i64 x.to))) (own_held (w2 := (wr.setCell ⟨w.heap.size, 0, none⟩ (.int .i64 x.frm))) HI.out.own (fun b hb => Below.heap_setCell _ _ _ _ (fun e => absurd (HI.out.own.lt b hb).1 (by have e2 : b = w.heap.size := e; omega)))) (fun b hb => Below.heap_setCell _ _ _ _ (fun e => absurd (HI.out.own.lt b hb).1 (by have e2 : b = w.heap.size := e; omega))))
                  have HB3 := hide ((HI.out.bel.setCell (p := ⟨w.heap.size, 0, none⟩) (Nat.le_refl _) (.int .i64 x.frm)).setCell (p := ⟨w.heap.size, 1, none⟩) (Nat.le_refl _) (.int .i64 x.to))
                  clear hown2
                  go_wp2
                  have A := hide (HT.out _ (HBX3.out.up ((Below.refl _ _).alloc (Nat.le_refl _) (.cells #[.int .i64 x.frm, .int .i64 x.to, .string x.style] 73))) (HO3.out.alloc (.cells #[.int .i64 x.frm, .int .i64 x.to, .string x.style] 73)) (HB3.out.alloc HB3.out.size (.cells #[.int .i64 x.frm, .int .i64 x.to, .string x.style] 73)))
                  exact ⟨⟨k + 1, by omega, by go_num, false, rfl, _, rfl, _, _, A⟩, by simp [intOf]; omega⟩
                · have hsa : (wr.setCell ⟨w.heap.size, 0, none⟩ (.int .i64 x.frm)).heap.size = wr.heap.size := by simp [World.setCell]
                  obtain ⟨ya0, ya1, ya2⟩ := cellsE_new (wr.setCell ⟨w.heap.size, 0, none⟩ (.int .i64 x.frm)) (.int .i64 x.frm) (.int .i64 x.to) (.string x.style)
                  have za0 := ya0 73
                  have za1 := ya1 73
                  have za2 := ya2 73
                  rw [hsa] at za0 za1 za2
                  obtain ⟨pa0, pa1, pa2⟩ := ((HI.out.bx.set0 x.frm).up ((Below.refl _ _).alloc (Nat.le_refl _) (.cells #[.int .i64 x.frm, .int .i64 x.to, .string x.style] 73))).cells
                  have fa1 := ((HI.out.bx.set0 x.frm).up ((Below.refl _ _).alloc (Nat.le_refl _) (.cells #[.int .i64 x.frm, .int .i64 x.to, .string x.style] 73))).fz 1
                  clear ya0 ya1 ya2
                  have HE : Hid ((⟨x.frm, M.to, M.style⟩ : Mk) = mgM M x) := hide (by unfold mgM; congr 1 <;> omega)
                  have HT := hide (fun wr' b o e => HI.out.touch hlt HXX.out HN.out HL.out HXL.out HE.out (wr' := wr') b o e)
                  have HBX3 := hide (HI.out.bx.set0 x.frm)
                  have HO3 := hide (own_held (w2 := (wr.setCell ⟨w.heap.size, 0, none⟩ (.int .i64 x.frm))) HI.out.own (fun b hb => Below.heap_setCell _ _ _ _ (fun e => absurd (HI.out.own.lt b hb).1 (by have e2 : b = w.heap.size := e; omega))))
                  have HB3 := hide (HI.out.bel.setCell (p := ⟨w.heap.size, 0, none⟩) (Nat.le_refl _) (.int .i64 x.frm))
                  clear hown2
                  go_wp2
                  have A := hide (HT.out _ (HBX3.out.up ((Below.refl _ _).alloc (Nat.le_refl _) (.cells #[.int .i64 x.frm, .int .i64 x.to, .string x.style] 73))) (HO3.out.alloc (.cells #[.int .i64 x.frm, .int .i64 x.to, .string x.style] 73)) (HB3.out.alloc HB3.out.size (.cells #[.int .i64 x.frm, .int .i64 x.to, .string x.style] 73)))
                  exact ⟨⟨k + 1, by omega, by go_num, false, rfl, _, rfl, _, _, A⟩, by simp [intOf]; omega⟩
              · by_cases g7 : M.to < x.to
                · have HE : Hid ((⟨M.frm, x.to, M.style⟩ : Mk) = mgM M x) := hide (by unfold mgM; congr 1 <;> omega)
                  have HT := hide (fun wr' b o e => HI.out.touch hlt HXX.out HN.out HL.out HXL.out HE.out (wr' := wr') b o e)
                  have HBX3 := hide (HI.out.bx.set1 x.to)
                  have HO3 := hide (own_held (w2 := (wr.setCell ⟨w.heap.size, 1, none⟩ (.int .i64 x.to))) HI.out.own (fun b hb => Below.heap_setCell _ _ _ _ (fun e => absurd (HI.out.own.lt b hb).1 (by have e2 : b = w.heap.size := e; omega))))
                  have HB3 := hide (HI.out.bel.setCell (p := ⟨w.heap.size, 1, none⟩) (Nat.le_refl _) (.int .i64 x.to))
                  clear hown2
                  go_wp2
                  have A := hide (HT.out _ (HBX3.out.up ((Below.refl _ _).alloc (Nat.le_refl _) (.cells #[.int .i64 x.frm, .int .i64 x.to, .string x.style] 73))) (HO3.out.alloc (.cells #[.int .i64 x.frm, .int .i64 x.to, .string x.style] 73)) (HB3.out.alloc HB3.out.size (.cells #[.int .i64 x.frm, .int .i64 x.to, .string x.style] 73)))
                  exact ⟨⟨k + 1, by omega, by go_num, false, rfl, _, rfl, _, _, A⟩, by simp [intOf]; omega⟩
                · have HE : Hid ((⟨M.frm, M.to, M.style⟩ : Mk) = mgM M x) := hide (by unfold mgM; congr 1 <;> omega)
                  have HT := hide (fun wr' b o e => HI.out.touch hlt HXX.out HN.out HL.out HXL.out HE.out (wr' := wr') b o e)
                  have HBX3 := hide HI.out.bx
                  have HO3 := hide HI.out.own
                  have HB3 := hide HI.out.bel
                  clear hown2
                  go_wp2
                  have A := hide (HT.out _ (HBX3.out.up ((Below.refl _ _).alloc (Nat.le_refl _) (.cells #[.int .i64 x.frm, .int .i64 x.to, .string x.style] 73))) (HO3.out.alloc (.cells #[.int .i64 x.frm, .int .i64 x.to, .string x.style] 73)) (HB3.out.alloc HB3.out.size (.cells #[.int .i64 x.frm, .int .i64 x.to, .string x.style] 73)))
                  exact ⟨⟨k + 1, by omega, by go_num, false, rfl, _, rfl, _, _, A⟩, by simp [intOf]; omega⟩
        · obtain ⟨t1, t2, t3⟩ := lt_styles hc
          have t2' : (x.style.toList == M.style.toList) = false := by rw [← Bool.not_eq_true]; intro e; have := (eq_styles e).1; rw [this, bl_ir] at hc; cases hc
          have T1 := hide t1
          clear t1 t2
          have HW : Hid (mkLt M x = true) := hide (T1.out)
          have HN : Hid (mkLt x M = false) := hide (by unfold mkLt; rw [if_neg (by rw [t2']; simp)]; exact t3)
          go_wp2_with (first | (at_builtin; refine wpList_append_own _ rfl _ _ 35 rfl (w.heap.size + 1) 73 i0 (.agg #[.int .i64 0, .int .i64 0, .string ⟨#[]⟩]) 3 32 Tryd.underlying35 hi0 hz0 hz1 hz2 rfl (by decide) _ _ _ rfl (hown2.alloc _) ⟨wr.heap.size + 1, 0, none⟩ 1 1 [.int .i64 M.frm, .int .i64 M.to, .string M.style] rfl rfl (cellC_new2 _ _ _ _ _ _) (by intro u hu; simp at hu; rcases hu with rfl | rfl | rfl <;> rfl) (by unfold maxLen; omega) (by omega) (by simp; omega) ?_; intro v3 w3 hown3 hgrow3 _; have hb3 := below_append hbel2 (own_mono hown2 (Nat.le_succ _)) hsz2 hgrow3; have hsz4 := hb3.size; have hx3 := hide (HBX2.out.block ((hgrow3.block w.heap.size (by simp; omega) (fun c => absurd (HI.out.own.lt _ c.symm).1 (by omega))).trans (Below.heap_alloc _ _ _ (by simp; omega)))); have y3 := (hgrow3.block wr.heap.size (by simp; omega) (fun c => absurd (HI.out.own.lt _ c.symm).2 (by omega))).trans (Below.heap_alloc _ _ _ (by simp)); have b0 := (World.cell?_of_block (a := ⟨wr.heap.size, 0, none⟩) y3).trans z0; have b1 := (World.cell?_of_block (a := ⟨wr.heap.size, 1, none⟩) y3).trans z1; have b2 := (World.cell?_of_block (a := ⟨wr.heap.size, 2, none⟩) y3).trans z2; have hown4 : w3.ownsRow (w.heap.size + 1) 73 3 v3 (out.length + 1) (encMr (out ++ [M])) := (by rw [encMr_app]; exact hown3); have hel4 := encMr_len (out ++ [M]); clear hown3 hgrow3 hown2 z0 z1 z2 y3) | (at_builtin; refine wpList_append_own _ rfl _ _ 35 rfl (w.heap.size + 1) 73 i0 (.agg #[.int .i64 0, .int .i64 0, .string ⟨#[]⟩]) 3 32 Tryd.underlying35 hi0 hz0 hz1 hz2 rfl (by decide) _ _ _ rfl (hown4.alloc _) ⟨w3.heap.size, 0, none⟩ 1 1 [.int .i64 x.frm, .int .i64 x.to, .string x.style] rfl rfl (cellC_new _ _ _ _ _) (by intro u hu; simp at hu; rcases hu with rfl | rfl | rfl <;> rfl) (by unfold maxLen; omega) (by omega) (by simp; omega) ?_; intro v5 w5 hown5 hgrow5 _; have hb5 := below_append hb3 (own_mono hown4 (Nat.le_succ _)) hsz4 hgrow5; have hx5 := hide (hx3.out.block ((hgrow5.block w.heap.size (by have := hx3.out.lt; simp; omega) (fun c => absurd (hown4.lt _ c.symm).1 (by omega))).trans (Below.heap_alloc _ _ _ hx3.out.lt))); have HO5 := hide hown5; clear hown5 hgrow5 hown4))
          have A := hide (HI.out.after0 hlt HXX.out HN.out HW.out HP.out HXL.out hx5.out HO5.out hb5)
          exact ⟨⟨k + 1, by omega, by go_num, true, rfl, _, rfl, _, _, A⟩, by simp [intOf]; omega⟩
      | true =>
        have hML := HI.out.ml
        rcases lt_after HXL.out hML (HI.out.aft rfl x (by rw [List.drop_eq_getElem_cons hlt, ← HXX.out]; simp)) with hc | ⟨hc, g2, g1⟩
        · obtain ⟨t1, t2, t3⟩ := lt_styles hc
          have t2' : (x.style.toList == M.style.toList) = false := by rw [← Bool.not_eq_true]; intro e; have := (eq_styles e).1; rw [this, bl_ir] at hc; cases hc
          clear t1 t2
          go_wp2_with (at_builtin; refine wpList_append_own _ rfl _ _ 35 rfl (w.heap.size + 1) 73 i0 (.agg #[.int .i64 0, .int .i64 0, .string ⟨#[]⟩]) 3 32 Tryd.underlying35 hi0 hz0 hz1 hz2 rfl (by decide) _ _ _ rfl (hown2.alloc _) ⟨wr.heap.size + 1, 0, none⟩ 1 1 [.int .i64 x.frm, .int .i64 x.to, .string x.style] rfl rfl (cellC_new2 _ _ _ _ _ _) (by intro u hu; simp at hu; rcases hu with rfl | rfl | rfl <;> rfl) (by unfold maxLen; omega) (by omega) (by simp; omega) ?_; intro v3 w3 hown3 hgrow3 _; have hb3 := below_append hbel2 (own_mono hown2 (Nat.le_succ _)) hsz2 hgrow3; have hx3 := hide (HBX2.out.block ((hgrow3.block w.heap.size (by simp; omega) (fun c => absurd (HI.out.own.lt _ c.symm).1 (by omega))).trans (Below.heap_alloc _ _ _ (by simp; omega)))); have HO3 := hide hown3; clear hown3 hgrow3 hown2)
          have A := hide (HI.out.after1 hlt HXX.out hx3.out HO3.out hb3)
          exact ⟨⟨k + 1, by omega, by go_num, true, rfl, _, rfl, _, _, A⟩, by simp [intOf]; omega⟩
        · obtain ⟨t0, t1, t2, t3, t4⟩ := eq_styles hc
          clear t0 t3 t4
          go_wp2_with (at_builtin; refine wpList_append_own _ rfl _ _ 35 rfl (w.heap.size + 1) 73 i0 (.agg #[.int .i64 0, .int .i64 0, .string ⟨#[]⟩]) 3 32 Tryd.underlying35 hi0 hz0 hz1 hz2 rfl (by decide) _ _ _ rfl (hown2.alloc _) ⟨wr.heap.size + 1, 0, none⟩ 1 1 [.int .i64 x.frm, .int .i64 x.to, .string x.style] rfl rfl (cellC_new2 _ _ _ _ _ _) (by intro u hu; simp at hu; rcases hu with rfl | rfl | rfl <;> rfl) (by unfold maxLen; omega) (by omega) (by simp; omega) ?_; intro v3 w3 hown3 hgrow3 _; have hb3 := below_append hbel2 (own_mono hown2 (Nat.le_succ _)) hsz2 hgrow3; have hx3 := hide (HBX2.out.block ((hgrow3.block w.heap.size (by simp; omega) (fun c => absurd (HI.out.own.lt _ c.symm).1 (by omega))).trans (Below.heap_alloc _ _ _ (by simp; omega)))); have HO3 := hide hown3; clear hown3 hgrow3 hown2)
          have A := hide (HI.out.after1 hlt HXX.out hx3.out HO3.out hb3)
          exact ⟨⟨k + 1, by omega, by go_num, true, rfl, _, rfl, _, _, A⟩, by simp [intOf]; omega⟩
    · obtain rfl : k = l.length := by omega
      cases put with
      | true =>
        have hE := HI.out.eq
        rw [if_pos rfl, List.drop_length, List.append_nil] at hE
        have HF : Hid (MrOwn wr w.heap.size v (addL l m)) := hide (by rw [hE]; exact own_mono HI.out.own (Nat.le_succ _))
        clear hE
        go_wp2
        go_ret
        exact ⟨_, rfl, HF.out, hbel⟩
      | false =>
        have hE := HI.out.eq
        rw [if_neg (by simp), List.drop_length, addL] at hE
        have HE := hide hE
        obtain ⟨p0, p1, p2⟩ := HI.out.bx.cells
        have hown2 := HI.out.own
        have hsz2 := hbel.size
        clear hE
        go_wp2_with (at_builtin; refine wpList_append_own _ rfl _ _ 35 rfl (w.heap.size + 1) 73 i0 (.agg #[.int .i64 0, .int .i64 0, .string ⟨#[]⟩]) 3 32 Tryd.underlying35 hi0 hz0 hz1 hz2 rfl (by decide) _ _ _ rfl (hown2.alloc _) ⟨wr.heap.size, 0, none⟩ 1 1 [.int .i64 M.frm, .int .i64 M.to, .string M.style] rfl rfl (cellC_new _ _ _ _ _) (by intro u hu; simp at hu; rcases hu with rfl | rfl | rfl <;> rfl) (by unfold maxLen; omega) (by omega) (by simp; omega) ?_; intro v3 w3 hown3 hgrow3 _; have hb3 := below_append hbel (own_mono hown2 (Nat.le_succ _)) hsz2 hgrow3; have HO3 := hide hown3; clear hown3 hgrow3 hown2)
        have HF : Hid (MrOwn w3 w.heap.size v3 (addL l m)) := hide (by rw [HE.out]; unfold MrOwn; rw [encMr_app, List.length_append]; exact own_mono HO3.out (Nat.le_succ _))
        go_ret
        exact ⟨_, rfl, HF.out, hb3⟩
end Go.Proofs.YtknodkdlphngmawDoor
