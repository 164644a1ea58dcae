/- The program's functions over ropes, on: Rebalance, PiecesOf, IsBalanced. -/
import Derived.Test.YtgacajnljplmiabDoorRopb
set_option linter.unusedVariables false
namespace Go.Proofs.YtgacajnljplmiabDoor
open Go.RowKit
open Doc1

noncomputable def rbL (l : List Bg) : List Bg := if rtB l then okB (evn (pcO (rtO l))) else []

noncomputable def rbB (l : List Bg) : Bool := rtB l && fit (evn (pcO (rtO l)))

set_option maxRecDepth 100000 in
set_option maxHeartbeats 4000000 in
theorem rebalanceI {w : World} {a : Option Addr} {cap : Nat} {l : List Bg} (h : RIn w a cap l) (hT : Tab w) :
    Calls Tryd.prog 46 #[.agg #[.slice a l.length cap]] w (RpPost w (rbL l) (rbB l)) := by
  obtain ⟨w1, hw1⟩ : ∃ w1, w1 = (w.alloc (.cells #[.slice a l.length cap] 41)).alloc (.cells #[.slice none 0 0] 41) := ⟨_, rfl⟩
  obtain ⟨hs1, hb1, -, hc1⟩ := boxes2 w (.slice a l.length cap) (.slice none 0 0)
  rw [← hw1] at hs1 hb1 hc1
  have R1 := hide (root_of (h.later hb1) (hT.below hb1))
  unfold RtPost at R1
  have ok1 := rt_ok l
  have hp := pcO_len (rtO l)
  have ht := pcO_tot (rtO l)
  have A1 := hide (fun w => addPieces_opt (rtO l) w (by omega) (by omega))
  have J := hide (fun (w : World) (B : Nat) (v : Value) (h : PcOwn w B v (pcO (rtO l))) => joinEvenly_own h (by omega) (by omega))
  have RW := hide (fun w => ropeWith_any (evn (pcO (rtO l))) w (by rw [szO_evn]; omega) (by rw [nbO_evn]; omega))
  unfold RpPost at RW ⊢
  obtain ⟨L, hL⟩ : ∃ L, rbL l = L := ⟨_, rfl⟩
  obtain ⟨bb, hbb⟩ : ∃ bb, rbB l = bb := ⟨_, rfl⟩
  have HN : Hid (rtB l = false → L = [] ∧ bb = false) := hide (fun c => by rw [← hL, ← hbb]; unfold rbL rbB; rw [c]; exact ⟨rfl, rfl⟩)
  have HY : Hid (rtB l = true → L = okB (evn (pcO (rtO l))) ∧ bb = fit (evn (pcO (rtO l)))) := hide (fun c => by rw [← hL, ← hbb]; unfold rbL rbB; rw [c]; exact ⟨rfl, rfl⟩)
  rw [hL, hbb]
  obtain ⟨v1, hv1⟩ : ∃ vo, lvO (rtO l) = vo := ⟨_, rfl⟩
  obtain ⟨v3, hv3⟩ : ∃ vo, lvO (evn (pcO (rtO l))) = vo := ⟨_, rfl⟩
  obtain ⟨L3, hL3⟩ : ∃ L3, okB (evn (pcO (rtO l))) = L3 := ⟨_, rfl⟩
  obtain ⟨b3, hb3⟩ : ∃ b3, fit (evn (pcO (rtO l))) = b3 := ⟨_, rfl⟩
  obtain ⟨bl, hbl⟩ : ∃ bl, rtB l = bl := ⟨_, rfl⟩
  simp only [hv1, hv3, hL3, hb3, hbl] at R1 J RW HN HY A1
  have HB1 := hide hb1
  have HC1 := hide hc1
  clear hv1 hv3 hL3 hb3 hL hbb hbl ok1 h hT hb1 hc1 hp ht
  go_enter Tryd.func46, Tryd.ntmps46
  go_wp2_with fail
  rw [← hw1]
  clear hw1
  refine R1.out.mono ?_
  rintro e w2 ⟨rfl, hb2⟩
  have HB2 : Hid (Below w.heap.size w w2) := hide (HB1.out.trans (hb2.mono HB1.out.size))
  have HC2 := hide (HC1.out.later hb2)
  clear hb2 HC1 HB1
  cases bl with
  | false =>
    obtain ⟨rfl, rfl⟩ := HN.out rfl
    have hc := HC2.out.cell
    have hf := HC2.out.fz
    clear HN HY
    go_wp2
    refine bodyPost_ret (results_cell_tmp rfl _ _ (w.heap.size + 1) 41 _ (0, 0) _ (.bool false) rfl rfl (HC2.out.put _) Tryd.underlying41 rfl Tryd.sizeRope) rfl ?_
    exact ⟨_, rfl, World.ownsRow_nil _ _ _ _, HB2.out.setCell (by show w.heap.size ≤ w.heap.size + 1; omega) _⟩
  | true =>
    obtain ⟨rfl, rfl⟩ := HY.out rfl
    clear HN HY
    go_wp2_with fail
    refine (A1.out w2).mono ?_
    rintro e w3 ⟨v4, rfl, own3, hb3⟩
    have HC3 := hide (HC2.out.later hb3)
    have HB3 : Hid (Below w.heap.size w w3) := hide (HB2.out.trans (hb3.mono HB2.out.size))
    have J2 := hide (J.out w3 _ v4 own3)
    clear hb3 own3 HC2 HB2 J
    go_wp2_with fail
    refine J2.out.mono ?_
    rintro e w4 ⟨rfl, hb4⟩
    have HC4 := hide (HC3.out.later hb4)
    have HB4 : Hid (Below w.heap.size w w4) := hide (HB3.out.trans (hb4.mono HB3.out.size))
    clear hb4 HC3 HB3
    go_wp2_with fail
    refine (RW.out w4).mono ?_
    rintro e w5 ⟨v5, rfl, own5, hb5⟩
    obtain ⟨a5, c5, rfl, -⟩ := own_shp own5
    have HC5 := hide (HC4.out.later hb5)
    have hc := HC5.out.cell
    have hf := HC5.out.fz
    have HB5 : Hid (Below w.heap.size w w5) := hide (HB4.out.trans (hb5.mono HB4.out.size))
    have HO5 := hide (own_aside own5 HC4.out.lt 0 (.slice a5 L.length c5))
    have HS4 := hide HB4.out.size
    clear hb5 own5 HC4 HB4
    go_wp2
    refine bodyPost_ret (results_cell_tmp rfl _ _ (w.heap.size + 1) 41 _ (0, 0) _ (.bool bb) rfl rfl (HC5.out.put _) Tryd.underlying41 rfl Tryd.sizeRope) rfl ?_
    exact ⟨_, rfl, own_mono HO5.out HS4.out, HB5.out.setCell (by show w.heap.size ≤ w.heap.size + 1; omega) _⟩

theorem Tryd.infoStr : (Tryd.prog.info? 9).map (fun i => (i.zero, i.size, i.bytes)) = some (some (.string ⟨#[]⟩), 1, 16) := by kernel_rfl

/-- A row of texts of one's own. -/
def TxOwn (w : World) (B : Nat) (v : Value) (l : List ByteArray) : Prop := w.ownsRow B 9 1 v l.length (stC l)

theorem TxOwn.app {w : World} {B : Nat} {v : Value} {l : List ByteArray} {s : ByteArray} (h : w.ownsRow B 9 1 v (l.length + 1) (stC l ++ [.string s])) : TxOwn w B v (l ++ [s]) := by
  unfold TxOwn
  rw [List.length_append]
  unfold stC at h ⊢
  rw [List.map_append]
  exact h

set_option maxRecDepth 100000 in
set_option maxHeartbeats 4000000 in
theorem piecesOfI {w : World} {a : Option Addr} {cap : Nat} {l : List Bg} (h : RIn w a cap l) (hT : Tab w) :
    Calls Tryd.prog 50 #[.agg #[.slice a l.length cap]] w fun e w' => ∃ v, e = .returned (.tuple #[v, .bool (rtB l)]) ∧ TxOwn w' w.heap.size v (pcO (rtO l)) ∧ Below w.heap.size w w' := by
  obtain ⟨i0, hi0, hz0, hz1, hz2⟩ := info_parts Tryd.infoStr
  have hb1 : Below w.heap.size w (w.alloc (.cells #[.slice a l.length cap] 41)) := (Below.refl _ _).alloc (Nat.le_refl _) _
  have R1 := hide (root_of (h.later hb1) (hT.below hb1))
  have HB1 := hide hb1
  unfold RtPost at R1
  have ok1 := rt_ok l
  have hp := pcO_len (rtO l)
  have ht := pcO_tot (rtO l)
  have A1 := hide (fun w => addPieces_opt (rtO l) w (by omega) (by omega))
  obtain ⟨v1, hv1⟩ : ∃ vo, lvO (rtO l) = vo := ⟨_, rfl⟩
  obtain ⟨P, hP⟩ : ∃ P, pcO (rtO l) = P := ⟨_, rfl⟩
  rw [hP] at hp ht ⊢
  simp only [hv1, hP] at R1 A1
  have hPl : P.length ≤ 200 := by omega
  have hPt : tot P ≤ 300 := by omega
  clear hv1 hP ok1 hp ht h hT hb1
  go_enter Tryd.func50, Tryd.ntmps50
  go_wp2_with fail
  refine R1.out.mono ?_
  rintro e w2 ⟨rfl, hb2⟩
  have HB2 : Hid (Below w.heap.size w w2) := hide (HB1.out.trans (hb2.mono (by simp)))
  clear hb2
  go_wp2_with fail
  refine (A1.out w2).mono ?_
  rintro e w3 ⟨v3, rfl, own3, hb3⟩
  obtain ⟨a3, c3, rfl, k1, k2, hc⟩ := own3.at'
  have HC := hide hc
  have HB3 : Hid (Below w.heap.size w w3) := hide (HB2.out.trans (hb3.mono HB2.out.size))
  have hs3 := HB3.out.size
  clear hb3 own3 hc HB2
  go_wp2
  go_loopw [6, 17] (fun v vi wr => ∃ (k : Nat), k ≤ P.length ∧ vi = .int .i64 (k : Int) ∧ ∃ v0, v0 = v ∧ Hid (TxOwn wr w3.heap.size v0 (P.take k) ∧ Below w3.heap.size w3 wr)) (fun _ vi _ => P.length - (intOf vi).toNat)
  case atStart => exact ⟨0, by omega, rfl, _, rfl, hide ⟨World.ownsRow_nil _ _ _ _, Below.refl _ _⟩⟩
  case round =>
    obtain ⟨k, hk, rfl, v, hv0, HR⟩ := hrel
    subst hv0
    by_cases hlt : k < P.length
    · obtain ⟨g, rfl, hg, c⟩ := HC.out k hlt
      have c1 : wr.cell? ⟨g, k, none⟩ = some (.string P[k]) := (World.cell?_of_block (HR.out.2.block g hg)).trans c
      have hz : P[k].size ≤ 300 := by have := tot_at hlt; omega
      have CL := hide (clone_any P[k] wr (by omega))
      have HN : Hid (P.take (k + 1) = P.take k ++ [P[k]]) := hide (List.take_succ_eq_append_getElem hlt)
      have hB := HR.out.2.size
      clear c hz
      go_wp2_with fail
      refine CL.out.mono ?_
      rintro e w4 ⟨rfl, hb4⟩
      have HO4 := hide (own_below HR.out.1 hb4)
      have HB4 := hide (HR.out.2.trans (hb4.mono hB))
      have hs4 := hb4.size
      clear hb4 HR
      have hkl : (P.take k).length ≤ 200 := by rw [List.length_take]; omega
      go_wp2_with (at_builtin; go_loud (refine wpList_append_loc _ rfl _ _ 23 rfl w3.heap.size 9 i0 (.string ⟨#[]⟩) 1 16 Tryd.underlying23 hi0 hz0 hz1 hz2 rfl (by decide) _ _ _ rfl (World.ownsRow.alloc HO4.out _) ⟨w4.heap.size, 0, none⟩ 1 1 [.string P[k]] rfl rfl (World.news_of_block (cs := #[.string P[k]]) (t := 9) (fr := (0, 0)) (heap_alloc_new w4 _)) (by simp [Value.oneCell']) (by unfold maxLen; omega) (by omega) (by simp; omega) ?_); intro v5 w5 own5 grow5 loc5; have HR5 : Hid (TxOwn w5 w3.heap.size v5 (P.take (k + 1)) ∧ Below w3.heap.size w3 w5) := hide ⟨(by rw [HN.out]; exact TxOwn.app own5), below_append HB4.out HO4.out (by omega) grow5⟩; clear own5 grow5 loc5 HO4 HB4)
      exact ⟨⟨k + 1, by omega, by go_num, v5, rfl, HR5⟩, by simp [intOf]; omega⟩
    · have HE : Hid (TxOwn wr w.heap.size v P ∧ Below w.heap.size w wr) := hide (by
        have := HR.out
        rw [List.take_of_length_le (by omega)] at this
        exact ⟨own_mono this.1 hs3, HB3.out.trans (this.2.mono hs3)⟩)
      clear HR
      go_wp2
      go_ret2
      exact ⟨v, rfl, HE.out.1, HE.out.2⟩
end Go.Proofs.YtgacajnljplmiabDoor
