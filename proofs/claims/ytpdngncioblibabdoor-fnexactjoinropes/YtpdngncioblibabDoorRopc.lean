/- The program's functions over ropes, on: Rebalance, PiecesOf, IsBalanced. -/
import Derived.Test.YtpdngncioblibabDoorRopb
set_option linter.unusedVariables false
namespace Go.Proofs.YtpdngncioblibabDoor
open Go.RowKit
open Doc1

noncomputable def rbL (l : List Bg) : List Bg := if rtB l then okB (evn (pcO (rtO l))) else []

noncomputable def rbB (l : List Bg) : Bool := rtB l && fit (evn (pcO (rtO l)))

set_option maxRecDepth 100000 in
set_option maxHeartbeats 4000000 in
theorem rebalanceI {w : World} {a : Option Addr} {cap : Nat} {l : List Bg} (h : RIn w a cap l) (hT : Tab w) :
    Calls Tryd.prog 29 #[.agg #[.slice a l.length cap]] w (RpPost w (rbL l) (rbB l)) := by
  obtain ⟨w1, hw1⟩ : ∃ w1, w1 = (w.alloc (.cells #[.slice a l.length cap] 30)).alloc (.cells #[.slice none 0 0] 30) := ⟨_, rfl⟩
  obtain ⟨hs1, hb1, -, hc1⟩ := boxes2 w (.slice a l.length cap) (.slice none 0 0)
  rw [← hw1] at hs1 hb1 hc1
  have R1 := hide (root_of (h.later hb1) (hT.below hb1))
  unfold RtPost at R1
  have ok1 := rt_ok l
  have hp := pcO_len (rtO l)
  have ht := pcO_tot (rtO l)
  have A1 := hide (fun w => addPieces_opt (rtO l) w (by omega) (by omega))
  have J := hide (fun (w : World) (B : Nat) (v : Value) (h : PcOwn w B v (pcO (rtO l))) => joinEvenly_own h (by omega) (by omega))
  have RW := hide (fun w => ropeWith_any (evn (pcO (rtO l))) w (by rw [szO_evn]; omega) (by rw [nbO_evn]; omega))
  unfold RpPost at RW ⊢
  obtain ⟨L, hL⟩ : ∃ L, rbL l = L := ⟨_, rfl⟩
  obtain ⟨bb, hbb⟩ : ∃ bb, rbB l = bb := ⟨_, rfl⟩
  have HN : Hid (rtB l = false → L = [] ∧ bb = false) := hide (fun c => by rw [← hL, ← hbb]; unfold rbL rbB; rw [c]; exact ⟨rfl, rfl⟩)
  have HY : Hid (rtB l = true → L = okB (evn (pcO (rtO l))) ∧ bb = fit (evn (pcO (rtO l)))) := hide (fun c => by rw [← hL, ← hbb]; unfold rbL rbB; rw [c]; exact ⟨rfl, rfl⟩)
  rw [hL, hbb]
  obtain ⟨v1, hv1⟩ : ∃ vo, lvO (rtO l) = vo := ⟨_, rfl⟩
  obtain ⟨v3, hv3⟩ : ∃ vo, lvO (evn (pcO (rtO l))) = vo := ⟨_, rfl⟩
  obtain ⟨L3, hL3⟩ : ∃ L3, okB (evn (pcO (rtO l))) = L3 := ⟨_, rfl⟩
  obtain ⟨b3, hb3⟩ : ∃ b3, fit (evn (pcO (rtO l))) = b3 := ⟨_, rfl⟩
  obtain ⟨bl, hbl⟩ : ∃ bl, rtB l = bl := ⟨_, rfl⟩
  simp only [hv1, hv3, hL3, hb3, hbl] at R1 J RW HN HY A1
  have HB1 := hide hb1
  have HC1 := hide hc1
  clear hv1 hv3 hL3 hb3 hL hbb hbl ok1 h hT hb1 hc1 hp ht
  go_enter Tryd.func29, Tryd.ntmps29
  go_wp2_with fail
  rw [← hw1]
  clear hw1
  refine R1.out.mono ?_
  rintro e w2 ⟨rfl, hb2⟩
  have HB2 : Hid (Below w.heap.size w w2) := hide (HB1.out.trans (hb2.mono HB1.out.size))
  have HC2 := hide (HC1.out.later hb2)
  clear hb2 HC1 HB1
  cases bl with
  | false =>
    obtain ⟨rfl, rfl⟩ := HN.out rfl
    have hc := HC2.out.cell
    have hf := HC2.out.fz
    clear HN HY
    go_wp2
    refine bodyPost_ret (results_cell_tmp rfl _ _ (w.heap.size + 1) 30 _ (0, 0) _ (.bool false) rfl rfl (HC2.out.put _) Tryd.underlying30 rfl Tryd.sizeRope) rfl ?_
    exact ⟨_, rfl, World.ownsRow_nil _ _ _ _, HB2.out.setCell (by show w.heap.size ≤ w.heap.size + 1; omega) _⟩
  | true =>
    obtain ⟨rfl, rfl⟩ := HY.out rfl
    clear HN HY
    go_wp2_with fail
    refine (A1.out w2).mono ?_
    rintro e w3 ⟨v4, rfl, own3, hb3⟩
    have HC3 := hide (HC2.out.later hb3)
    have HB3 : Hid (Below w.heap.size w w3) := hide (HB2.out.trans (hb3.mono HB2.out.size))
    have J2 := hide (J.out w3 _ v4 own3)
    clear hb3 own3 HC2 HB2 J
    go_wp2_with fail
    refine J2.out.mono ?_
    rintro e w4 ⟨rfl, hb4⟩
    have HC4 := hide (HC3.out.later hb4)
    have HB4 : Hid (Below w.heap.size w w4) := hide (HB3.out.trans (hb4.mono HB3.out.size))
    clear hb4 HC3 HB3
    go_wp2_with fail
    refine (RW.out w4).mono ?_
    rintro e w5 ⟨v5, rfl, own5, hb5⟩
    obtain ⟨a5, c5, rfl, -⟩ := own_shp own5
    have HC5 := hide (HC4.out.later hb5)
    have hc := HC5.out.cell
    have hf := HC5.out.fz
    have HB5 : Hid (Below w.heap.size w w5) := hide (HB4.out.trans (hb5.mono HB4.out.size))
    have HO5 := hide (own_aside own5 HC4.out.lt 0 (.slice a5 L.length c5))
    have HS4 := hide HB4.out.size
    clear hb5 own5 HC4 HB4
    go_wp2
    refine bodyPost_ret (results_cell_tmp rfl _ _ (w.heap.size + 1) 30 _ (0, 0) _ (.bool bb) rfl rfl (HC5.out.put _) Tryd.underlying30 rfl Tryd.sizeRope) rfl ?_
    exact ⟨_, rfl, own_mono HO5.out HS4.out, HB5.out.setCell (by show w.heap.size ≤ w.heap.size + 1; omega) _⟩

theorem Tryd.infoStr : (Tryd.prog.info? 9).map (fun i => (i.zero, i.size, i.bytes)) = some (some (.string ⟨#[]⟩), 1, 16) := by kernel_rfl

/-- A row of texts of one's own. -/
def TxOwn (w : World) (B : Nat) (v : Value) (l : List ByteArray) : Prop := w.ownsRow B 9 1 v l.length (stC l)

theorem TxOwn.app {w : World} {B : Nat} {v : Value} {l : List ByteArray} {s : ByteArray} (h : w.ownsRow B 9 1 v (l.length + 1) (stC l ++ [.string s])) : TxOwn w B v (l ++ [s]) := by
  unfold TxOwn
  rw [List.length_append]
  unfold stC at h ⊢
  rw [List.map_append]
  exact h

end Go.Proofs.YtpdngncioblibabDoor
