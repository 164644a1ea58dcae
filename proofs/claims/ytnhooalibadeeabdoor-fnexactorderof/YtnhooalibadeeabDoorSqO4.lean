/- The model's OrderOf. -/
import Derived.Test.YtnhooalibadeeabDoorSqO3
set_option linter.unusedVariables false
namespace Go.Proofs.YtnhooalibadeeabDoor
open Go.RowKit
open Doc1

/-- The model's order of a row that lies below. -/
theorem orderS_any {w : World} {a : Option Addr} {cap : Nat} {l : List Am} (h : AmIn w a cap l) (hgd : goodQ l = true) :
    Calls Tryd.prog 37 #[.slice a l.length cap, .int .i64 0, .int .i64 0, .slice none 0 0] w fun e w' => ∃ v', e = .returned v' ∧ IOwn w' w.heap.size v' (oI (ordL l)) ∧ Below w.heap.size w w' := by
  have hp : ∀ i, i < l.length → pr l i ≤ i := fun i hi => pr_le hgd hi
  have hlen : (dfs (pr l) l.length (l.length + 1) 0).length = l.length := ordK_len hp
  have := good_len hgd
  refine (order_any (a := a) (cap := cap) (B := w.heap.size) hgd (l.length + 1) 0 w (.slice none 0 0) [] (by omega) (by omega) (fun w' hb k hk => ?_) (Nat.le_refl _) (World.ownsRow_nil _ _ _ _) (by rw [hlen]; simp; omega)).mono ?_
  · obtain ⟨g, e, hg, hc⟩ := (h.later hb).ad (by intro c; rw [c] at hk; simp at hk)
    obtain ⟨c0, c1, c2, c3, -, -⟩ := hc.amat k hk
    exact ⟨g, e, c0, c1, c2, c3⟩
  · rintro e w' ⟨v', rfl, h1, h2⟩
    exact ⟨v', rfl, h1, h2⟩

set_option maxRecDepth 100000 in
set_option maxHeartbeats 2000000 in
theorem orderOfS {w : World} {a : Option Addr} {cap : Nat} {l : List Am} (h : SIn w a cap l) :
    Calls Tryd.prog 13 #[.agg #[.slice a l.length cap]] w fun e w' => ∃ v, e = .returned (.tuple #[v, .bool (goodQ l)]) ∧ IOwn w' w.heap.size v (ordR l) ∧ Below w.heap.size w w' := by
  have hb1 : Below w.heap.size w (w.alloc (.cells #[.slice a l.length cap] 28)) := (Below.refl _ _).alloc (Nat.le_refl _) _
  have hk1 : CellR (w.alloc (.cells #[.slice a l.length cap] 28)) w.heap.size (.slice a l.length cap) := CellR.new _ _
  obtain ⟨w1, hw1⟩ : ∃ w1, w1 = w.alloc (.cells #[.slice a l.length cap] 28) := ⟨_, rfl⟩
  rw [← hw1] at hb1 hk1
  have HB1 := hide hb1
  have HK1 := hide hk1
  have H1 := hide (h.later hb1)
  have G := hide (goodSeqS (h.later hb1))
  have k1 := hk1.cell
  clear h hb1 hk1
  cases hq : goodQ l with
  | false =>
    have HR : Hid (ordR l = []) := hide (by unfold ordR; rw [if_neg (by rw [hq]; simp)])
    rw [HR.out]
    rw [hq] at G
    clear hq
    go_enter Tryd.func13, Tryd.ntmps13
    rw [hw1] at k1
    go_wp2_with fail
    rw [← hw1] at k1 ⊢
    clear hw1 k1
    refine G.out.mono ?_
    rintro e w2 ⟨rfl, hb2⟩
    go_wp2
    go_ret2
    exact ⟨_, rfl, World.ownsRow_nil _ _ _ _, HB1.out.trans (hb2.mono HB1.out.size)⟩
  | true =>
    have HR : Hid (ordR l = oI (ordL l)) := hide (by unfold ordR; rw [if_pos hq])
    have O := hide (fun (w' : World) (hb : Below w1.heap.size w1 w') => orderS_any (H1.out.later hb).inn hq)
    rw [HR.out]
    rw [hq] at G
    clear hq
    go_enter Tryd.func13, Tryd.ntmps13
    rw [hw1] at k1
    go_wp2_with fail
    rw [← hw1] at k1 ⊢
    clear hw1 k1
    refine G.out.mono ?_
    rintro e w2 ⟨rfl, hb2⟩
    have k2 := (HK1.out.later hb2).cell
    have HB2 := hide hb2
    clear hb2
    go_wp2_with fail
    refine (O.out _ HB2.out).mono ?_
    rintro e w3 ⟨v, rfl, hv, hb3⟩
    have HV := hide hv
    have HB3 := hide (HB2.out.trans (hb3.mono HB2.out.size))
    have HS := hide HB2.out.size
    have HS1 := hide HB1.out.size
    clear hv hb3 k2
    go_wp2
    go_ret2
    exact ⟨v, rfl, own_mono HV.out (Nat.le_trans HS1.out HS.out), HB1.out.trans (HB3.out.mono HB1.out.size)⟩
end Go.Proofs.YtnhooalibadeeabDoor
