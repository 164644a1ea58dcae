/- The contract of impl.ComposeOps, whatever the arguments. -/
import Derived.Test.YtknilofnelhgmaaDoorCmpW2
namespace Go.Proofs.YtknilofnelhgmaaDoor
open Go.RowKit
open Doc1

set_option maxRecDepth 100000 in
set_option maxHeartbeats 4000000 in
theorem compI {w : World} {aa ab : Option Addr} {ga ca gb cb : Nat} {la lb : List Pt} (ha : Pin w aa ga ca la) (hb : Pin w ab gb cb lb) (hT : Tab w) :
    Calls Tryd.prog 18 #[.slice aa la.length ca, .slice ab lb.length cb] w fun e w' => ∃ v, e = .returned (.tuple #[v, .bool (cmpO la lb).2]) ∧ POwn w' w.heap.size v (cmpO la lb).1 ∧ Below w.heap.size w w' := by
  by_cases hall : goodO la = true ∧ goodO lb = true ∧ mkL la = tkL lb
  · exact cmpI_good ha hb hT hall.1 hall.2.1 hall.2.2
  · rw [cmpO_no hall]
    have SA := hide (fun w' (h : Below w.heap.size w w') => sizesI_any (ha.later h) (hT.below h))
    have SB := hide (fun w' (h : Below w.heap.size w w') => sizesI_any (hb.later h) (hT.below h))
    have hb0 : Hid (∀ a b : Obj, Below w.heap.size w ((w.alloc a).alloc b)) := hide (fun a b => ((Below.refl _ _).alloc (Nat.le_refl _) _).alloc (by simp) _)
    clear ha hb hT
    have fin : ∀ w2, Below w.heap.size w w2 → POwn ((w2.setCell ⟨w.heap.size, 0, none⟩ (.slice none 0 0)).setCell ⟨w.heap.size + 1, 0, none⟩ (.bool false)) w.heap.size (.slice none 0 0) [] ∧ Below w.heap.size w ((w2.setCell ⟨w.heap.size, 0, none⟩ (.slice none 0 0)).setCell ⟨w.heap.size + 1, 0, none⟩ (.bool false)) := fun w2 h2 =>
      ⟨World.ownsRow_nil _ _ _ _, (h2.setCell (p := ⟨w.heap.size, 0, none⟩) (Nat.le_refl _) _).setCell (p := ⟨w.heap.size + 1, 0, none⟩) (by show _ ≤ _ + 1; omega) _⟩
    have HF := hide fin
    clear fin
    cases h1 : goodO la with
    | false =>
      rw [h1] at SA
      clear hall
      generalize goodO lb = y at SB
      go_enter Tryd.func18, Tryd.ntmps18
      go_wp2_with fail
      refine (SA.out _ (hb0.out _ _)).mono ?_
      rintro e w1 ⟨rfl, hb'⟩
      obtain ⟨⟨q0, q1⟩, hsw1, hb1⟩ := boxes2_up hb'
      clear hb' hb0
      go_wp2_with fail
      refine (SB.out _ hb1).mono ?_
      rintro e w2 ⟨rfl, hb'⟩
      have hb2 := hide (hb1.trans (hb'.mono hb1.size))
      replace q0 := q0.up hb'
      replace q1 := q1.up hb'
      clear hb' hb1 SA SB hsw1
      have e0 := q0.cell
      have f0 := q0.fz
      have e1 := (q1.other (B' := w.heap.size) (by omega) (.slice none 0 0)).cell
      have f1 := (q1.other (B' := w.heap.size) (by omega) (.slice none 0 0)).fz
      have k1 := ((q0.set (.slice none 0 0)).other (B' := w.heap.size + 1) (by omega) (.bool false)).cell
      have k2 := ((q1.other (B' := w.heap.size) (by omega) (.slice none 0 0)).set (.bool false)).cell
      clear q0 q1
      go_wp2
      refine bodyPost_ret (v := .tuple #[.slice none 0 0, .bool false]) (by simp [results, Tryd.results18, go_sem, k1, k2]) rfl ⟨_, rfl, HF.out _ hb2.out⟩
    | true =>
      rw [h1] at SA
      cases h2 : goodO lb with
      | false =>
        rw [h2] at SB
        clear hall
        go_enter Tryd.func18, Tryd.ntmps18
        go_wp2_with fail
        refine (SA.out _ (hb0.out _ _)).mono ?_
        rintro e w1 ⟨rfl, hb'⟩
        obtain ⟨⟨q0, q1⟩, hsw1, hb1⟩ := boxes2_up hb'
        clear hb' hb0
        go_wp2_with fail
        refine (SB.out _ hb1).mono ?_
        rintro e w2 ⟨rfl, hb'⟩
        have hb2 := hide (hb1.trans (hb'.mono hb1.size))
        replace q0 := q0.up hb'
        replace q1 := q1.up hb'
        clear hb' hb1 SA SB hsw1
        have e0 := q0.cell
        have f0 := q0.fz
        have e1 := (q1.other (B' := w.heap.size) (by omega) (.slice none 0 0)).cell
        have f1 := (q1.other (B' := w.heap.size) (by omega) (.slice none 0 0)).fz
        have k1 := ((q0.set (.slice none 0 0)).other (B' := w.heap.size + 1) (by omega) (.bool false)).cell
        have k2 := ((q1.other (B' := w.heap.size) (by omega) (.slice none 0 0)).set (.bool false)).cell
        clear q0 q1
        go_wp2
        refine bodyPost_ret (v := .tuple #[.slice none 0 0, .bool false]) (by simp [results, Tryd.results18, go_sem, k1, k2]) rfl ⟨_, rfl, HF.out _ hb2.out⟩
      | true =>
        rw [h2] at SB
        have hne : ¬ szM la = szT lb := by
          unfold szM szT
          rw [h1, h2]
          exact fun c => hall ⟨h1, h2, c⟩
        have hbn : (szM la != szT lb) = true := by simpa using hne
        have hbe : (szM la == szT lb) = false := by simpa using hne
        generalize szM la = m at *
        generalize szT lb = t at *
        clear hall h1 h2
        go_enter Tryd.func18, Tryd.ntmps18
        go_wp2_with fail
        refine (SA.out _ (hb0.out _ _)).mono ?_
        rintro e w1 ⟨rfl, hb'⟩
        obtain ⟨⟨q0, q1⟩, hsw1, hb1⟩ := boxes2_up hb'
        clear hb' hb0
        go_wp2_with fail
        refine (SB.out _ hb1).mono ?_
        rintro e w2 ⟨rfl, hb'⟩
        have hb2 := hide (hb1.trans (hb'.mono hb1.size))
        replace q0 := q0.up hb'
        replace q1 := q1.up hb'
        clear hb' hb1 SA SB hsw1
        have e0 := q0.cell
        have f0 := q0.fz
        have e1 := (q1.other (B' := w.heap.size) (by omega) (.slice none 0 0)).cell
        have f1 := (q1.other (B' := w.heap.size) (by omega) (.slice none 0 0)).fz
        have k1 := ((q0.set (.slice none 0 0)).other (B' := w.heap.size + 1) (by omega) (.bool false)).cell
        have k2 := ((q1.other (B' := w.heap.size) (by omega) (.slice none 0 0)).set (.bool false)).cell
        clear q0 q1
        go_wp2
        refine bodyPost_ret (v := .tuple #[.slice none 0 0, .bool false]) (by simp [results, Tryd.results18, go_sem, k1, k2]) rfl ⟨_, rfl, HF.out _ hb2.out⟩
end Go.Proofs.YtknilofnelhgmaaDoor
