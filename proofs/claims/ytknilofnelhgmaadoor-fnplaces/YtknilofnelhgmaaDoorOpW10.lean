/- The contract of impl.ApplyOp, whatever the arguments. -/
import Derived.Test.YtknilofnelhgmaaDoorOpW9
namespace Go.Proofs.YtknilofnelhgmaaDoor
open Go.RowKit
open Doc1

set_option maxRecDepth 100000 in
set_option maxHeartbeats 4000000 in
theorem applyI {w : World} {aw : Option Addr} {g cap : Nat} {l : List Pt} (s : ByteArray) (h : Pin w aw g cap l) (hT : Tab w) (hs : s.size ≤ 1048576) :
    Calls Tryd.prog 10 #[.slice aw l.length cap, .string s] w fun e w' => e = .returned (.tuple #[.string (aplO l s).1, .bool (aplO l s).2]) ∧ Below w.heap.size w w' := by
  by_cases hall : goodO l = true ∧ good s.data.toList = true ∧ (s.size : Int) = tkL l
  · exact applyI_good s h hT hs hall.1 hall.2.1 hall.2.2
  · have S := hide (fun w' (hb : Below w.heap.size w w') => sizesI_any (h.later hb) (hT.below hb))
    have T := hide (fun w' (hb : Below w.heap.size w w') => goodTextI_any s w' hs (hT.below hb))
    have hno : aplO l s = (⟨#[]⟩, false) := by
      by_cases h1 : goodO l = true
      · by_cases h2 : good s.data.toList = true
        · exact (aplO_steps h1 h2).2.2 (fun c => hall ⟨h1, h2, c⟩)
        · unfold aplO; rw [if_neg (fun c => h2 c.2.1)]
      · unfold aplO; rw [if_neg (fun c => h1 c.1)]
    rw [hno]
    clear hno h hT
    have hb0 : Hid (∀ a b c : Obj, Below w.heap.size w (((w.alloc a).alloc b).alloc c)) := hide (fun a b c => (((Below.refl _ _).alloc (Nat.le_refl _) _).alloc (by simp) _).alloc (by simp; omega) _)
    cases h1 : goodO l with
    | false =>
      rw [h1] at S
      clear hall T
      go_enter Tryd.func10, Tryd.ntmps10
      go_wp2_with (go_at_call 16; refine (S.out _ (hb0.out _ _ _)).mono ?_; rintro e w1 ⟨rfl, hb1⟩; obtain ⟨⟨q1, q2, q3⟩, hsw, hbw⟩ := boxes3_up hb1; have e1 := q1.cell; have e2 := q2.cell; have f2 := q2.fz; have e3 := (q3.other (B' := w.heap.size + 1) (by omega) (.string ⟨#[]⟩)).cell; have f3 := (q3.other (B' := w.heap.size + 1) (by omega) (.string ⟨#[]⟩)).fz; have k1 := ((q2.set (.string ⟨#[]⟩)).other (B' := w.heap.size + 1 + 1) (by omega) (.bool false)).cell; have k2 := ((q3.other (B' := w.heap.size + 1) (by omega) (.string ⟨#[]⟩)).set (.bool false)).cell)
      refine bodyPost_ret (v := .tuple #[.string ⟨#[]⟩, .bool false]) (by simp [results, Tryd.results10, go_sem, k1, k2]) rfl ⟨rfl, ?_⟩
      exact (hbw.setCell (p := ⟨w.heap.size + 1, 0, none⟩) (by show _ ≤ _ + 1; omega) _).setCell (p := ⟨w.heap.size + 1 + 1, 0, none⟩) (by show _ ≤ _ + 1 + 1; omega) _
    | true =>
      have hsT : szT l = tkL l := by unfold szT; rw [h1]; rfl
      rw [h1, hsT] at S
      by_cases h2 : (s.size : Int) = tkL l
      · have h3 : good s.data.toList = false := by
          cases h4 : good s.data.toList with
          | false => rfl
          | true => exact absurd ⟨h1, h4, h2⟩ hall
        rw [h3] at T
        rw [← h2] at S
        clear hall h3 h2 hsT h1
        go_enter Tryd.func10, Tryd.ntmps10
        go_wp2_with (first
          | (go_at_call 16; refine (S.out _ (hb0.out _ _ _)).mono ?_; rintro e w1 ⟨rfl, hb1⟩; obtain ⟨⟨q1, q2, q3⟩, hsw, hbw⟩ := boxes3_up hb1; have e1 := q1.cell; have e2 := q2.cell; have f2 := q2.fz; have e3 := (q3.other (B' := w.heap.size + 1) (by omega) (.string ⟨#[]⟩)).cell; have f3 := (q3.other (B' := w.heap.size + 1) (by omega) (.string ⟨#[]⟩)).fz; have k1 := ((q2.set (.string ⟨#[]⟩)).other (B' := w.heap.size + 1 + 1) (by omega) (.bool false)).cell; have k2 := ((q3.other (B' := w.heap.size + 1) (by omega) (.string ⟨#[]⟩)).set (.bool false)).cell)
          | (go_at_call 50; refine (T.out _ hbw).mono ?_; rintro e w' ⟨rfl, hw⟩; replace hw := hw.symm; subst hw))
        refine bodyPost_ret (v := .tuple #[.string ⟨#[]⟩, .bool false]) (by simp [results, Tryd.results10, go_sem, k1, k2]) rfl ⟨rfl, ?_⟩
        exact (hbw.setCell (p := ⟨w.heap.size + 1, 0, none⟩) (by show _ ≤ _ + 1; omega) _).setCell (p := ⟨w.heap.size + 1 + 1, 0, none⟩) (by show _ ≤ _ + 1 + 1; omega) _
      · have hne : ((s.size : Int) != tkL l) = true := by simpa using h2
        clear hall T hsT h1 h2
        go_enter Tryd.func10, Tryd.ntmps10
        go_wp2_with (go_at_call 16; refine (S.out _ (hb0.out _ _ _)).mono ?_; rintro e w1 ⟨rfl, hb1⟩; obtain ⟨⟨q1, q2, q3⟩, hsw, hbw⟩ := boxes3_up hb1; have e1 := q1.cell; have e2 := q2.cell; have f2 := q2.fz; have e3 := (q3.other (B' := w.heap.size + 1) (by omega) (.string ⟨#[]⟩)).cell; have f3 := (q3.other (B' := w.heap.size + 1) (by omega) (.string ⟨#[]⟩)).fz; have k1 := ((q2.set (.string ⟨#[]⟩)).other (B' := w.heap.size + 1 + 1) (by omega) (.bool false)).cell; have k2 := ((q3.other (B' := w.heap.size + 1) (by omega) (.string ⟨#[]⟩)).set (.bool false)).cell)
        refine bodyPost_ret (v := .tuple #[.string ⟨#[]⟩, .bool false]) (by simp [results, Tryd.results10, go_sem, k1, k2]) rfl ⟨rfl, ?_⟩
        exact (hbw.setCell (p := ⟨w.heap.size + 1, 0, none⟩) (by show _ ≤ _ + 1; omega) _).setCell (p := ⟨w.heap.size + 1 + 1, 0, none⟩) (by show _ ≤ _ + 1 + 1; omega) _
end Go.Proofs.YtknilofnelhgmaaDoor
