/- NewHistory, of both. -/
import Derived.Test.YtpeconmdmddkfaaDoorHistM
import Derived.Test.YtpeconmdmddkfaaDoorWalks1
import Derived.Test.YtpeconmdmddkfaaDoorShelf
import Derived.Test.YtpeconmdmddkfaaDoorRow1c
set_option linter.unusedVariables false
namespace Go.Proofs.YtpeconmdmddkfaaDoor
open Go.RowKit
open Doc1

/-- The text of a new history. -/
def nhT (s : ByteArray) : ByteArray := if good s.data.toList = true then s else ⟨#[]⟩
def nhU (_ : ByteArray) : List (List Pt) := []
def nhV (_ : ByteArray) : List (List Pt) := []

set_option maxHeartbeats 2000000 in
theorem strClone_any (s : ByteArray) (w : World) (hs : s.size ≤ 1048576) :
    Calls Tryd.prog 50 #[.string s] w fun e w' => e = .returned (.string s) ∧ Below w.heap.size w w' := by
  have H := hide (Tryd.stringslite_Clone s w (by omega))
  go_enter Tryd.func50, Tryd.ntmps50
  go_wp2_with (go_at_call 117; refine H.out.mono ?_; rintro e w' ⟨rfl, hb⟩)
  go_ret
  exact ⟨rfl, hb⟩

set_option maxRecDepth 100000 in
set_option maxHeartbeats 2000000 in
theorem newS (s : ByteArray) (w : World) (hs : s.size ≤ 1048576) :
    Calls Tryd.prog 9 #[.string s] w fun e w' => HPost w (nhT s) (nhU s) (nhV s) (good s.data.toList) e w' := by
  have G := hide (fun w' => goodTextS_any s w' hs)
  have HC : Hid (CB (w.alloc (.cells #[.string ⟨#[]⟩, .slice none 0 0, .slice none 0 0] 24)) w.heap.size #[.string ⟨#[]⟩, .slice none 0 0, .slice none 0 0]) := hide (CB.new _ _ _)
  have HB : Hid (Below w.heap.size w (w.alloc (.cells #[.string ⟨#[]⟩, .slice none 0 0, .slice none 0 0] 24))) := hide ((Below.refl _ _).alloc (Nat.le_refl _) _)
  unfold nhT
  cases hg : good s.data.toList with
  | true =>
    rw [hg] at G
    obtain ⟨w1, hw1⟩ : ∃ w1, w1 = w.alloc (.cells #[.string ⟨#[]⟩, .slice none 0 0, .slice none 0 0] 24) := ⟨_, rfl⟩
    rw [← hw1] at HC HB
    have c0 := HC.out.cell 0 rfl
    have f0 := HC.out.fz 0
    have d1 := HC.out.set 0 (.string s) rfl
    have c1 := d1.cell 1 rfl
    have f1 := d1.fz 1
    have d2 := d1.set 1 (.slice none 0 0) rfl
    have c2 := d2.cell 2 rfl
    have f2 := d2.fz 2
    have d3 := hide (d2.set 2 (.slice none 0 0) rfl)
    have HB3 := hide (((HB.out.setCell (p := ⟨w.heap.size, 0, none⟩) (Nat.le_refl _) (.string s)).setCell (p := ⟨w.heap.size, 1, none⟩) (Nat.le_refl _) (.slice none 0 0)).setCell (p := ⟨w.heap.size, 2, none⟩) (Nat.le_refl _) (.slice none 0 0))
    simp only [List.getElem_toArray, List.getElem_cons_zero] at c0 c1 c2
    clear d1 d2
    go_enter Tryd.func9, Tryd.ntmps9
    go_wp2_with fail
    rw [← hw1]
    refine (G.out _).mono ?_
    rintro e w2 ⟨rfl, hw2⟩
    subst hw2
    clear G hw1
    go_wp2
    obtain ⟨tt, htt⟩ := d3.out
    refine bodyPost_ret (results_cell_tmp rfl _ _ w.heap.size _ _ (0, 0) _ (.bool true) rfl rfl htt Tryd.underlying24 rfl Tryd.sizeHistory) rfl ?_
    exact ⟨_, _, rfl, hx_nil _ _ _ _ _ _ _, HB3.out⟩
  | false =>
    rw [hg] at G
    obtain ⟨w1, hw1⟩ : ∃ w1, w1 = w.alloc (.cells #[.string ⟨#[]⟩, .slice none 0 0, .slice none 0 0] 24) := ⟨_, rfl⟩
    rw [← hw1] at HC HB
    have c0 := HC.out.cell 0 rfl
    have f0 := HC.out.fz 0
    have d1 := HC.out.set 0 (.string ⟨#[]⟩) rfl
    have c1 := d1.cell 1 rfl
    have f1 := d1.fz 1
    have d2 := d1.set 1 (.slice none 0 0) rfl
    have c2 := d2.cell 2 rfl
    have f2 := d2.fz 2
    have d3 := hide (d2.set 2 (.slice none 0 0) rfl)
    have HB3 := hide (((HB.out.setCell (p := ⟨w.heap.size, 0, none⟩) (Nat.le_refl _) (.string ⟨#[]⟩)).setCell (p := ⟨w.heap.size, 1, none⟩) (Nat.le_refl _) (.slice none 0 0)).setCell (p := ⟨w.heap.size, 2, none⟩) (Nat.le_refl _) (.slice none 0 0))
    simp only [List.getElem_toArray, List.getElem_cons_zero] at c0 c1 c2
    clear d1 d2
    go_enter Tryd.func9, Tryd.ntmps9
    go_wp2_with fail
    rw [← hw1]
    refine (G.out _).mono ?_
    rintro e w2 ⟨rfl, hw2⟩
    subst hw2
    clear G hw1
    go_wp2
    obtain ⟨tt, htt⟩ := d3.out
    refine bodyPost_ret (results_cell_tmp rfl _ _ w.heap.size _ _ (0, 0) _ (.bool false) rfl rfl htt Tryd.underlying24 rfl Tryd.sizeHistory) rfl ?_
    exact ⟨_, _, rfl, hx_nil _ _ _ _ _ _ _, HB3.out⟩

set_option maxRecDepth 100000 in
set_option maxHeartbeats 2000000 in
theorem newI (s : ByteArray) (w : World) (hs : s.size ≤ 1048576) (hT : Tab w) :
    Calls Tryd.prog 10 #[.string s] w fun e w' => HPost w (nhT s) (nhU s) (nhV s) (good s.data.toList) e w' := by
  have G : Hid (∀ w', Below w.heap.size w w' → _) := hide (fun w' hb => goodTextI_any s w' hs (hT.below hb))
  have HCl := hide (fun w' => strClone_any s w' hs)
  have HC : Hid (CB (w.alloc (.cells #[.string ⟨#[]⟩, .slice none 0 0, .slice none 0 0] 24)) w.heap.size #[.string ⟨#[]⟩, .slice none 0 0, .slice none 0 0]) := hide (CB.new _ _ _)
  have HB : Hid (Below w.heap.size w (w.alloc (.cells #[.string ⟨#[]⟩, .slice none 0 0, .slice none 0 0] 24))) := hide ((Below.refl _ _).alloc (Nat.le_refl _) _)
  unfold nhT
  cases hg : good s.data.toList with
  | true =>
    rw [hg] at G
    obtain ⟨w1, hw1⟩ : ∃ w1, w1 = w.alloc (.cells #[.string ⟨#[]⟩, .slice none 0 0, .slice none 0 0] 24) := ⟨_, rfl⟩
    rw [← hw1] at HC HB
    go_enter Tryd.func10, Tryd.ntmps10
    go_wp2_with fail
    rw [← hw1]
    refine (G.out _ HB.out).mono ?_
    rintro e w2 ⟨rfl, hw2⟩
    subst hw2
    clear G hw1
    go_wp2_with fail
    refine (HCl.out _).mono ?_
    rintro e w3 ⟨rfl, hb3⟩
    have HC3 := hide (HC.out.later hb3)
    have HBx := hide (HB.out.trans (hb3.mono HB.out.size))
    clear hb3 HCl
    have c0 := HC3.out.cell 0 rfl
    have f0 := HC3.out.fz 0
    have d1 := HC3.out.set 0 (.string s) rfl
    have c1 := d1.cell 1 rfl
    have f1 := d1.fz 1
    have d2 := d1.set 1 (.slice none 0 0) rfl
    have c2 := d2.cell 2 rfl
    have f2 := d2.fz 2
    have d3 := hide (d2.set 2 (.slice none 0 0) rfl)
    have HB3 := hide (((HBx.out.setCell (p := ⟨w.heap.size, 0, none⟩) (Nat.le_refl _) (.string s)).setCell (p := ⟨w.heap.size, 1, none⟩) (Nat.le_refl _) (.slice none 0 0)).setCell (p := ⟨w.heap.size, 2, none⟩) (Nat.le_refl _) (.slice none 0 0))
    simp only [List.getElem_toArray, List.getElem_cons_zero] at c0 c1 c2
    clear d1 d2
    go_wp2
    obtain ⟨tt, htt⟩ := d3.out
    refine bodyPost_ret (results_cell_tmp rfl _ _ w.heap.size _ _ (0, 0) _ (.bool true) rfl rfl htt Tryd.underlying24 rfl Tryd.sizeHistory) rfl ?_
    exact ⟨_, _, rfl, hx_nil _ _ _ _ _ _ _, HB3.out⟩
  | false =>
    rw [hg] at G
    obtain ⟨w1, hw1⟩ : ∃ w1, w1 = w.alloc (.cells #[.string ⟨#[]⟩, .slice none 0 0, .slice none 0 0] 24) := ⟨_, rfl⟩
    rw [← hw1] at HC HB
    have c0 := HC.out.cell 0 rfl
    have f0 := HC.out.fz 0
    have d1 := HC.out.set 0 (.string ⟨#[]⟩) rfl
    have c1 := d1.cell 1 rfl
    have f1 := d1.fz 1
    have d2 := d1.set 1 (.slice none 0 0) rfl
    have c2 := d2.cell 2 rfl
    have f2 := d2.fz 2
    have d3 := hide (d2.set 2 (.slice none 0 0) rfl)
    have HB3 := hide (((HB.out.setCell (p := ⟨w.heap.size, 0, none⟩) (Nat.le_refl _) (.string ⟨#[]⟩)).setCell (p := ⟨w.heap.size, 1, none⟩) (Nat.le_refl _) (.slice none 0 0)).setCell (p := ⟨w.heap.size, 2, none⟩) (Nat.le_refl _) (.slice none 0 0))
    simp only [List.getElem_toArray, List.getElem_cons_zero] at c0 c1 c2
    clear d1 d2
    go_enter Tryd.func10, Tryd.ntmps10
    go_wp2_with fail
    rw [← hw1]
    refine (G.out _ HB.out).mono ?_
    rintro e w2 ⟨rfl, hw2⟩
    subst hw2
    clear G hw1
    go_wp2
    obtain ⟨tt, htt⟩ := d3.out
    refine bodyPost_ret (results_cell_tmp rfl _ _ w.heap.size _ _ (0, 0) _ (.bool false) rfl rfl htt Tryd.underlying24 rfl Tryd.sizeHistory) rfl ?_
    exact ⟨_, _, rfl, hx_nil _ _ _ _ _ _ _, HB3.out⟩

end Go.Proofs.YtpeconmdmddkfaaDoor
