/- NewServer, LastSeq and TextAt, of both. -/
import Derived.Test.YtkjioadmebkaoaaDoorSrvM
set_option linter.unusedVariables false
namespace Go.Proofs.YtkjioadmebkaoaaDoor
open Go.RowKit
open Doc1

/-- The text of a new server. -/
def nsT (s : ByteArray) : ByteArray := if good s.data.toList = true then s else ⟨#[]⟩
def nsS (s : ByteArray) : ByteArray := nsT s
def nsL (_ : ByteArray) : List En := []

set_option maxRecDepth 100000 in
set_option maxHeartbeats 2000000 in
theorem newSvS (s : ByteArray) (w : World) (hs : s.size ≤ 1048576) :
    Calls Tryd.prog 117 #[.string s] w fun e w' => SPost w (nsS s) (nsT s) (nsL s) (good s.data.toList) e w' := by
  have G := hide (fun w' => goodTextS_any s w' hs)
  have HC : Hid (CB (w.alloc (.cells #[.string ⟨#[]⟩, .string ⟨#[]⟩, .slice none 0 0] 79)) w.heap.size #[.string ⟨#[]⟩, .string ⟨#[]⟩, .slice none 0 0]) := hide (CB.new _ _ _)
  have HB : Hid (Below w.heap.size w (w.alloc (.cells #[.string ⟨#[]⟩, .string ⟨#[]⟩, .slice none 0 0] 79))) := hide ((Below.refl _ _).alloc (Nat.le_refl _) _)
  unfold nsS nsT
  cases hg : good s.data.toList with
  | true =>
    rw [hg] at G
    obtain ⟨w1, hw1⟩ : ∃ w1, w1 = w.alloc (.cells #[.string ⟨#[]⟩, .string ⟨#[]⟩, .slice none 0 0] 79) := ⟨_, rfl⟩
    rw [← hw1] at HC HB
    go_enter Tryd.func117, Tryd.ntmps117
    go_wp2_with fail
    rw [← hw1]
    refine (G.out _).mono ?_
    rintro e w2 ⟨rfl, hw2⟩
    obtain rfl := hw2.symm
    clear G hw1
    have c0 := HC.out.cell 0 rfl
    have f0 := HC.out.fz 0
    have d1 := HC.out.set 0 (.string s) rfl
    have c1 := d1.cell 1 rfl
    have f1 := d1.fz 1
    have d2 := d1.set 1 (.string s) rfl
    have c2 := d2.cell 2 rfl
    have f2 := d2.fz 2
    have d3 := hide (d2.set 2 (.slice none 0 0) rfl)
    have HB3 := hide (((HB.out.setCell (p := ⟨w.heap.size, 0, none⟩) (Nat.le_refl _) (.string s)).setCell (p := ⟨w.heap.size, 1, none⟩) (Nat.le_refl _) (.string s)).setCell (p := ⟨w.heap.size, 2, none⟩) (Nat.le_refl _) (.slice none 0 0))
    simp only [List.getElem_toArray, List.getElem_cons_zero] at c0 c1 c2
    clear d1 d2
    go_wp2
    obtain ⟨tt, htt⟩ := d3.out
    refine bodyPost_ret (results_cell_tmp rfl _ _ w.heap.size _ _ (0, 0) _ (.bool true) rfl rfl htt Tryd.underlying79 rfl Tryd.sizeServer) rfl ?_
    exact ⟨_, rfl, sx_nil _ _ _ _ _, HB3.out⟩
  | false =>
    rw [hg] at G
    obtain ⟨w1, hw1⟩ : ∃ w1, w1 = w.alloc (.cells #[.string ⟨#[]⟩, .string ⟨#[]⟩, .slice none 0 0] 79) := ⟨_, rfl⟩
    rw [← hw1] at HC HB
    go_enter Tryd.func117, Tryd.ntmps117
    go_wp2_with fail
    rw [← hw1]
    refine (G.out _).mono ?_
    rintro e w2 ⟨rfl, hw2⟩
    obtain rfl := hw2.symm
    clear G hw1
    have c0 := HC.out.cell 0 rfl
    have f0 := HC.out.fz 0
    have d1 := HC.out.set 0 (.string ⟨#[]⟩) rfl
    have c1 := d1.cell 1 rfl
    have f1 := d1.fz 1
    have d2 := d1.set 1 (.string ⟨#[]⟩) rfl
    have c2 := d2.cell 2 rfl
    have f2 := d2.fz 2
    have d3 := hide (d2.set 2 (.slice none 0 0) rfl)
    have HB3 := hide (((HB.out.setCell (p := ⟨w.heap.size, 0, none⟩) (Nat.le_refl _) (.string ⟨#[]⟩)).setCell (p := ⟨w.heap.size, 1, none⟩) (Nat.le_refl _) (.string ⟨#[]⟩)).setCell (p := ⟨w.heap.size, 2, none⟩) (Nat.le_refl _) (.slice none 0 0))
    simp only [List.getElem_toArray, List.getElem_cons_zero] at c0 c1 c2
    clear d1 d2
    go_wp2
    obtain ⟨tt, htt⟩ := d3.out
    refine bodyPost_ret (results_cell_tmp rfl _ _ w.heap.size _ _ (0, 0) _ (.bool false) rfl rfl htt Tryd.underlying79 rfl Tryd.sizeServer) rfl ?_
    exact ⟨_, rfl, sx_nil _ _ _ _ _, HB3.out⟩

set_option maxRecDepth 100000 in
set_option maxHeartbeats 2000000 in
theorem newSvI (s : ByteArray) (w : World) (hs : s.size ≤ 1048576) (hT : Tab w) :
    Calls Tryd.prog 118 #[.string s] w fun e w' => SPost w (nsS s) (nsT s) (nsL s) (good s.data.toList) e w' := by
  have G : Hid (∀ w', Below w.heap.size w w' → _) := hide (fun w' hb => goodTextI_any s w' hs (hT.below hb))
  have HCl := hide (fun w' => strClone_any s w' hs)
  have HC : Hid (CB (w.alloc (.cells #[.string ⟨#[]⟩, .string ⟨#[]⟩, .slice none 0 0] 79)) w.heap.size #[.string ⟨#[]⟩, .string ⟨#[]⟩, .slice none 0 0]) := hide (CB.new _ _ _)
  have HB : Hid (Below w.heap.size w (w.alloc (.cells #[.string ⟨#[]⟩, .string ⟨#[]⟩, .slice none 0 0] 79))) := hide ((Below.refl _ _).alloc (Nat.le_refl _) _)
  unfold nsS nsT
  cases hg : good s.data.toList with
  | true =>
    rw [hg] at G
    obtain ⟨w1, hw1⟩ : ∃ w1, w1 = w.alloc (.cells #[.string ⟨#[]⟩, .string ⟨#[]⟩, .slice none 0 0] 79) := ⟨_, rfl⟩
    rw [← hw1] at HC HB
    go_enter Tryd.func118, Tryd.ntmps118
    go_wp2_with fail
    rw [← hw1]
    refine (G.out _ HB.out).mono ?_
    rintro e w2 ⟨rfl, hw2⟩
    obtain rfl := hw2.symm
    clear G hw1
    go_wp2_with fail
    refine (HCl.out _).mono ?_
    rintro e w3 ⟨rfl, hb3⟩
    have HC3 := hide (HC.out.later hb3)
    have HBx := hide (HB.out.trans (hb3.mono HB.out.size))
    clear hb3
    go_wp2_with fail
    refine (HCl.out _).mono ?_
    rintro e w4 ⟨rfl, hb4⟩
    have HC4 := hide (HC3.out.later hb4)
    have HBy := hide (HBx.out.trans (hb4.mono HBx.out.size))
    clear hb4 HCl
    have c0 := HC4.out.cell 0 rfl
    have f0 := HC4.out.fz 0
    have d1 := HC4.out.set 0 (.string s) rfl
    have c1 := d1.cell 1 rfl
    have f1 := d1.fz 1
    have d2 := d1.set 1 (.string s) rfl
    have c2 := d2.cell 2 rfl
    have f2 := d2.fz 2
    have d3 := hide (d2.set 2 (.slice none 0 0) rfl)
    have HB3 := hide (((HBy.out.setCell (p := ⟨w.heap.size, 0, none⟩) (Nat.le_refl _) (.string s)).setCell (p := ⟨w.heap.size, 1, none⟩) (Nat.le_refl _) (.string s)).setCell (p := ⟨w.heap.size, 2, none⟩) (Nat.le_refl _) (.slice none 0 0))
    simp only [List.getElem_toArray, List.getElem_cons_zero] at c0 c1 c2
    clear d1 d2
    go_wp2
    obtain ⟨tt, htt⟩ := d3.out
    refine bodyPost_ret (results_cell_tmp rfl _ _ w.heap.size _ _ (0, 0) _ (.bool true) rfl rfl htt Tryd.underlying79 rfl Tryd.sizeServer) rfl ?_
    exact ⟨_, rfl, sx_nil _ _ _ _ _, HB3.out⟩
  | false =>
    rw [hg] at G
    obtain ⟨w1, hw1⟩ : ∃ w1, w1 = w.alloc (.cells #[.string ⟨#[]⟩, .string ⟨#[]⟩, .slice none 0 0] 79) := ⟨_, rfl⟩
    rw [← hw1] at HC HB
    go_enter Tryd.func118, Tryd.ntmps118
    go_wp2_with fail
    rw [← hw1]
    refine (G.out _ HB.out).mono ?_
    rintro e w2 ⟨rfl, hw2⟩
    obtain rfl := hw2.symm
    clear G hw1
    have c0 := HC.out.cell 0 rfl
    have f0 := HC.out.fz 0
    have d1 := HC.out.set 0 (.string ⟨#[]⟩) rfl
    have c1 := d1.cell 1 rfl
    have f1 := d1.fz 1
    have d2 := d1.set 1 (.string ⟨#[]⟩) rfl
    have c2 := d2.cell 2 rfl
    have f2 := d2.fz 2
    have d3 := hide (d2.set 2 (.slice none 0 0) rfl)
    have HB3 := hide (((HB.out.setCell (p := ⟨w.heap.size, 0, none⟩) (Nat.le_refl _) (.string ⟨#[]⟩)).setCell (p := ⟨w.heap.size, 1, none⟩) (Nat.le_refl _) (.string ⟨#[]⟩)).setCell (p := ⟨w.heap.size, 2, none⟩) (Nat.le_refl _) (.slice none 0 0))
    simp only [List.getElem_toArray, List.getElem_cons_zero] at c0 c1 c2
    clear d1 d2
    go_wp2
    obtain ⟨tt, htt⟩ := d3.out
    refine bodyPost_ret (results_cell_tmp rfl _ _ w.heap.size _ _ (0, 0) _ (.bool false) rfl rfl htt Tryd.underlying79 rfl Tryd.sizeServer) rfl ?_
    exact ⟨_, rfl, sx_nil _ _ _ _ _, HB3.out⟩

/-- LastSeq's answer. -/
noncomputable def lsB (s t : ByteArray) (l : List En) (c : Int) : Bool := goodSv s t l && decide (0 ≤ c ∧ c ≤ 9)
noncomputable def lsN (s t : ByteArray) (l : List En) (c : Int) : Int := if lsB s t l c = true then lastS l c l.length else 0
/-- TextAt's answer. -/
noncomputable def taB (s t : ByteArray) (l : List En) (v : Int) : Bool := goodSv s t l && decide (0 ≤ v ∧ v ≤ (l.length : Int))
noncomputable def taT (s t : ByteArray) (l : List En) (v : Int) : ByteArray := if taB s t l v = true then tx s l v.toNat else ⟨#[]⟩

set_option maxRecDepth 100000 in
set_option maxHeartbeats 4000000 in
theorem l15Last_any {S : Nat → Prop} {w : World} {v : Value} {s t : ByteArray} {l : List En} (c : Int) (h : ER S w v l) (hl : l.length ≤ 1048576) :
    Calls Tryd.prog 131 #[.agg #[.string s, .string t, v], .int .i64 c] w fun e w' => e = .returned (.int .i64 (lastS l c l.length)) ∧ Below w.heap.size w w' := by
  obtain ⟨a, cap, g, off, vs, rfl, hE⟩ := h.ein
  obtain ⟨w1, hw1⟩ : ∃ w1, w1 = w.alloc (.cells #[.string s, .string t, .slice a l.length cap] 79) := ⟨_, rfl⟩
  have hb1 : Below w.heap.size w w1 := by rw [hw1]; exact (Below.refl _ _).alloc (Nat.le_refl _) _
  have HB := hide hb1
  have HE := hide (hE.later hb1)
  clear h hE hb1
  go_enter Tryd.func131, Tryd.ntmps131
  go_wp2
  rw [← hw1]
  clear hw1
  go_loopw [5, 11] (fun x i wr => ∃ k : Nat, k ≤ l.length ∧ i = .int .i64 k ∧ x = .int .i64 (lastS l c k) ∧ Below w1.heap.size w1 wr) (fun _ i _ => l.length - (intOf i).toNat)
  case atStart => exact ⟨0, by omega, rfl, rfl, Below.refl _ _⟩
  case round =>
    obtain ⟨k, hk, rfl, rfl, hbel⟩ := hrel
    by_cases hlt : k < l.length
    · obtain ⟨rfl, hc1, hc2, hd0⟩ := HE.out (by omega)
      have hd := hd0.later hbel
      have c2 := hd.c k hlt
      obtain ⟨c0, c1⟩ := hd.ua k hlt (Nat.zero_le _)
      obtain ⟨ax, cx, ex⟩ := (hd.op k hlt (Nat.zero_le _)).shp
      rw [ex] at c2
      have HBx : Hid (∀ o, Below w1.heap.size w1 (wr.alloc o)) := hide (fun o => hbel.alloc hbel.size _)
      have hls : lastS l c (k + 1) = if l[k].cl = c then l[k].sq else lastS l c k := by show (if (eAt l k).cl = c then _ else _) = _; rw [eAt_eq hlt]
      clear hd hd0 ex
      by_cases heq : l[k].cl = c
      · rw [if_pos heq] at hls
        have HL := hide hls
        clear hls
        go_wp2
        refine ⟨⟨k + 1, by omega, by go_num, by rw [HL.out], HBx.out _⟩, by simp [intOf]; omega⟩
      · rw [if_neg heq] at hls
        have HL := hide hls
        clear hls
        go_wp2
        refine ⟨⟨k + 1, by omega, by go_num, by rw [HL.out], HBx.out _⟩, by simp [intOf]; omega⟩
    · obtain rfl : k = l.length := by omega
      have HB2 := hide (HB.out.trans (hbel.mono HB.out.size))
      clear hbel
      go_wp2
      go_ret
      exact ⟨rfl, HB2.out⟩

end Go.Proofs.YtkjioadmebkaoaaDoor
