/- The law of WordsOf: whatever the text, it answers true and turns nothing old. -/
import Derived.Test.YtgacajnljplmiaaDoorWds2
import Derived.Test.YtgacajnljplmiaaDoorRwArg
set_option linter.unusedVariables false
namespace Go.Proofs.YtgacajnljplmiaaDoor
open Go.RowKit
open Doc1

theorem TabS.below {w w' : World} (h : TabS w) (hb : Below w.heap.size w w') : TabS w' := by
  unfold TabS Lib.TabIs World.var? at h ⊢
  cases hg : Tryd.prog.globalNamed "strings.asciiSpace" with
  | none => rw [hg] at h; cases h
  | some g =>
    rw [hg] at h
    simp only [Option.bind_some] at h ⊢
    have hlt : g < w.heap.size := by
      rcases Nat.lt_or_ge g w.heap.size with c | c
      · exact c
      · rw [Array.getElem?_eq_none c] at h; cases h
    rw [hb.block g hlt]
    exact h
/-- Both tables are laid. -/
def TabW (w : World) : Prop := Tab w ∧ TabS w
theorem TabW.below {w w' : World} (h : TabW w) (hb : Below w.heap.size w w') : TabW w' := ⟨h.1.below hb, h.2.below hb⟩
theorem wdT_le (s : ByteArray) : (wdT s).1.length ≤ 10000000 := by
  unfold wdT
  split
  · have h := wdP_ok s
    have := (wds_bd (wdP s).data.toList (by rw [← szB]; exact h.2)).1
    show (wdsL (wdP s).data.toList).length ≤ _
    omega
  · simp
theorem words_both (s : ByteArray) (hs : s.size ≤ 1048576) :
    ∃ (T : List ByteArray) (b : Bool), T.length ≤ 10000000 ∧ (∀ (w : World), Calls Tryd.prog 9 #[.string s] w fun e w' => ∃ v, e = .returned (.tuple #[v, .bool b]) ∧ SOwn w' w.heap.size v T ∧ Below w.heap.size w w') ∧
      (∀ (w : World), TabW w → Calls Tryd.prog 10 #[.string s] w fun e w' => ∃ v, e = .returned (.tuple #[v, .bool b]) ∧ SOwn w' w.heap.size v T ∧ Below w.heap.size w w') :=
  ⟨(wdT s).1, (wdT s).2, wdT_le s, fun w => wordsS_any s w hs, fun w hT => wordsI_any s w hs hT.1 (fun w' hb => hT.2.below hb)⟩

set_option maxRecDepth 100000 in
set_option maxHeartbeats 4000000 in
theorem law_words (s : ByteArray) (w : World) (hms : s.size ≤ maxLen) (hT : TabW w) :
    Calls Tryd.prog 3 #[.string s] w fun e w' => e = .returned (.bool true) ∧ Below w.heap.size w w' := by
  unfold maxLen at hms
  by_cases fss : s.size ≤ 1048576
  · skip
    obtain ⟨T0, T1, len0, HS, HI⟩ := words_both s fss 
    replace HS := hide HS
    replace HI := hide HI
    have hB := Below.refl w.heap.size w
    go_enter Tryd.func3, Tryd.ntmps3
    go_wp2_with fail
    refine (HS.out w).mono ?_
    rintro e w1 ⟨x0, rfl, ox0, hb1⟩
    have lx0 := hide ox0.lt
    have s1 := hide hb1.size
    replace hB := hB.trans (hb1.mono hB.size)
    clear hb1
    go_wp2_with fail
    refine (HI.out w1 (hT.below hB)).mono ?_
    rintro e w2 ⟨y0, rfl, oy0, hb2⟩
    have ly0 := hide oy0.lt
    replace ox0 := own_below ox0 hb2
    have s2 := hide hb2.size
    replace hB := hB.trans (hb2.mono hB.size)
    clear hb2
    go_wp2_with fail
    refine (eqS_own oy0 ox0 (by omega)).mono ?_
    rintro e w3 ⟨rfl, hb3⟩
    replace ox0 := own_below ox0 hb3
    replace oy0 := own_below oy0 hb3
    have s3 := hide hb3.size
    replace hB := hB.trans (hb3.mono hB.size)
    clear hb3
    go_wp2_with fail
    refine (markS_own oy0 (by omega)).mono ?_
    rintro e w4 ⟨rfl, hb4, m0⟩
    clear oy0
    replace ox0 := own_grown ox0 hb4 (fun b hb' e => by have q0 := s1.out; have q1 := s2.out; have q2 := s3.out; have u1 := ly0.out _ e; have u0 := lx0.out b hb'; omega)
    have s4 := hide hb4.size
    replace hB := hB.grown hb4 hB.size (fun b e => by have q0 := s1.out; have q1 := s2.out; have q2 := s3.out; have u1 := ly0.out _ e; omega)
    clear hb4
    go_wp2_with fail
    refine (heldS_own m0 (by omega)).mono ?_
    rintro e w5 ⟨rfl, hb5⟩
    replace ox0 := own_below ox0 hb5
    replace m0 := m0.later hb5
    have s5 := hide hb5.size
    replace hB := hB.trans (hb5.mono hB.size)
    clear hb5
    go_wp2_with fail
    refine (HI.out w5 (hT.below hB)).mono ?_
    rintro e w6 ⟨z0, rfl, oz0, hb6⟩
    have lz0 := hide oz0.lt
    replace ox0 := own_below ox0 hb6
    replace m0 := m0.later hb6
    have s6 := hide hb6.size
    replace hB := hB.trans (hb6.mono hB.size)
    clear hb6
    go_wp2_with fail
    refine (eqS_own oz0 ox0 (by omega)).mono ?_
    rintro e w7 ⟨rfl, hb7⟩
    replace ox0 := own_below ox0 hb7
    replace m0 := m0.later hb7
    replace oz0 := own_below oz0 hb7
    have s7 := hide hb7.size
    replace hB := hB.trans (hb7.mono hB.size)
    clear hb7
    clear oz0 ox0
    go_wp2_with fail
    refine (heldS_own m0 (by omega)).mono ?_
    rintro e w8 ⟨rfl, hb8⟩
    replace m0 := m0.later hb8
    have s8 := hide hb8.size
    replace hB := hB.trans (hb8.mono hB.size)
    clear hb8
    go_wp2
    go_ret
    exact ⟨rfl, hB⟩
  · go_enter Tryd.func3, Tryd.ntmps3
    go_wp2
    go_ret
    exact ⟨rfl, Below.refl _ _⟩

end Go.Proofs.YtgacajnljplmiaaDoor
