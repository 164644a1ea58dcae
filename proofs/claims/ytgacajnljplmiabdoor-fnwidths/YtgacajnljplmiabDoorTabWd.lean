/- Both tables that the words of a text are read by. -/
import Derived.Test.YtgacajnljplmiabDoorWds2
set_option linter.unusedVariables false
namespace Go.Proofs.YtgacajnljplmiabDoor
open Go.RowKit
open Doc1

theorem TabS.below {w w' : World} (h : TabS w) (hb : Below w.heap.size w w') : TabS w' := by
  unfold TabS Lib.TabIs World.var? at h ⊢
  cases hg : Tryd.prog.globalNamed "strings.asciiSpace" with
  | none => rw [hg] at h; cases h
  | some g =>
    rw [hg] at h
    simp only [Option.bind_some] at h ⊢
    have hlt : g < w.heap.size := by
      rcases Nat.lt_or_ge g w.heap.size with c | c
      · exact c
      · rw [Array.getElem?_eq_none c] at h; cases h
    rw [hb.block g hlt]
    exact h
/-- Both tables are laid. -/
def TabW (w : World) : Prop := Tab w ∧ TabS w
theorem TabW.below {w w' : World} (h : TabW w) (hb : Below w.heap.size w w') : TabW w' := ⟨h.1.below hb, h.2.below hb⟩
theorem wdT_le (s : ByteArray) : (wdT s).1.length ≤ 10000000 := by
  unfold wdT
  split
  · have h := wdP_ok s
    have := (wds_bd (wdP s).data.toList (by rw [← szB]; exact h.2)).1
    show (wdsL (wdP s).data.toList).length ≤ _
    omega
  · simp
end Go.Proofs.YtgacajnljplmiabDoor
