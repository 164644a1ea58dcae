/- Three laid variables: what a row's list of them gives, and a world in which they are laid. -/
import Derived.Test.YtgacajnljplmiabDoorCards
import Derived.Test.YtgacajnljplmiabDoorFrame
import Derived.Test.YtgacajnljplmiabDoorTabWd
import Derived.Lib.LaidU8
namespace Go.Proofs.YtgacajnljplmiabDoor
open Go.ChangeShapes Go.WideShapes Go.ChangeAt Go.RowKit Go.WideElems

theorem gSp : Tryd.prog.globalNamed "strings.asciiSpace" = some 0 := by kernel_rfl
theorem gSpType : (Tryd.prog.globals[0]?).map (·.type) = some 153 := by kernel_rfl
theorem cellsSp : Tryd.prog.cellsOf 153 = 256 := by kernel_rfl
theorem datumSp : (Rows.laid_strings_asciiSpace : DataW Unit) = Lib.tabData .u8 Lib.asciiSpaceTab := by kernel_rfl
theorem tab_rd {W : World} {name : String} {zs : List Int} {g : Nat} {t : TypeId} {n : Nat}
    (hg : Tryd.prog.globalNamed name = some g) (hty : (Tryd.prog.globals[g]?).map (·.type) = some t) (ht : Tryd.prog.underlying t = some (.array n 5)) (hct : Tryd.prog.cellsOf t = n)
    (h : Lib.VarReads Tryd.prog W name (Lib.tabData .u8 zs)) : Lib.TabIs Tryd.prog W name .u8 zs := by
  obtain ⟨g', t', cs, fuel, p, hg', ht', hvar, hd⟩ := h
  obtain rfl := Option.some.inj (hg.symm.trans hg')
  obtain rfl := Option.some.inj (hty.symm.trans ht')
  unfold Lib.TabIs
  rw [hvar, ← Lib.cells_of_tab ht Tryd.underlying5 cells5 hct hd]
/-- What the row's list gives: both tables' cells hold what they should. -/
theorem tableW {W : World} (h : laidMetH Tryd.prog [("unicode.White_Space", Rows.laid_unicode_White_Space), ("strings.asciiSpace", Rows.laid_strings_asciiSpace), ("loop.example/g00253/impl.byteKinds", Rows.laid_loop_example_g00253_impl_byteKinds)] W) : TabW W := by
  have h' : laidMet Tryd.prog [("unicode.White_Space", Rows.laid_unicode_White_Space), ("strings.asciiSpace", Lib.tabData .u8 Lib.asciiSpaceTab), ("loop.example/g00253/impl.byteKinds", Lib.tabData .u8 Doc1.zs)] W := by rw [← datum_eq, ← datumSp]; exact h
  have r1 := Lib.laidMet.reads h' (.tail _ (.head _))
  have r2 := Lib.laidMet.reads h' (.tail _ (.tail _ (.head _)))
  refine ⟨fun j hj => ?_, tab_rd gSp gSpType Tryd.underlying153 cellsSp r1⟩
  exact (tab_rd gTab gTabType Tryd.underlying189 cellsT r2).cell gTab j (by rw [Doc1.zs_len]; exact hj)
/-- A world for the witness: the three variables hold what their initialisers lay. -/
noncomputable def laidWorldW (os : Os) : World :=
  let N := (World.settled Tryd.prog os).heap.size
  let w0 := World.holding Tryd.prog os ⟨#[.cells (Lib.whiteT.map fun (z : Nat) => Value.int .u16 (z : Int)).toArray 197, .cells #[.slice (some ⟨N, 0, none⟩) 7 7, .slice none 0 0, .int .i64 2] 194], #[], []⟩
  let put (h : Array Obj) (g : Nat) (cs : Array Value) : Array Obj := h.modify g fun
    | .cells _ t frozen => .cells cs t frozen
    | o => o
  let h1 := put w0.heap 0 (Lib.asciiSpaceTab.map fun z => Value.int .u8 z).toArray
  let h2 := put h1 2 (Doc1.zs.map (Value.int .u8)).toArray
  let h3 := put h2 1 #[.pointer (some ⟨N + 1, 0, none⟩)]
  { w0 with heap := h3 }

end Go.Proofs.YtgacajnljplmiabDoor
