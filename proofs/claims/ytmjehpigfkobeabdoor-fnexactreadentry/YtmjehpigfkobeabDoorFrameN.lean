/- Four laid variables: what a row's list of them gives, and a world in which they are laid. -/
import Derived.Test.YtmjehpigfkobeabDoorCards
import Derived.Test.YtmjehpigfkobeabDoorFrame
import Derived.Test.YtmjehpigfkobeabDoorOpT2
import Derived.Lib.LaidTab
namespace Go.Proofs.YtmjehpigfkobeabDoor
open Go.ChangeShapes Go.WideShapes Go.ChangeAt Go.RowKit Go.WideElems

theorem g10 : Tryd.prog.globalNamed "internal/strconv.uint64pow10" = some 4 := by kernel_rfl
theorem g10Type : (Tryd.prog.globals[4]?).map (·.type) = some 155 := by kernel_rfl
theorem cells10 : Tryd.prog.cellsOf 155 = 20 := by kernel_rfl
theorem cellsU : Tryd.prog.cellsOf 149 = 1 := by kernel_rfl
theorem datum10 : (Rows.laid_internal_strconv_uint64pow10 : DataW Unit) = Lib.tabData .u64 Lib.pow10Tab := by kernel_rfl
theorem tab_rdN {W : World} {name : String} {zs : List Int} {g : Nat} {t : TypeId} {n : Nat} {k : IntKind} {e : TypeId}
    (hg : Tryd.prog.globalNamed name = some g) (hty : (Tryd.prog.globals[g]?).map (·.type) = some t) (ht : Tryd.prog.underlying t = some (.array n e)) (he : Tryd.prog.underlying e = some (.int k)) (hce : Tryd.prog.cellsOf e = 1) (hct : Tryd.prog.cellsOf t = n)
    (h : Lib.VarReads Tryd.prog W name (Lib.tabData k zs)) : Lib.TabIs Tryd.prog W name k zs := by
  obtain ⟨g', t', cs, fuel, p, hg', ht', hvar, hd⟩ := h
  obtain rfl := Option.some.inj (hg.symm.trans hg')
  obtain rfl := Option.some.inj (hty.symm.trans ht')
  unfold Lib.TabIs
  rw [hvar, ← Lib.cells_of_tab ht he hce hct hd]
/-- What the row's list gives: both tables' cells hold what they should. -/
theorem tableN {W : World} (h : laidMetH Tryd.prog [("math/bits.deBruijn32tab", Rows.laid_math_bits_deBruijn32tab), ("math/bits.deBruijn64tab", Rows.laid_math_bits_deBruijn64tab), ("internal/strconv.uint64pow10", Rows.laid_internal_strconv_uint64pow10), ("loop.example/g00253/impl.byteKinds", Rows.laid_loop_example_g00253_impl_byteKinds)] W) : TabN W := by
  have h' : laidMet Tryd.prog [("math/bits.deBruijn32tab", Rows.laid_math_bits_deBruijn32tab), ("math/bits.deBruijn64tab", Rows.laid_math_bits_deBruijn64tab), ("internal/strconv.uint64pow10", Lib.tabData .u64 Lib.pow10Tab), ("loop.example/g00253/impl.byteKinds", Lib.tabData .u8 Doc1.zs)] W := by rw [← datum_eq, ← datum10]; exact h
  have r1 := Lib.laidMet.reads h' (.tail _ (.tail _ (.head _)))
  have r2 := Lib.laidMet.reads h' (.tail _ (.tail _ (.tail _ (.head _))))
  refine ⟨fun j hj => ?_, tab_rdN g10 g10Type Tryd.underlying155 Tryd.underlying149 cellsU cells10 r1⟩
  exact (tab_rdN gTab gTabType Tryd.underlying147 Tryd.underlying5 cells5 cellsT r2).cell gTab j (by rw [Doc1.zs_len]; exact hj)
def zsOf : DataW Unit → List Int
  | .agg l => l.filterMap fun
    | .lit (.int _ z) => some z
    | _ => none
  | _ => []
/-- A world for the witness: the four variables hold what their initialisers lay. -/
noncomputable def laidWorldN (os : Os) : World :=
  let w0 := World.holding Tryd.prog os ⟨#[], #[], []⟩
  let put (h : Array Obj) (g : Nat) (cs : Array Value) : Array Obj := h.modify g fun
    | .cells _ t frozen => .cells cs t frozen
    | o => o
  let h1 := put w0.heap 5 ((zsOf Rows.laid_math_bits_deBruijn32tab).map (Value.int .u8)).toArray
  let h2 := put h1 6 ((zsOf Rows.laid_math_bits_deBruijn64tab).map (Value.int .u8)).toArray
  let h3 := put h2 4 (Lib.pow10Tab.map (Value.int .u64)).toArray
  let h4 := put h3 3 (Doc1.zs.map (Value.int .u8)).toArray
  { w0 with heap := h4 }

end Go.Proofs.YtmjehpigfkobeabDoor
