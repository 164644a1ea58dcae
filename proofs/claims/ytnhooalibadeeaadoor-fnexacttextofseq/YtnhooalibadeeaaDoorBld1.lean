/- A builder of text at this dump: its check and its byte that is written. -/
import Derived.Test.YtnhooalibadeeaaDoorWalksQ
import Derived.Lib.Builder
import Derived.Laws.Externs
namespace Go.Proofs.YtnhooalibadeeaaDoor
open Go.RowKit
open Doc1

/-- What a dump tells of the builder's type and of a byte. -/
theorem bld_size : (Tryd.prog.info? 88).map (·.size) = some 2 := by kernel_rfl
theorem bld_lies : liesAt Tryd.prog Tryd.prog.depth 88 (2 / Tryd.prog.cellsOf 88) 0 88 1 = true := by kernel_rfl
theorem bld_byte : (Tryd.prog.info? 5).map (fun i => (i.zero, i.size, i.bytes)) = some (some (.int .u8 0), 1, 1) := by kernel_rfl
def Bd (B b : Nat) (p : Value) (l : List Value) (w : World) : Prop := Lib.BuilderAt 88 5 B b p l w
def BdSelf (b : Nat) : Value := .pointer (some ⟨b, 0, none⟩)

set_option maxHeartbeats 2000000 in
set_option maxRecDepth 100000 in
theorem bld_used (b : Nat) (w : World) (held : w.cell? ⟨b, 0, none⟩ = some (.pointer (some ⟨b, 0, none⟩))) :
    Calls Tryd.prog 76 #[.pointer (some ⟨b, 0, none⟩)] w fun e w' => e = .returned (.tuple #[]) ∧ w' = w := by
  obtain ⟨k, hk, -⟩ := Option.map_eq_some_iff.1 bld_size
  have N := Lib.run_neq_ptr_same w ⟨b, 0, none⟩ Tryd.underlying86 hk
  go_enter Tryd.func76, Tryd.ntmps76
  go_wp2
  go_end0
  exact ⟨rfl, rfl⟩

set_option maxHeartbeats 2000000 in
set_option maxRecDepth 100000 in
theorem bld_fresh (b : Nat) (w : World) (held : w.cell? ⟨b, 0, none⟩ = some (.pointer none)) (hs : w.shape? b = some (88, 2)) (hf : w.frozen? ⟨b, 0, none⟩ = false) :
    Calls Tryd.prog 76 #[.pointer (some ⟨b, 0, none⟩)] w fun e w' => e = .returned (.tuple #[]) ∧ w' = w.setCell ⟨b, 0, none⟩ (.pointer (some ⟨b, 0, none⟩)) := by
  obtain ⟨k, hk, hz⟩ := Option.map_eq_some_iff.1 bld_size
  have to_ := Lib.run_to_unsafe w ⟨b, 0, none⟩ Tryd.underlying86 Tryd.underlying133 hk (by rw [hz]; decide) hs (Nat.succ_pos 1)
  have back := Lib.run_from_unsafe w ⟨b, 0, none⟩ Tryd.underlying133 Tryd.underlying86 hk hs bld_lies
  have esc := Lib.run_noEscape (P := Tryd.prog) w (.pointer (some ⟨b, 0, none⟩))
  have same := fun a w => run_callFunc_extern Tryd.func100 (by kernel_rfl) (by kernel_rfl) (by kernel_rfl) (e := Extern.AbiNoEscape.same) (by kernel_rfl) a w
  go_enter Tryd.func76, Tryd.ntmps76
  go_wp2
  go_end0
  exact ⟨rfl, rfl⟩

theorem bld_check {B b : Nat} {p : Value} {l : List Value} {w : World} (h : Bd B b p l w) (hp : p = .pointer none ∨ p = BdSelf b) :
    Calls Tryd.prog 76 #[.pointer (some ⟨b, 0, none⟩)] w fun e w' => e = .returned (.tuple #[]) ∧ Bd B b (BdSelf b) l w' ∧ Below B w w' := by
  rcases hp with rfl | rfl
  · refine (bld_fresh b w h.cell0 h.shape h.frozen0).mono fun e w' ⟨he, hw⟩ => ⟨he, ?_⟩
    rw [hw]
    exact ⟨h.used _, (Below.refl _ _).setCell (p := ⟨b, 0, none⟩) h.1 _⟩
  · refine (bld_used b w h.cell0).mono fun e w' ⟨he, hw⟩ => ⟨he, ?_⟩
    rw [hw]
    exact ⟨h, Below.refl _ _⟩

end Go.Proofs.YtnhooalibadeeaaDoor
