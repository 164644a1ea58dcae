/- A builder of text at this dump: its check and its byte that is written. -/
import Derived.Test.YtmjehpigfkobeaaDoorWalksQ
import Derived.Lib.Builder
import Derived.Laws.Externs
namespace Go.Proofs.YtmjehpigfkobeaaDoor
open Go.RowKit
open Doc1

/-- What a dump tells of the builder's type and of a byte. -/
theorem bld_size : (Tryd.prog.info? 55).map (·.size) = some 2 := by kernel_rfl
theorem bld_lies : liesAt Tryd.prog Tryd.prog.depth 55 (2 / Tryd.prog.cellsOf 55) 0 55 1 = true := by kernel_rfl
theorem bld_byte : (Tryd.prog.info? 5).map (fun i => (i.zero, i.size, i.bytes)) = some (some (.int .u8 0), 1, 1) := by kernel_rfl
def Bd (B b : Nat) (p : Value) (l : List Value) (w : World) : Prop := Lib.BuilderAt 55 5 B b p l w
def BdSelf (b : Nat) : Value := .pointer (some ⟨b, 0, none⟩)

set_option maxHeartbeats 2000000 in
set_option maxRecDepth 100000 in
theorem bld_used (b : Nat) (w : World) (held : w.cell? ⟨b, 0, none⟩ = some (.pointer (some ⟨b, 0, none⟩))) :
    Calls Tryd.prog 59 #[.pointer (some ⟨b, 0, none⟩)] w fun e w' => e = .returned (.tuple #[]) ∧ w' = w := by
  obtain ⟨k, hk, -⟩ := Option.map_eq_some_iff.1 bld_size
  have N := Lib.run_neq_ptr_same w ⟨b, 0, none⟩ Tryd.underlying53 hk
  go_enter Tryd.func59, Tryd.ntmps59
  go_wp2
  go_end0
  exact ⟨rfl, rfl⟩

set_option maxHeartbeats 2000000 in
set_option maxRecDepth 100000 in
theorem bld_fresh (b : Nat) (w : World) (held : w.cell? ⟨b, 0, none⟩ = some (.pointer none)) (hs : w.shape? b = some (55, 2)) (hf : w.frozen? ⟨b, 0, none⟩ = false) :
    Calls Tryd.prog 59 #[.pointer (some ⟨b, 0, none⟩)] w fun e w' => e = .returned (.tuple #[]) ∧ w' = w.setCell ⟨b, 0, none⟩ (.pointer (some ⟨b, 0, none⟩)) := by
  obtain ⟨k, hk, hz⟩ := Option.map_eq_some_iff.1 bld_size
  have to_ := Lib.run_to_unsafe w ⟨b, 0, none⟩ Tryd.underlying53 Tryd.underlying107 hk (by rw [hz]; decide) hs (Nat.succ_pos 1)
  have back := Lib.run_from_unsafe w ⟨b, 0, none⟩ Tryd.underlying107 Tryd.underlying53 hk hs bld_lies
  have esc := Lib.run_noEscape (P := Tryd.prog) w (.pointer (some ⟨b, 0, none⟩))
  have same := fun a w => run_callFunc_extern Tryd.func76 (by kernel_rfl) (by kernel_rfl) (by kernel_rfl) (e := Extern.AbiNoEscape.same) (by kernel_rfl) a w
  go_enter Tryd.func59, Tryd.ntmps59
  go_wp2
  go_end0
  exact ⟨rfl, rfl⟩

theorem bld_check {B b : Nat} {p : Value} {l : List Value} {w : World} (h : Bd B b p l w) (hp : p = .pointer none ∨ p = BdSelf b) :
    Calls Tryd.prog 59 #[.pointer (some ⟨b, 0, none⟩)] w fun e w' => e = .returned (.tuple #[]) ∧ Bd B b (BdSelf b) l w' ∧ Below B w w' := by
  rcases hp with rfl | rfl
  · refine (bld_fresh b w h.cell0 h.shape h.frozen0).mono fun e w' ⟨he, hw⟩ => ⟨he, ?_⟩
    rw [hw]
    exact ⟨h.used _, (Below.refl _ _).setCell (p := ⟨b, 0, none⟩) h.1 _⟩
  · refine (bld_used b w h.cell0).mono fun e w' ⟨he, hw⟩ => ⟨he, ?_⟩
    rw [hw]
    exact ⟨h, Below.refl _ _⟩

set_option maxHeartbeats 2000000 in
set_option maxRecDepth 100000 in
/-- A byte is written behind the others. -/
theorem bld_put {B b : Nat} {p : Value} {l : List Value} (c : Int) {w : World} (h : Bd B b p l w) (hp : p = .pointer none ∨ p = BdSelf b) (hlen : l.length ≤ 1000000) (hBw : B ≤ w.heap.size) :
    Calls Tryd.prog 33 #[.pointer (some ⟨b, 0, none⟩), .int .u8 c] w fun e w' => e = .returned .nilIface ∧ Bd B b (BdSelf b) (l ++ [.int .u8 c]) w' ∧ Below B w w' := by
  obtain ⟨i0, hi0, hz0, hz1, hz2⟩ := info_parts bld_byte
  have CK := hide (bld_check h hp)
  clear h
  go_enter Tryd.func33, Tryd.ntmps33
  go_wp2_with (go_at_call 59; refine CK.out.mono ?_)
  rintro e w1 ⟨rfl, ⟨hle, v, hat, hown, hno⟩, hb1⟩
  have hs1 := hb1.size
  have hlt : b < w1.heap.size := (Array.getElem?_eq_some_iff.1 hat).1
  have p0 : w1.cell? ⟨b, 0, none⟩ = some (BdSelf b) := (Lib.cell_of_heap hat 0).trans rfl
  have p1 : w1.cell? ⟨b, 1, none⟩ = some v := (Lib.cell_of_heap hat 1).trans rfl
  unfold BdSelf at p0
  have HH := hide hat
  have HN := hide hno
  have HO := hide hown
  clear hat hno
  go_wp2_with (at_builtin; refine wpList_append_own _ rfl _ _ 22 rfl B 5 i0 (.int .u8 0) 1 1 Tryd.underlying22 hi0 hz0 hz1 hz2 rfl (by decide) _ _ _ rfl (hown.alloc _) ⟨w1.heap.size, 0, none⟩ 1 1 [.int .u8 c] rfl rfl ?c1 ?c2 ?c3 ?c4 ?c5 ?_)
  case c1 => exact cell_one_new _ _ _
  case c2 => intro u hu; rw [List.mem_singleton] at hu; subst hu; rfl
  case c3 => unfold maxLen; omega
  case c4 => omega
  case c5 => simp; omega
  intro v2 w2 hown2 hgrow2 _
  have hat2 : w2.heap[b]? = some (.cells #[BdSelf b, v] 55 (0, 0)) := ((hgrow2.block b (by simp; omega) (fun c => HN.out c.symm)).trans (Below.heap_alloc _ _ _ hlt)).trans HH.out
  have q0 : w2.cell? ⟨b, 0, none⟩ = some (BdSelf b) := (Lib.cell_of_heap hat2 0).trans rfl
  have q1 : w2.cell? ⟨b, 1, none⟩ = some v := (Lib.cell_of_heap hat2 1).trans rfl
  have q2 := Lib.frozen_of_heap hat2 1
  unfold BdSelf at q0
  have HB := hide (((hb1.alloc (by omega) _).grown hgrow2 (by simp; omega) (fun k hk => (HO.out.lt k hk).1)).setCell (p := ⟨b, 1, none⟩) hle v2)
  have HA := hide (Lib.BuilderAt.put (T := 55) (e := 5) hle hat2 (bs' := l ++ [.int .u8 c]) (by rw [List.length_append]; exact hown2) (by decide))
  obtain ⟨g2, c2, hv2⟩ : ∃ g2 c2, v2 = .slice (some g2) (l.length + 1) c2 := by
    rcases hown2.2 with ⟨_, h0⟩ | ⟨g, cap, cur, hv, _⟩
    · omega
    · exact ⟨_, _, hv⟩
  subst hv2
  clear hown2 hgrow2 hown hat2
  go_wp2
  go_ret
  exact ⟨rfl, HA.out, HB.out⟩

end Go.Proofs.YtmjehpigfkobeaaDoor
