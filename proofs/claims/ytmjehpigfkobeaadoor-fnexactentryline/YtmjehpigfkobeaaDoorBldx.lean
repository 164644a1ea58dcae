/- A text and a byte that are written behind a builder, told with the row that it holds. -/
import Derived.Test.YtmjehpigfkobeaaDoorBld1
import Derived.Test.YtmjehpigfkobeaaDoorAppB
import Derived.Test.YtmjehpigfkobeaaDoorFrm
import Derived.Test.YtmjehpigfkobeaaDoorRow1c
set_option linter.unusedVariables false
namespace Go.Proofs.YtmjehpigfkobeaaDoor
open Go.RowKit
open Doc1

theorem set_grown (w : World) (b j : Nat) (x : Value) : w.grownBy (w.setCell ⟨b, j, none⟩ x) (some b) :=
  ⟨rfl, rfl, rfl, by simp [World.setCell], fun k _ hk => Below.heap_setCell _ _ _ _ (fun e => hk (by rw [e]))⟩
/-- A builder in a block of its own, told with the row that it holds. -/
structure Bdx (B b : Nat) (v p : Value) (l : List Value) (w : World) : Prop where
  lo : B ≤ b
  hp : w.heap[b]? = some (.cells #[p, v] 55 (0, 0))
  row : w.ownsRow B 5 1 v l.length l
  no : v.ownBlock ≠ some b
theorem Bdx.bd {B b : Nat} {v p : Value} {l : List Value} {w : World} (h : Bdx B b v p l w) : Bd B b p l w := ⟨h.lo, v, h.hp, h.row, h.no⟩
theorem Bdx.lt {B b : Nat} {v p : Value} {l : List Value} {w : World} (h : Bdx B b v p l w) : b < w.heap.size := (Array.getElem?_eq_some_iff.1 h.hp).1
/-- What stays while a builder is written: all blocks but its own and its row's. -/
def Stay (b : Nat) (v : Value) (w w' : World) : Prop := w.heap.size ≤ w'.heap.size ∧ ∀ k, k < w.heap.size → k ≠ b → v.ownBlock ≠ some k → w'.heap[k]? = w.heap[k]?
theorem Stay.set {b : Nat} {v : Value} {w w' : World} (h : Stay b v w w') (j : Nat) (x : Value) : Stay b v w (w'.setCell ⟨b, j, none⟩ x) :=
  ⟨by simpa [World.setCell] using h.1, fun k h1 h2 h3 => (Below.heap_setCell _ _ _ _ (fun e => h2 e)).trans (h.2 k h1 h2 h3)⟩
theorem Bdx.mark {B b : Nat} {v p : Value} {l : List Value} {w : World} (h : Bdx B b v p l w) (q : Value) : Bdx B b v q l (w.setCell ⟨b, 0, none⟩ q) :=
  ⟨h.lo, by simpa using cell_put h.hp 0 q, h.row.kept (row := some b) (set_grown _ _ _ _) (Or.inr h.no), h.no⟩

theorem bldx_check {B b : Nat} {v p : Value} {l : List Value} {w : World} (h : Bdx B b v p l w) (hp : p = .pointer none ∨ p = BdSelf b) :
    Calls Tryd.prog 59 #[.pointer (some ⟨b, 0, none⟩)] w fun e w' => e = .returned (.tuple #[]) ∧ Bdx B b v (BdSelf b) l w' ∧ Below B w w' ∧ Stay b v w w' := by
  rcases hp with rfl | rfl
  · refine (bld_fresh b w h.bd.cell0 h.bd.shape h.bd.frozen0).mono fun e w' ⟨he, hw⟩ => ⟨he, ?_⟩
    rw [hw]
    exact ⟨h.mark _, (Below.refl _ _).setCell (p := ⟨b, 0, none⟩) h.lo _, Stay.set ⟨Nat.le_refl _, fun _ _ _ _ => rfl⟩ _ _⟩
  · refine (bld_used b w h.bd.cell0).mono fun e w' ⟨he, hw⟩ => ⟨he, ?_⟩
    rw [hw]
    exact ⟨h, Below.refl _ _, Nat.le_refl _, fun _ _ _ _ => rfl⟩

set_option maxHeartbeats 2000000 in
set_option maxRecDepth 100000 in
/-- A text is written behind the others. -/
theorem bld_puts {B b : Nat} {v p : Value} {l : List Value} (s : ByteArray) {w : World} (h : Bdx B b v p l w) (hp : p = .pointer none ∨ p = BdSelf b) (hlen : l.length + s.size ≤ 1000000) (hBw : B ≤ w.heap.size) :
    Calls Tryd.prog 31 #[.pointer (some ⟨b, 0, none⟩), .string s] w fun e w' => e = .returned (.tuple #[.int .i64 s.size, .nilIface]) ∧ ∃ v', Bdx B b v' (BdSelf b) (l ++ byt s.data.toList) w' ∧ Below B w w' ∧ Stay b v w w' ∧ (v'.ownBlock = v.ownBlock ∨ ∀ x, v'.ownBlock = some x → w.heap.size ≤ x) := by
  obtain ⟨i0, hi0, hz0, hz1, hz2⟩ := info_parts bld_byte
  have CK := hide (bldx_check h hp)
  clear h
  go_enter Tryd.func31, Tryd.ntmps31
  go_wp2_with (go_at_call 59; refine CK.out.mono ?_)
  rintro e w1 ⟨rfl, hbx, hb1, hst⟩
  have hs1 := hb1.size
  have hlt := hbx.lt
  have p0 : w1.cell? ⟨b, 0, none⟩ = some (BdSelf b) := (Lib.cell_of_heap hbx.hp 0).trans rfl
  have p1 : w1.cell? ⟨b, 1, none⟩ = some v := (Lib.cell_of_heap hbx.hp 1).trans rfl
  unfold BdSelf at p0
  have HX := hide hbx
  have HST := hide hst
  have hown := hbx.row
  clear hbx hst
  go_wp2_with (at_builtin; refine wpList_str rfl _ _ 22 9 rfl B 5 i0 Tryd.underlying22 Tryd.underlying9 hi0 hz0 hz1 hz2 _ _ _ rfl hown s rfl (by omega) (by omega) ?_)
  intro v2 w2 hown2 hgrow2 hloc
  have hat2 : w2.heap[b]? = some (.cells #[BdSelf b, v] 55 (0, 0)) := (hgrow2.block b (by omega) (fun c => HX.out.no c.symm)).trans HX.out.hp
  have q0 : w2.cell? ⟨b, 0, none⟩ = some (BdSelf b) := (Lib.cell_of_heap hat2 0).trans rfl
  have q1 : w2.cell? ⟨b, 1, none⟩ = some v := (Lib.cell_of_heap hat2 1).trans rfl
  have q2 := Lib.frozen_of_heap hat2 1
  unfold BdSelf at q0
  have hs2 := hgrow2.size
  have HB := hide ((hb1.grown hgrow2 (by omega) (fun k hk => (HX.out.row.lt k hk).1)).setCell (p := ⟨b, 1, none⟩) HX.out.lo v2)
  have HNO : Hid (v2.ownBlock ≠ some b) := hide (Lib.ownBlock_ne hown2 hat2 (by decide))
  have HA : Hid (Bdx B b v2 (BdSelf b) (l ++ byt s.data.toList) (w2.setCell ⟨b, 1, none⟩ v2)) := hide ⟨HX.out.lo, by simpa using cell_put hat2 1 v2, by rw [List.length_append, byt_len, ← szB]; exact hown2.kept (row := some b) (set_grown _ _ _ _) (Or.inr HNO.out), HNO.out⟩
  have HS : Hid (Stay b v w (w2.setCell ⟨b, 1, none⟩ v2)) := hide (Stay.set ⟨Nat.le_trans HST.out.1 hs2, fun k h1 h2 h3 => (hgrow2.block k (Nat.lt_of_lt_of_le h1 HST.out.1) (fun c => h3 c.symm)).trans (HST.out.2 k h1 h2 h3)⟩ _ _)
  have HL : Hid (v2.ownBlock = v.ownBlock ∨ ∀ x, v2.ownBlock = some x → w.heap.size ≤ x) := hide (hloc.imp id (fun h x hx => Nat.le_trans HST.out.1 (h x hx)))
  obtain ⟨a2, c2, rfl, -, -⟩ := own_shp hown2
  clear hown2 hgrow2 hown hat2 hloc
  go_wp2
  go_ret2
  exact ⟨rfl, _, HA.out, HB.out, HS.out, HL.out⟩

set_option maxHeartbeats 2000000 in
set_option maxRecDepth 100000 in
/-- A byte is written behind the others. -/
theorem bld_putx {B b : Nat} {v p : Value} {l : List Value} (c : Int) {w : World} (h : Bdx B b v p l w) (hp : p = .pointer none ∨ p = BdSelf b) (hlen : l.length ≤ 1000000) (hBw : B ≤ w.heap.size) :
    Calls Tryd.prog 33 #[.pointer (some ⟨b, 0, none⟩), .int .u8 c] w fun e w' => e = .returned .nilIface ∧ ∃ v', Bdx B b v' (BdSelf b) (l ++ [.int .u8 c]) w' ∧ Below B w w' ∧ Stay b v w w' ∧ (v'.ownBlock = v.ownBlock ∨ ∀ x, v'.ownBlock = some x → w.heap.size ≤ x) := by
  obtain ⟨i0, hi0, hz0, hz1, hz2⟩ := info_parts bld_byte
  have CK := hide (bldx_check h hp)
  clear h
  go_enter Tryd.func33, Tryd.ntmps33
  go_wp2_with (go_at_call 59; refine CK.out.mono ?_)
  rintro e w1 ⟨rfl, hbx, hb1, hst⟩
  have hs1 := hb1.size
  have hlt := hbx.lt
  have p0 : w1.cell? ⟨b, 0, none⟩ = some (BdSelf b) := (Lib.cell_of_heap hbx.hp 0).trans rfl
  have p1 : w1.cell? ⟨b, 1, none⟩ = some v := (Lib.cell_of_heap hbx.hp 1).trans rfl
  unfold BdSelf at p0
  have HX := hide hbx
  have HST := hide hst
  have hown := hbx.row
  clear hbx hst
  go_wp2_with (at_builtin; refine wpList_append_loc _ rfl _ _ 22 rfl B 5 i0 (.int .u8 0) 1 1 Tryd.underlying22 hi0 hz0 hz1 hz2 rfl (by decide) _ _ _ rfl (hown.alloc _) ⟨w1.heap.size, 0, none⟩ 1 1 [.int .u8 c] rfl rfl ?c1 ?c2 ?c3 ?c4 ?c5 ?_)
  case c1 => exact cell_one_new _ _ _
  case c2 => intro u hu; rw [List.mem_singleton] at hu; subst hu; rfl
  case c3 => unfold maxLen; omega
  case c4 => omega
  case c5 => simp; omega
  intro v2 w2 hown2 hgrow2 hloc
  have hat2 : w2.heap[b]? = some (.cells #[BdSelf b, v] 55 (0, 0)) := ((hgrow2.block b (by simp; omega) (fun c => HX.out.no c.symm)).trans (Below.heap_alloc _ _ _ hlt)).trans HX.out.hp
  have q0 : w2.cell? ⟨b, 0, none⟩ = some (BdSelf b) := (Lib.cell_of_heap hat2 0).trans rfl
  have q1 : w2.cell? ⟨b, 1, none⟩ = some v := (Lib.cell_of_heap hat2 1).trans rfl
  have q2 := Lib.frozen_of_heap hat2 1
  unfold BdSelf at q0
  have hs2 : w1.heap.size + 1 ≤ w2.heap.size := by have := hgrow2.size; simp at this; exact this
  have HB := hide (((hb1.alloc (by omega) _).grown hgrow2 (by simp; omega) (fun k hk => (HX.out.row.lt k hk).1)).setCell (p := ⟨b, 1, none⟩) HX.out.lo v2)
  have HNO : Hid (v2.ownBlock ≠ some b) := hide (Lib.ownBlock_ne hown2 hat2 (by decide))
  have HA : Hid (Bdx B b v2 (BdSelf b) (l ++ [.int .u8 c]) (w2.setCell ⟨b, 1, none⟩ v2)) := hide ⟨HX.out.lo, by simpa using cell_put hat2 1 v2, by rw [List.length_append]; exact hown2.kept (row := some b) (set_grown _ _ _ _) (Or.inr HNO.out), HNO.out⟩
  have HS : Hid (Stay b v w (w2.setCell ⟨b, 1, none⟩ v2)) := hide (Stay.set ⟨by have := HST.out.1; omega, fun k h1 h2 h3 => (hgrow2.block k (by simp; have := HST.out.1; omega) (fun c => h3 c.symm)).trans ((Below.heap_alloc _ _ _ (Nat.lt_of_lt_of_le h1 HST.out.1)).trans (HST.out.2 k h1 h2 h3))⟩ _ _)
  have HL : Hid (v2.ownBlock = v.ownBlock ∨ ∀ x, v2.ownBlock = some x → w.heap.size ≤ x) := hide (hloc.imp id (fun h x hx => by have := h x hx; have := HST.out.1; simp at *; omega))
  obtain ⟨a2, c2, rfl, -, -⟩ := own_shp hown2
  clear hown2 hgrow2 hown hat2 hloc
  go_wp2
  go_ret
  exact ⟨rfl, _, HA.out, HB.out, HS.out, HL.out⟩

end Go.Proofs.YtmjehpigfkobeaaDoor
