/- Rows of numbers as arrays: 301 cells that lie in a block from a place on. The rows of all places of a text: impl.measure, and how far the texts are apart. How far two texts are apart: the program's DistanceOf and EditsOf. How many edits: the model's EditsOf, a row of numbers over the beginnings of both texts. How many bytes are in common: the model's table of all places, and its DistanceOf. -/
import Derived.Test.YtbooongkbninhaaDoorWit1
import Derived.Test.YtbooongkbninhaaDoorLcM
import Derived.Deep.MidRow
import Derived.Deep.WholeRow
import Derived.BigRegion
set_option linter.unusedVariables false
namespace Go.Proofs.YtbooongkbninhaaDoor
open Go.RowKit
open Doc1

/-- A row lies in block g from place o on, and may be written. -/
structure RwAt (w : World) (g o : Nat) (f : Nat → Int) : Prop where
  c : ∀ j, j < 301 → w.cell? ⟨g, o + j, none⟩ = some (.int .i64 (f j))
  z : ∀ j, j < 301 → w.frozen? ⟨g, o + j, none⟩ = false

theorem RwAt.at0 {w : World} {g : Nat} {f : Nat → Int} (h : RwAt w g 0 f) {j : Nat} (hj : j < 301) : w.cell? ⟨g, j, none⟩ = some (.int .i64 (f j)) ∧ w.frozen? ⟨g, j, none⟩ = false := by
  have h1 := h.c j hj
  have h2 := h.z j hj
  rw [Nat.zero_add] at h1 h2
  exact ⟨h1, h2⟩
def rowL (f : Nat → Int) : List Value := (List.range 301).map (fun j => Value.int .i64 (f j))
theorem rowL_len (f : Nat → Int) : (rowL f).length = 301 := by simp [rowL]
theorem rowL_at (f : Nat → Int) (j : Nat) (hj : j < 301) : (rowL f)[j]? = some (.int .i64 (f j)) := by simp [rowL, hj]
theorem rowL_one (f : Nat → Int) : (rowL f).toArray.all (·.oneCell') = true := by
  rw [Array.all_eq_true_iff_forall_mem]
  intro v hv
  simp [rowL] at hv
  obtain ⟨j, _, rfl⟩ := hv
  rfl
theorem rowL_congr {f f' : Nat → Int} (h : ∀ j, j < 301 → f j = f' j) : rowL f = rowL f' := by
  unfold rowL
  apply List.map_congr_left
  intro j hj
  rw [h j (by simpa using hj)]
theorem RwAt.range {w : World} {g o : Nat} {f : Nat → Int} (h : RwAt w g o f) : w.rangeAt g o (rowL f) := by
  intro j v hv
  have hj : j < 301 := by
    by_cases hj : j < 301
    · exact hj
    · rw [List.getElem?_eq_none (by rw [rowL_len]; omega)] at hv; cases hv
  rw [rowL_at f j hj] at hv
  cases hv
  exact h.c j hj
theorem RwAt.there {w : World} {g o : Nat} {f : Nat → Int} (h : RwAt w g o f) (f' : Nat → Int) : w.there g o (rowL f').toArray.size := by
  intro j hj
  have hj : j < 301 := by simpa [rowL_len] using hj
  exact ⟨by rw [h.c j hj]; rfl, h.z j hj⟩
theorem RwAt.congr {w : World} {g o : Nat} {f f' : Nat → Int} (h : RwAt w g o f) (he : ∀ j, j < 301 → f j = f' j) : RwAt w g o f' := ⟨fun j hj => by rw [← he j hj]; exact h.c j hj, h.z⟩
theorem RwAt.later {w w1 : World} {g o : Nat} {f : Nat → Int} (h : RwAt w g o f) (hb : Below w.heap.size w w1) : RwAt w1 g o f := by
  have hlt := block_lt_of_cell (h.c 0 (by omega))
  refine ⟨fun j hj => (World.cell?_of_block (hb.block g hlt)).trans (h.c j hj), fun j hj => ?_⟩
  have := h.z j hj
  unfold World.frozen? at this ⊢
  rw [hb.block g hlt]
  exact this
theorem RwAt.alloc {w : World} {g o : Nat} {f : Nat → Int} (h : RwAt w g o f) (x : Obj) : RwAt (w.alloc x) g o f := h.later ((Below.refl _ _).alloc (Nat.le_refl _) _)
theorem RwAt.lt {w : World} {g o : Nat} {f : Nat → Int} (h : RwAt w g o f) : g < w.heap.size := block_lt_of_cell (h.c 0 (by omega))
/-- One number is written. -/
theorem RwAt.set {w : World} {g o : Nat} {f : Nat → Int} (h : RwAt w g o f) {k j : Nat} (v : Int) (hk : k = o + j) (hj : j < 301) : RwAt (w.setCell ⟨g, k, none⟩ (.int .i64 v)) g o (fun i => if i = j then v else f i) := by
  subst hk
  refine ⟨fun i hi => ?_, fun i hi => by rw [World.frozen?_setCell]; exact h.z i hi⟩
  by_cases he : i = j
  · subst he
    rw [if_pos rfl]
    exact World.cell?_setCell_same _ _ _ (h.c i hi)
  · rw [if_neg he, World.cell?_setCell_other _ _ _ _ (by simp only [ne_eq, Addr.mk.injEq, true_and, and_true]; omega)]
    exact h.c i hi
theorem RwAt.far {w : World} {g o : Nat} {f : Nat → Int} (h : RwAt w g o f) {g' k : Nat} (v : Value) (hg : g' ≠ g) : RwAt (w.setCell ⟨g', k, none⟩ v) g o f :=
  ⟨fun i hi => by rw [World.cell?_setCell_other _ _ _ _ (by simp only [ne_eq, Addr.mk.injEq, not_and]; intro e; exact absurd e hg)]; exact h.c i hi, fun i hi => by rw [World.frozen?_setCell]; exact h.z i hi⟩
/-- A whole row is written. -/
theorem RwAt.put {w : World} {g o : Nat} {f : Nat → Int} (h : RwAt w g o f) (f' : Nat → Int) : RwAt (w.setCells g o (rowL f')) g o f' := by
  refine ⟨fun i hi => ?_, fun i hi => by rw [World.frozen?_setCells]; exact h.z i hi⟩
  have := World.cell?_setCells_in g (rowL f') o w (fun j hj => by rw [h.c j (by simpa [rowL_len] using hj)]; rfl) i (by rw [rowL_len]; exact hi)
  have e : (rowL f')[i]? = some (.int .i64 (f' i)) := rowL_at f' i hi
  rw [List.getElem?_eq_getElem (by rw [rowL_len]; exact hi)] at e
  rw [Option.some.inj e] at this
  simpa using this
theorem RwAt.apart {w : World} {g o : Nat} {f : Nat → Int} (h : RwAt w g o f) {g' o' : Nat} (f' : Nat → Int) (hg : g' = g → o' + 301 ≤ o ∨ o + 301 ≤ o') : RwAt (w.setCells g' o' (rowL f')) g o f := by
  refine ⟨fun i hi => ?_, fun i hi => by rw [World.frozen?_setCells]; exact h.z i hi⟩
  rw [World.cell?_setCells_out g' _ o' w _ (fun e _ => by
    have := hg e.symm
    rw [rowL_len]
    show o + i < o' ∨ o' + 301 ≤ o + i
    omega)]
  exact h.c i hi
theorem size_setCells (g : Nat) : ∀ (vs : List Value) (o : Nat) (w : World), (w.setCells g o vs).heap.size = w.heap.size
  | [], _, _ => rfl
  | v :: r, o, w => by rw [World.setCells, size_setCells g r, World.size_setCell]
theorem Below.setCells {B : Nat} {a : World} {g : Nat} (hg : B ≤ g) : ∀ (vs : List Value) (o : Nat) (w : World), Below B a w → Below B a (w.setCells g o vs)
  | [], _, _, h => h
  | v :: r, o, w, h => Below.setCells hg r (o + 1) _ (h.setCell (p := ⟨g, o, none⟩) hg v)
theorem heap_setCells (g i : Nat) (h : i ≠ g) : ∀ (vs : List Value) (o : Nat) (w : World), (w.setCells g o vs).heap[i]? = w.heap[i]?
  | [], _, _ => rfl
  | v :: r, o, w => by rw [World.setCells, heap_setCells g i h r, heap_setCell_other _ _ _ _ h]
theorem os_setCells (g : Nat) : ∀ (vs : List Value) (o : Nat) (w : World), (w.setCells g o vs).os = w.os ∧ (w.setCells g o vs).tape = w.tape ∧ (w.setCells g o vs).output = w.output
  | [], _, _ => ⟨rfl, rfl, rfl⟩
  | v :: r, o, w => by rw [World.setCells]; exact os_setCells g r (o + 1) _
theorem rg_new {w w1 : World} {g G : Nat} (h : w.grownBy w1 (some g)) (hG : w.heap.size ≤ G) (vs : List Value) (o : Nat) : w.grownBy (w1.setCells G o vs) (some g) :=
  ⟨(os_setCells G vs o w1).1.trans h.os, (os_setCells G vs o w1).2.1.trans h.tape, (os_setCells G vs o w1).2.2.trans h.output, by rw [size_setCells]; exact h.size, fun i hi hr => (heap_setCells G i (by omega) vs o w1).trans (h.block i hi hr)⟩
theorem rg_set {w w1 : World} {g : Nat} (h : w.grownBy w1 (some g)) (j : Nat) (v : Value) : w.grownBy (w1.setCell ⟨g, j, none⟩ v) (some g) :=
  ⟨h.os, h.tape, h.output, by rw [World.size_setCell]; exact h.size, fun i hi hr => (heap_setCell_other _ _ _ _ (fun e => hr (by rw [e]))).trans (h.block i hi hr)⟩
theorem rg_drew {w w1 : World} {r : Option Nat} (h : w.grownBy w1 r) : w.grownBy w1.drew r := ⟨h.os, h.tape, h.output, h.size, h.block⟩
theorem RwAt.drew {w : World} {g o : Nat} {f : Nat → Int} (h : RwAt w g o f) : RwAt w.drew g o f := h.later (Below.refl _ _).drew
theorem RwAt.keep {w : World} {g o : Nat} {f : Nat → Int} (h : RwAt w g o f) {G : Nat} (hg : G ≠ g) (vs : List Value) (o' : Nat) : RwAt (w.setCells G o' vs) g o f :=
  ⟨fun j hj => (World.cell?_of_block (heap_setCells G g (fun e => hg e.symm) vs o' w)).trans (h.c j hj), fun j hj => by rw [World.frozen?_setCells]; exact h.z j hj⟩
theorem row_new (w : World) (t : TypeId) : RwAt (w.alloc (.cells (Array.replicate 301 (.int .i64 0)) t)) w.heap.size 0 (fun _ => 0) := by
  have hh := heap_alloc_new w (.cells (Array.replicate 301 (.int .i64 0)) t)
  refine ⟨fun j hj => ?_, fun j hj => ?_⟩
  · rw [Nat.zero_add, cell_of_row _ _ _ _ _ _ hh]; simp [hj]
  · rw [Nat.zero_add]; exact frozen_of_row _ _ _ _ _ hh
theorem row_info : (Tryd.prog.info? 165).map (fun i => (i.zero, i.size)) = some (some (.agg (Array.replicate 301 (.int .i64 0))), 301) := by kernel_rfl
theorem row_zero (w : World) : (zeroValue 165).run Tryd.prog w = .ok (.agg (Array.replicate 301 (.int .i64 0))) w := (zero_of_info row_info).1 w
theorem row_size : (Tryd.prog.info? 165).map (·.size) = some 301 := (zero_of_info row_info).2
theorem row_und : Tryd.prog.underlying 165 = some (.array 301 3) := by kernel_rfl
theorem RwAt.load {w : World} {g o : Nat} {f : Nat → Int} (h : RwAt w g o f) : (loadVar 165 ⟨g, o, none⟩).run Tryd.prog w = .ok (.agg (rowL f).toArray) w :=
  run_loadVar_mid w g o _ (rowL f) _ h.range row_und rfl (by rw [rowL_len]; exact row_size)
theorem RwAt.store {w : World} {g o : Nat} {f : Nat → Int} (h : RwAt w g o f) (f' : Nat → Int) : (storeVar 165 ⟨g, o, none⟩ (.agg (rowL f').toArray)).run Tryd.prog w = .ok () (w.setCells g o (rowL f')) := by
  simpa using run_storeVar_mid w g o _ _ (h.there f') (by rw [row_size, List.size_toArray, rowL_len]) (rowL_one f')

theorem results_cell_load {P : Program} {fn : Func} {p : Tmp} {ty : TypeId} (h : fn.results = #[.cell p ty]) (tmps : Array Value) (w : World) (g : Nat) (v : Value)
    (hp : tmps.getD p undef = .pointer (some ⟨g, 0, none⟩)) (hl : (loadVar ty ⟨g, 0, none⟩).run P w = .ok v w) : (results fn tmps).run P w = .ok v w := by
  have hp' : tmps[p]?.getD undef = .pointer (some ⟨g, 0, none⟩) := by simpa using hp
  simp [results, h, hp', asAddr, hl]
theorem row_len : Tryd.prog.arrayLen 165 = 301 := by kernel_rfl
theorem row_cut (g n : Nat) (hn : n ≤ 300) (w : World) : (Instr.sliceAt 165 (.pointer (some ⟨g, 0, none⟩)) none (some (.int .i64 ((n : Int) + 1))) none).run Tryd.prog w = .ok (.slice (some ⟨g, 0, none⟩) (n + 1) 301) w := by
  have h := run_sliceAt_array_h (P := Tryd.prog) w 165 ⟨g, 0, none⟩ (by kernel_rfl) .i64 ((n : Int) + 1) (by omega) (by rw [row_len]; omega)
  have he : Tryd.prog.elem 165 = 3 := by kernel_rfl
  have hz : (sizeOf 3).run Tryd.prog w = .ok 1 w := by kernel_rfl
  rw [row_len, he, hz] at h
  rw [h]
  simp only [Result.andThen, slicedAt, Nat.zero_mul, Nat.sub_zero]
  rw [if_neg (by omega), show ((n : Int) + 1).toNat = n + 1 by omega]
  rfl
theorem row_all (g : Nat) (w : World) : (Instr.sliceAt 165 (.pointer (some ⟨g, 0, none⟩)) none none none).run Tryd.prog w = .ok (.slice (some ⟨g, 0, none⟩) 301 301) w := by
  have h := run_sliceAt_array_all (P := Tryd.prog) w 165 ⟨g, 0, none⟩ (by kernel_rfl)
  have he : Tryd.prog.elem 165 = 3 := by kernel_rfl
  have hz : (sizeOf 3).run Tryd.prog w = .ok 1 w := by kernel_rfl
  rw [row_len, he, hz] at h
  rw [h]
  simp only [Result.andThen, slicedAt, Nat.zero_mul, Nat.sub_zero]
  rw [if_neg (by omega)]
  rfl
theorem row_copy {W : World} {g G : Nat} {f : Nat → Int} {n : Nat} (hn : n ≤ 300) (r0 : RwAt W G 0 (fun _ => 0)) (r1 : RwAt W g 0 f) (ty : TypeId) :
    (Builtin.copy_ #[81, 81] ty #[.slice (some ⟨G, 0, none⟩) 301 301, .slice (some ⟨g, 0, none⟩) (n + 1) 301]).run Tryd.prog W = .ok (.int .i64 ((n : Int) + 1)) (W.setCells G 0 ((rowL f).take (n + 1))) := by
  have hln : ((rowL f).take (n + 1)).length = n + 1 := by simp [rowL_len]; omega
  have := run_copy_cells (P := Tryd.prog) W 81 81 ty 3 G 0 301 301 ⟨g, 0, none⟩ (n + 1) 301 ((rowL f).take (n + 1)) Tryd.underlying81 (by kernel_rfl) (by rw [hln]; exact (Nat.min_eq_left (by omega)).symm)
    (fun j v hv => by
      rw [Addr.add_mid]
      refine r1.range j v ?_
      rw [List.getElem?_take] at hv
      split at hv
      · exact hv
      · cases hv)
    (fun j hj => by rw [r0.c j (by omega)]; rfl) (fun j hj => r0.z j (by omega)) (fun v hv => by
      have := Array.all_eq_true_iff_forall_mem.1 (rowL_one f) v (by simpa using List.mem_of_mem_take hv)
      exact this)
  rw [this, hln]
  simp [goInt]

/-- How far apart, behind place j of b; nought beyond its end. -/
def edF (t : Nat) (A B : List UInt8) (j : Nat) : Int := if j ≤ B.length then (ed t A (B.drop j) : Int) else 0
theorem edF_bd (t : Nat) {A B : List UInt8} (hA : A.length ≤ 300) (hB : B.length ≤ 300) (j : Nat) : 0 ≤ edF t A B j ∧ edF t A B j ≤ 600 := by
  unfold edF
  have := ed_most t A (B.drop j)
  rw [List.length_drop] at this
  split <;> omega
theorem edF_end (t : Nat) (B : List UInt8) (j : Nat) : edF t [] B j = if j < B.length then (B.length : Int) - j else 0 := by
  unfold edF
  rw [ed_nl, List.length_drop]
  split <;> split <;> omega

set_option maxRecDepth 100000 in
set_option maxHeartbeats 2000000 in
theorem rowAtEnd_any (t : Nat) (b : ByteArray) (w : World) (hb : b.size ≤ 300) :
    Calls Tryd.prog 109 #[.string b] w fun e w' => e = .returned (.agg (rowL (edF t [] b.data.toList)).toArray) ∧ Below w.heap.size w w' := by
  have hz := row_zero
  go_enter Tryd.func109, Tryd.ntmps109
  go_wp2
  have r0 := (row_new w 165).alloc (.cells (Array.replicate 301 (.int .i64 0)) 165)
  have r1 := row_new (w.alloc (.cells (Array.replicate 301 (.int .i64 0)) 165)) 165
  have hB0 : Below w.heap.size w ((w.alloc (.cells (Array.replicate 301 (.int .i64 0)) 165)).alloc (.cells (Array.replicate 301 (.int .i64 0)) 165)) := ((Below.refl _ _).alloc (Nat.le_refl _) _).alloc (by simp) _
  rw [World.size_alloc] at r1
  obtain ⟨W0, hW0⟩ : ∃ W0, (w.alloc (.cells (Array.replicate 301 (.int .i64 0)) 165)).alloc (.cells (Array.replicate 301 (.int .i64 0)) 165) = W0 := ⟨_, rfl⟩
  rw [hW0] at r0 r1 hB0 ⊢
  clear hW0
  go_loopw [7] (fun a wr => ∃ k : Nat, k ≤ b.size ∧ a = .int .i64 k ∧ Hid (Below w.heap.size w wr ∧ RwAt wr w.heap.size 0 (fun _ => 0) ∧ RwAt wr (w.heap.size + 1) 0 (fun j => if j < k then (b.size : Int) - j else 0))) (fun a _ => b.size - (intOf a).toNat)
  case atStart => exact ⟨0, by omega, rfl, hide ⟨hB0, r0, r1.congr (fun j _ => by simp)⟩⟩
  case round =>
    obtain ⟨k, hk, rfl, HR⟩ := hrel
    by_cases hlt : k < b.size
    · obtain ⟨c1, f1⟩ := HR.out.2.2.at0 (j := k) (by omega)
      rw [if_neg (by omega)] at c1
      go_wp2
      have h2 := HR.out.2.2.set (k := k) (j := k) ((b.size : Int) - k) (by omega) (by omega)
      refine ⟨⟨k + 1, by omega, by go_num, hide ⟨HR.out.1.setCell (p := ⟨w.heap.size + 1, k, none⟩) (by show _ ≤ _ + 1; omega) _, HR.out.2.1.far _ (by omega), h2.congr (fun j _ => ?_)⟩⟩, by simp [intOf]; omega⟩
      by_cases hj : j = k
      · rw [if_pos hj, if_pos (by omega), hj]
      · rw [if_neg hj]
        by_cases hjk : j < k
        · rw [if_pos hjk, if_pos (by omega)]
        · rw [if_neg hjk, if_neg (by omega)]
    · obtain ⟨F, hF⟩ : ∃ F : Nat → Int, (fun j => if j < k then (b.size : Int) - j else 0) = F := ⟨_, rfl⟩
      have HF : Hid (rowL F = rowL (edF t [] b.data.toList)) := hide (by
        rw [← hF]
        refine rowL_congr (fun j _ => ?_)
        rw [edF_end]
        obtain rfl : k = b.size := by omega
        rfl)
      have HR' := HR.out
      rw [hF] at HR'
      clear hF HR
      have HR := hide HR'
      clear HR'
      have hrg := hide HR.out.2.2.range
      have hth := hide (HR.out.2.1.there F)
      have hres := hide (HR.out.2.1.put F)
      have HB := hide (Below.setCells (B := w.heap.size) (Nat.le_refl _) (rowL F) 0 wr HR.out.1)
      have hl := rowL_len F
      go_wp2_with (first | (refine wpList_load_mid (by rfl) 165 _ (by rfl) _ _ (by rfl) (rowL F) _ hrg.out row_und rfl (by rw [hl]; exact row_size) ?_) | (refine wpList_store_mid (by rfl) 165 _ _ (by rfl) _ _ (rowL F).toArray (by rfl) (by rfl) hth.out (by rw [row_size, List.size_toArray, hl]) (rowL_one F) ?_))
      have hld := hres.out.load
      refine bodyPost_ret (v := .agg (rowL F).toArray) ?_ rfl ⟨by rw [HF.out], HB.out⟩
      exact results_cell_load rfl _ _ _ _ rfl hld

/-- The first numbers of a row lie copied in a row of noughts. -/
theorem RwAt.copied {w : World} {g o : Nat} (h : RwAt w g o (fun _ => 0)) (f : Nat → Int) (n : Nat) (hn : n ≤ 301) (h0 : ∀ j, n ≤ j → f j = 0) : RwAt (w.setCells g o ((rowL f).take n)) g o f := by
  refine ⟨fun i hi => ?_, fun i hi => by rw [World.frozen?_setCells]; exact h.z i hi⟩
  by_cases hin : i < n
  · have := World.cell?_setCells_in g ((rowL f).take n) o w (fun j hj => by rw [h.c j (by simp [rowL_len] at hj; omega)]; rfl) i (by simp [rowL_len]; omega)
    have e : (rowL f)[i]? = some (.int .i64 (f i)) := rowL_at f i hi
    rw [List.getElem?_eq_getElem (by rw [rowL_len]; exact hi)] at e
    rw [this, List.getElem_take, Option.some.inj e]
  · rw [World.cell?_setCells_out g _ o w _ (fun _ _ => by
      right
      simp [rowL_len]
      omega), h.c i hi, h0 i (by omega)]
theorem edF_out (t : Nat) (A : List UInt8) (b : ByteArray) {j : Nat} (h : b.size < j) : edF t A b.data.toList j = 0 := by
  unfold edF; rw [if_neg (by simpa using h)]
/-- The row that is half made: beyond place k it is the new one. -/
theorem edF_at (t : Nat) (A : List UInt8) (b : ByteArray) {j : Nat} (h : j ≤ b.size) : edF t A b.data.toList j = (ed t A (b.data.toList.drop j) : Int) := by
  unfold edF; rw [if_pos (by simpa using h)]
def mixF (t : Nat) (c : UInt8) (A B : List UInt8) (k j : Nat) : Int := if k ≤ j then edF t (c :: A) B j else edF t A B j

/-- Where the next number is written the row is made one place further. -/
theorem RwAt.mix {w : World} {g : Nat} {t : Nat} {c : UInt8} {A B : List UInt8} {k : Nat} (h : RwAt w g 0 (mixF t c A B (k + 1))) (hk : k < 301) {v : Int} (hv : v = edF t (c :: A) B k) : RwAt (w.setCell ⟨g, k, none⟩ (.int .i64 v)) g 0 (mixF t c A B k) := by
  refine (h.set (k := k) (j := k) v (by omega) hk).congr (fun j _ => ?_)
  unfold mixF
  by_cases hj : j = k
  · rw [if_pos hj, if_pos (by omega), hv, hj]
  · rw [if_neg hj]
    by_cases h1 : k + 1 ≤ j
    · rw [if_pos h1, if_pos (by omega)]
    · rw [if_neg h1, if_neg (by omega)]
theorem ed_same_at (t : Nat) {c : UInt8} {A : List UInt8} {b : ByteArray} {k : Nat} (hk : k < b.size) (he : c = b[k]) : edF t A b.data.toList (k + 1) = edF t (c :: A) b.data.toList k := by
  rw [edF_at t _ b (by omega), edF_at t _ b (by omega), bdrop_at b k hk, ed_cc, if_pos he]
theorem ed_other_at (t : Nat) {c : UInt8} {A : List UInt8} {b : ByteArray} {k : Nat} (hk : k < b.size) (he : ¬ c = b[k]) :
    edF t (c :: A) b.data.toList k = min (min (edF t A b.data.toList k + 1) (edF t (c :: A) b.data.toList (k + 1) + 1)) (edF t A b.data.toList (k + 1) + t) := by
  rw [edF_at t _ b (by omega), edF_at t _ b (by omega), edF_at t _ b (by omega), edF_at t _ b (by omega), bdrop_at b k hk, ed_cc, if_neg he]
  omega

set_option maxRecDepth 100000 in
set_option maxHeartbeats 4000000 in
theorem stepAhead_any (t : Nat) (c : UInt8) (b : ByteArray) (A : List UInt8) (g : Nat) (w : World) (hr : RwAt w g 0 (edF t A b.data.toList)) (hA : A.length < 300) (hb : b.size ≤ 300) (ht : t ≤ 2) :
    Calls Tryd.prog 110 #[.pointer (some ⟨g, 0, none⟩), .int .u8 (c.toNat : Int), .string b, .int .i64 (t : Int)] w fun e w' => e = .returned (.tuple #[]) ∧ RwAt w' g 0 (edF t (c :: A) b.data.toList) ∧ w.grownBy w' (some g) := by
  have hz := row_zero
  have hgl := hr.lt
  have r0 := row_new w 165
  have r1 := hr.alloc (.cells (Array.replicate 301 (.int .i64 0)) 165)
  have hg0 : w.grownBy (w.alloc (.cells (Array.replicate 301 (.int .i64 0)) 165)) (some g) := World.grownBy_alloc w _ (some g)
  have r0' : RwAt (w.alloc (.cells (Array.replicate 301 (.int .i64 0)) 165)).drew w.heap.size 0 (fun _ => 0) := r0.later (Below.refl _ _).drew
  have r1' : RwAt (w.alloc (.cells (Array.replicate 301 (.int .i64 0)) 165)).drew g 0 (edF t A b.data.toList) := r1.later (Below.refl _ _).drew
  have hcp := row_copy hb r0' r1'
  have hc1 := row_cut g b.size hb
  have hc2 := row_all w.heap.size
  have hwr : IntKind.i64.wrap ((b.size : Int) + 1) = (b.size : Int) + 1 := by rw [IntKind.wrap_i64]; omega
  go_enter Tryd.func110, Tryd.ntmps110
  go_wp2
  go_region
  have q0 := r0'.copied (edF t A b.data.toList) (b.size + 1) (by omega) (fun j hj => edF_out t A b (by omega))
  have q1 := r1'.keep (G := w.heap.size) (by omega) ((rowL (edF t A b.data.toList)).take (b.size + 1)) 0
  have hg1 := rg_new (rg_drew hg0) (Nat.le_refl _) ((rowL (edF t A b.data.toList)).take (b.size + 1)) 0
  obtain ⟨W1, hW1⟩ : ∃ W1, ((w.alloc (.cells (Array.replicate 301 (.int .i64 0)) 165)).drew.setCells w.heap.size 0 ((rowL (edF t A b.data.toList)).take (b.size + 1))) = W1 := ⟨_, rfl⟩
  rw [hW1] at q0 q1 hg1 ⊢
  clear hW1 hcp hc1 hc2 r0' r1' r0 r1 hg0 hr hz
  obtain ⟨c1, f1⟩ := q1.at0 (j := b.size) (by omega)
  have hbd := edF_bd t (A := A) (B := b.data.toList) (by omega) (by simpa using hb)
  have e1 := hbd b.size
  have HN : Hid (edF t (c :: A) b.data.toList b.size = edF t A b.data.toList b.size + 1) := hide (by
    rw [edF_at t _ b (Nat.le_refl _), edF_at t _ b (Nat.le_refl _), drop_end b _ (Nat.le_refl _), ed_nr, ed_nr]
    simp)
  obtain ⟨x1, hx1⟩ : ∃ x1, edF t A b.data.toList b.size = x1 := ⟨_, rfl⟩
  rw [hx1] at c1 e1
  go_wp2
  go_region
  have q2 : RwAt (W1.setCell ⟨g, b.size, none⟩ (.int .i64 (x1 + 1))).drew g 0 (mixF t c A b.data.toList b.size) := by
    refine ((q1.congr (f' := mixF t c A b.data.toList (b.size + 1)) (fun j _ => ?_)).mix (by omega) (by rw [HN.out, hx1])).drew
    unfold mixF
    by_cases hj : b.size + 1 ≤ j
    · rw [if_pos hj, edF_out t _ b (by omega), edF_out t _ b (by omega)]
    · rw [if_neg hj]
  have q3 : RwAt (W1.setCell ⟨g, b.size, none⟩ (.int .i64 (x1 + 1))).drew w.heap.size 0 (edF t A b.data.toList) := (q0.far (g' := g) _ (by omega)).drew
  have hg2 := rg_drew (rg_set hg1 b.size (.int .i64 (x1 + 1)))
  have HQ := hide (And.intro q2 (And.intro q3 hg2))
  clear q2 q3 hg2 q0 q1 hg1 c1 f1 HN hx1 e1
  generalize (W1.setCell ⟨g, b.size, none⟩ (.int .i64 (x1 + 1))).drew = W2 at HQ ⊢
  go_wp2
  go_loopw [9] (fun a wr => ∃ k : Nat, k ≤ b.size ∧ a = .int .i64 ((k : Int) - 1) ∧ Hid (RwAt wr g 0 (mixF t c A b.data.toList k) ∧ RwAt wr w.heap.size 0 (edF t A b.data.toList) ∧ w.grownBy wr (some g))) (fun a _ => (intOf a + 1).toNat)
  case atStart => exact ⟨b.size, Nat.le_refl _, rfl, HQ⟩
  case round =>
    obtain ⟨k, hk, rfl, HR⟩ := hrel
    clear HQ
    cases k with
    | zero =>
      go_wp2
      go_end0
      exact ⟨rfl, HR.out.1.congr (fun j _ => by unfold mixF; rw [if_pos (Nat.zero_le _)]), HR.out.2.2⟩
    | succ k =>
      have hkb : k < b.size := by omega
      obtain ⟨c0, f0⟩ := HR.out.1.at0 (j := k) (by omega)
      obtain ⟨c1, _⟩ := HR.out.1.at0 (j := k + 1) (by omega)
      obtain ⟨d0, _⟩ := HR.out.2.1.at0 (j := k) (by omega)
      obtain ⟨d1, _⟩ := HR.out.2.1.at0 (j := k + 1) (by omega)
      have ek : (((k + 1 : Nat) : Int) - 1) = (k : Int) := by omega
      rw [ek]
      have b1 := hbd k
      have b2 := hbd (k + 1)
      have b3 := edF_bd t (A := c :: A) (B := b.data.toList) (by simp; omega) (by simpa using hb) (k + 1)
      have em : mixF t c A b.data.toList (k + 1) (k + 1) = edF t (c :: A) b.data.toList (k + 1) := by unfold mixF; rw [if_pos (by omega)]
      rw [em] at c1
      by_cases he : c = b[k]
      · have hq : ((c.toNat : Int) == (b[k].toNat : Int)) = true := u8_beq he
        have HV := hide (ed_same_at t (A := A) hkb he)
        clear he em hbd
        obtain ⟨y1, hy1⟩ : ∃ y, edF t A b.data.toList (k + 1) = y := ⟨_, rfl⟩
        rw [hy1] at d1 b2 HV
        clear hy1 b1 b3 c1 d0
        go_wp2
        go_region
        go_wp2
        refine ⟨⟨k, by omega, by go_num, hide ⟨(HR.out.1.mix (by omega) HV.out).drew, (HR.out.2.1.far (g' := g) _ (by omega)).drew, rg_drew (rg_set HR.out.2.2 k _)⟩⟩, by simp [intOf]⟩
      · have hq : ((c.toNat : Int) == (b[k].toNat : Int)) = false := u8_bne he
        have HV := hide (ed_other_at t (A := A) hkb he)
        clear he em hbd
        obtain ⟨y0, hy0⟩ : ∃ y, edF t A b.data.toList k = y := ⟨_, rfl⟩
        obtain ⟨y1, hy1⟩ : ∃ y, edF t A b.data.toList (k + 1) = y := ⟨_, rfl⟩
        obtain ⟨z1, hz1⟩ : ∃ y, edF t (c :: A) b.data.toList (k + 1) = y := ⟨_, rfl⟩
        rw [hy1] at d1 b2 HV
        rw [hy0] at d0 b1 HV
        rw [hz1] at c1 b3 HV
        clear hy1 hy0 hz1
        go_wp2
        go_region
        go_wp2
        refine ⟨⟨k, by omega, by go_num, hide ⟨(HR.out.1.mix (by omega) (by rw [HV.out]; split <;> split <;> omega)).drew, (HR.out.2.1.far (g' := g) _ (by omega)).drew, rg_drew (rg_set HR.out.2.2 k _)⟩⟩, by simp [intOf]⟩
end Go.Proofs.YtbooongkbninhaaDoor

set_option linter.unusedVariables false
namespace Go.Proofs.YtbooongkbninhaaDoor
open Go.RowKit
open Doc1

/-- The rows of all places from k on lie in block G. -/
structure TbAt (w : World) (G t : Nat) (a b : ByteArray) (k : Nat) : Prop where
  z : ∀ i, i ≤ a.size → ∃ f, RwAt w G (i * 301) f
  r : ∀ i, k ≤ i → i ≤ a.size → RwAt w G (i * 301) (edF t (a.data.toList.drop i) b.data.toList)
theorem TbAt.later {w w1 : World} {G t k : Nat} {a b : ByteArray} (h : TbAt w G t a b k) (hb : Below w.heap.size w w1) : TbAt w1 G t a b k :=
  ⟨fun i hi => by obtain ⟨f, hf⟩ := h.z i hi; exact ⟨f, hf.later hb⟩, fun i h1 h2 => (h.r i h1 h2).later hb⟩
theorem TbAt.lt {w : World} {G t k : Nat} {a b : ByteArray} (h : TbAt w G t a b k) : G < w.heap.size := by obtain ⟨f, hf⟩ := h.z 0 (Nat.zero_le _); exact hf.lt
theorem RwAt.grown {w w1 : World} {g o g' : Nat} {f : Nat → Int} (h : RwAt w g o f) (hg : w.grownBy w1 (some g')) (hne : g' ≠ g) : RwAt w1 g o f := by
  have hlt := h.lt
  have he := hg.block g hlt (fun e => hne (Option.some.inj e).symm)
  refine ⟨fun j hj => (World.cell?_of_block he).trans (h.c j hj), fun j hj => ?_⟩
  have := h.z j hj
  unfold World.frozen? at this ⊢
  rw [he]
  exact this
theorem TbAt.grown {w w1 : World} {G t k g' : Nat} {a b : ByteArray} (h : TbAt w G t a b k) (hg : w.grownBy w1 (some g')) (hne : g' ≠ G) : TbAt w1 G t a b k :=
  ⟨fun i hi => by obtain ⟨f, hf⟩ := h.z i hi; exact ⟨f, hf.grown hg hne⟩, fun i h1 h2 => (h.r i h1 h2).grown hg hne⟩
/-- The row of the place ahead is laid in. -/
theorem TbAt.put {w : World} {G t k : Nat} {a b : ByteArray} (h : TbAt w G t a b (k + 1)) (hk : k ≤ a.size) : TbAt (w.setCells G (k * 301) (rowL (edF t (a.data.toList.drop k) b.data.toList))) G t a b k := by
  obtain ⟨f, hf⟩ := h.z k hk
  refine ⟨fun i hi => ?_, fun i h1 h2 => ?_⟩
  · by_cases he : i = k
    · subst he; exact ⟨_, hf.put _⟩
    · obtain ⟨f', hf'⟩ := h.z i hi
      exact ⟨f', hf'.apart _ (fun _ => by omega)⟩
  · by_cases he : i = k
    · subst he; exact hf.put _
    · exact (h.r i (by omega) h2).apart _ (fun _ => by omega)
theorem rg_refl (w : World) (r : Option Nat) : w.grownBy w r := ⟨rfl, rfl, rfl, Nat.le_refl _, fun _ _ _ => rfl⟩
theorem rg_cells (w : World) (g o : Nat) (vs : List Value) : w.grownBy (w.setCells g o vs) (some g) :=
  ⟨(os_setCells g vs o w).1, (os_setCells g vs o w).2.1, (os_setCells g vs o w).2.2, by rw [size_setCells]; exact Nat.le_refl _, fun i hi hr => heap_setCells g i (fun e => hr (by rw [e])) vs o w⟩
theorem row_bytes : (Tryd.prog.info? 165).map (fun i => (i.zero, i.size, i.bytes)) = some (some (.agg (Array.replicate 301 (.int .i64 0))), 301, 2408) := by kernel_rfl
/-- New rows are noughts. -/
theorem rows_made (n : Nat) (hn : n ≤ 301) (w : World) (k : IntKind) : (Instr.makeSlice 127 (.int k (n : Int)) (.int k (n : Int))).run Tryd.prog w = .ok (.slice (some ⟨w.heap.size, 0, none⟩) n n) (w.alloc (.cells (madeCells (Array.replicate 301 (.int .i64 0)) (n * 301)) 165)) := by
  have hi := row_bytes
  cases hq : Tryd.prog.info? 165 with
  | none => rw [hq] at hi; cases hi
  | some i =>
    rw [hq] at hi
    simp only [Option.map_some, Option.some.injEq, Prod.mk.injEq] at hi
    have := run_make (P := Tryd.prog) w 127 165 i _ (by kernel_rfl) hq hi.1 k k (n : Int) (n : Int) (by omega) (Int.le_refl _) (by rw [hi.2.2]; omega) (by omega)
    rw [this]
    simp only [Int.toNat_natCast, hi.2.1]
    rfl
theorem rows_new (n : Nat) (w : World) (t : TypeId) (i : Nat) (hi : i < n) : RwAt (w.alloc (.cells (madeCells (Array.replicate 301 (.int .i64 0)) (n * 301)) t)) w.heap.size (i * 301) (fun _ => 0) := by
  have hh := heap_alloc_new w (.cells (madeCells (Array.replicate 301 (.int .i64 0)) (n * 301)) t)
  refine ⟨fun j hj => ?_, fun j hj => frozen_of_row _ _ _ _ _ hh⟩
  rw [cell_of_row _ _ _ _ _ _ hh]
  have hlt : i * 301 + j < n * 301 := by
    have : (i + 1) * 301 ≤ n * 301 := Nat.mul_le_mul_right _ hi
    omega
  unfold madeCells
  rw [Array.getElem?_map, Array.getElem?_range, if_pos hlt]
  simp only [Option.map_some, Array.size_replicate, Option.some.injEq]
  rw [getElem!_pos _ _ (by rw [Array.size_replicate]; exact Nat.mod_lt _ (by omega)), Array.getElem_replicate]

set_option maxRecDepth 100000 in
set_option maxHeartbeats 4000000 in
theorem measure_good (t : Nat) (a b : ByteArray) (w : World) (hT : Tab w) (h1 : good a.data.toList = true) (h2 : good b.data.toList = true) (ha : a.size ≤ 300) (hb : b.size ≤ 300) (ht : t ≤ 2) :
    Calls Tryd.prog 91 #[.string a, .string b, .int .i64 (t : Int)] w fun e w' => ∃ G, e = .returned (.tuple #[.agg #[.string a, .string b, .slice (some ⟨G, 0, none⟩) (a.size + 1) (a.size + 1)], .bool true]) ∧ w.heap.size ≤ G ∧ TbAt w' G t a b 0 ∧ Below w.heap.size w w' := by
  have H1 : ∀ w1, Below w.heap.size w w1 → Calls Tryd.prog 45 #[.string a] w1 fun e w' => e = .returned (.bool true) ∧ w' = w1 := fun w1 hb1 => by
    have := goodTextI_any a w1 (by omega) (hT.below hb1)
    rw [h1] at this
    exact this
  have H2 : ∀ w1, Below w.heap.size w w1 → Calls Tryd.prog 45 #[.string b] w1 fun e w' => e = .returned (.bool true) ∧ w' = w1 := fun w1 hb1 => by
    have := goodTextI_any b w1 (by omega) (hT.below hb1)
    rw [h2] at this
    exact this
  replace H1 := hide H1
  replace H2 := hide H2
  clear h1 h2 hT
  go_enter Tryd.func91, Tryd.ntmps91
  go_wp2_with fail
  refine (H1.out _ ((Below.refl _ _).alloc (Nat.le_refl _) _)).mono ?_
  rintro e w' ⟨rfl, hw⟩
  subst hw
  go_wp2_with fail
  refine (H2.out _ ((Below.refl _ _).alloc (Nat.le_refl _) _)).mono ?_
  rintro e w' ⟨rfl, hw⟩
  subst hw
  have hB1 : Below w.heap.size w (w.alloc (.cells #[.string ⟨#[]⟩, .string ⟨#[]⟩, .slice none 0 0] 129)) := (Below.refl _ _).alloc (Nat.le_refl _) _
  have hm1 := heap_alloc_new w (.cells #[.string ⟨#[]⟩, .string ⟨#[]⟩, .slice none 0 0] 129)
  have hs1 : (w.alloc (.cells #[.string ⟨#[]⟩, .string ⟨#[]⟩, .slice none 0 0] 129)).heap.size = w.heap.size + 1 := by simp
  obtain ⟨w1, hw1⟩ : ∃ w1, w.alloc (.cells #[.string ⟨#[]⟩, .string ⟨#[]⟩, .slice none 0 0] 129) = w1 := ⟨_, rfl⟩
  rw [hw1] at hB1 hm1 hs1 ⊢
  clear hw1 H1 H2
  have hmk := rows_made (a.size + 1) (by omega) w1 .i64
  have ecast : ((a.size + 1 : Nat) : Int) = (a.size : Int) + 1 := by omega
  rw [ecast] at hmk
  have RE := hide (fun w2 => rowAtEnd_any t b w2 hb)
  have hwr : IntKind.i64.wrap ((a.size : Int) + 1) = (a.size : Int) + 1 := by rw [IntKind.wrap_i64]; omega
  go_wp2_with fail
  have hT0 : TbAt (w1.alloc (.cells (madeCells (Array.replicate 301 (.int .i64 0)) ((a.size + 1) * 301)) 165)) (w.heap.size + 1) t a b (a.size + 1) := by
    rw [← hs1]
    exact ⟨fun i hi => ⟨_, rows_new (a.size + 1) w1 _ i (by omega)⟩, fun i h1 h2 => absurd h1 (by omega)⟩
  have hB2 := hB1.alloc hB1.size (.cells (madeCells (Array.replicate 301 (.int .i64 0)) ((a.size + 1) * 301)) 165)
  have hm2 := (((Below.refl w1.heap.size w1).alloc (Nat.le_refl _) (.cells (madeCells (Array.replicate 301 (.int .i64 0)) ((a.size + 1) * 301)) 165)).block w.heap.size (by omega)).trans hm1
  have hs2 : (w1.alloc (.cells (madeCells (Array.replicate 301 (.int .i64 0)) ((a.size + 1) * 301)) 165)).heap.size = w.heap.size + 2 := by simp [hs1]
  clear hmk hB1 hm1
  generalize w1.alloc (.cells (madeCells (Array.replicate 301 (.int .i64 0)) ((a.size + 1) * 301)) 165) = w2 at *
  refine (RE.out w2).mono ?_
  rintro e w3 ⟨rfl, hb3⟩
  have hT3 := hT0.later hb3
  have hB3 := hB2.trans (hb3.mono hB2.size)
  have hm3 := (hb3.block w.heap.size (by omega)).trans hm2
  have hs3 := hb3.size
  rw [hs2] at hs3
  clear hT0 hB2 hm2 hb3 hs2 hs1 RE
  obtain ⟨F, hF⟩ : ∃ F, edF t [] b.data.toList = F := ⟨_, rfl⟩
  have HF : Hid (edF t (a.data.toList.drop a.size) b.data.toList = F) := hide (by rw [drop_end a _ (Nat.le_refl _)]; exact hF)
  rw [hF]
  have hz := row_zero
  have r0 := row_new w3 165
  have r1 := r0.put F
  have hl := rowL_len F
  obtain ⟨f9, hf9⟩ := hT3.z a.size (Nat.le_refl _)
  have r2 := (hf9.alloc (.cells (Array.replicate 301 (.int .i64 0)) 165)).keep (G := w3.heap.size) (by omega) (rowL F) 0
  have hth1 := hide (r0.there F)
  have hrg1 := hide r1.range
  have hth2 := hide (r2.there F)
  have hRow := hide (r1.apart (g' := w.heap.size + 1) (o' := a.size * 301) F (fun e => absurd e (by omega)))
  have hTab := hide (by
    have := ((hT3.later ((Below.refl _ _).alloc (Nat.le_refl _) (.cells (Array.replicate 301 (.int .i64 0)) 165))).grown (rg_cells _ w3.heap.size 0 (rowL F)) (by omega))
    exact this)
  have HQ : Hid (RwAt ((((w3.alloc (.cells (Array.replicate 301 (.int .i64 0)) 165)).setCells w3.heap.size 0 (rowL F))).setCells (w.heap.size + 1) (a.size * 301) (rowL F)) w3.heap.size 0 (edF t (a.data.toList.drop a.size) b.data.toList) ∧ TbAt ((((w3.alloc (.cells (Array.replicate 301 (.int .i64 0)) 165)).setCells w3.heap.size 0 (rowL F))).setCells (w.heap.size + 1) (a.size * 301) (rowL F)) (w.heap.size + 1) t a b a.size ∧ Below w.heap.size w ((((w3.alloc (.cells (Array.replicate 301 (.int .i64 0)) 165)).setCells w3.heap.size 0 (rowL F))).setCells (w.heap.size + 1) (a.size * 301) (rowL F)) ∧ ((((w3.alloc (.cells (Array.replicate 301 (.int .i64 0)) 165)).setCells w3.heap.size 0 (rowL F))).setCells (w.heap.size + 1) (a.size * 301) (rowL F)).heap[w.heap.size]? = some (.cells #[.string ⟨#[]⟩, .string ⟨#[]⟩, .slice none 0 0] 129)) := hide (by
    rw [HF.out]
    refine ⟨hRow.out, ?_, Below.setCells (by omega) _ _ _ (Below.setCells (by omega) _ _ _ (hB3.alloc hB3.size _)), ?_⟩
    · have := hTab.out.put (k := a.size) (Nat.le_refl _)
      rwa [HF.out] at this
    · rw [heap_setCells _ _ (by omega), heap_setCells _ _ (by omega), ((Below.refl w3.heap.size w3).alloc (Nat.le_refl _) _).block w.heap.size (by omega)]
      exact hm3)
  clear r0 r1 r2 hf9 hRow hTab hB3 hm3 hT3 HF hF
  have hone := rowL_one F
  obtain ⟨R, hR⟩ : ∃ R, rowL F = R := ⟨_, rfl⟩
  rw [hR] at hth1 hrg1 hth2 hl hone HQ ⊢
  clear hR
  go_wp2_with (first | (refine wpList_store_mid (by rfl) 165 _ _ (by rfl) _ _ R.toArray (by rfl) (by rfl) hth1.out (by rw [row_size, List.size_toArray, hl]) hone ?_) | (refine wpList_load_mid (by rfl) 165 _ (by rfl) _ _ (by rfl) R _ hrg1.out row_und rfl (by rw [hl]; exact row_size) ?_) | (refine wpList_store_mid (by rfl) 165 _ _ (by rfl) _ _ R.toArray (by rfl) (by rfl) hth2.out (by rw [row_size, List.size_toArray, hl]) hone ?_))
  clear hth1 hrg1 hth2
  generalize (((w3.alloc (.cells (Array.replicate 301 (.int .i64 0)) 165)).setCells w3.heap.size 0 R)).setCells (w.heap.size + 1) (a.size * 301) R = W4 at HQ ⊢
  clear hl hone
  go_loopw [10] (fun x wr => ∃ k : Nat, k ≤ a.size ∧ x = .int .i64 ((k : Int) - 1) ∧ Hid (RwAt wr w3.heap.size 0 (edF t (a.data.toList.drop k) b.data.toList) ∧ TbAt wr (w.heap.size + 1) t a b k ∧ Below w.heap.size w wr ∧ wr.heap[w.heap.size]? = some (.cells #[.string ⟨#[]⟩, .string ⟨#[]⟩, .slice none 0 0] 129))) (fun x _ => (intOf x + 1).toNat)
  case atStart => exact ⟨a.size, Nat.le_refl _, rfl, HQ⟩
  case round =>
    obtain ⟨k, hk, rfl, HR⟩ := hrel
    clear HQ
    cases k with
    | zero =>
      have hm := HR.out.2.2.2
      have c0 := cell_of_row wr w.heap.size 0 _ _ _ hm
      have c1 := cell_of_row wr w.heap.size 1 _ _ _ hm
      have c2 := cell_of_row wr w.heap.size 2 _ _ _ hm
      have f0 := frozen_of_row wr w.heap.size 0 _ _ hm
      have f1 := frozen_of_row wr w.heap.size 1 _ _ hm
      have f2 := frozen_of_row wr w.heap.size 2 _ _ hm
      simp only [List.getElem?_toArray, List.getElem?_cons_zero, List.getElem?_cons_succ] at c0 c1 c2
      have hm3 := heap_setCell_same _ w.heap.size 2 _ _ (.slice (some ⟨w.heap.size + 1, 0, none⟩) (a.size + 1) (a.size + 1)) (heap_setCell_same _ w.heap.size 1 _ _ (.string b) (heap_setCell_same wr w.heap.size 0 _ _ (.string a) hm))
      have hld := hide (run_loadVar_row (P := Tryd.prog) _ w.heap.size _ 129 _ _ _ hm3 Tryd.underlying129 rfl (by kernel_rfl))
      have hts : TbAt (((wr.setCell ⟨w.heap.size, 0, none⟩ (.string a)).setCell ⟨w.heap.size, 1, none⟩ (.string b)).setCell ⟨w.heap.size, 2, none⟩ (.slice (some ⟨w.heap.size + 1, 0, none⟩) (a.size + 1) (a.size + 1))) (w.heap.size + 1) t a b 0 := HR.out.2.1.grown (rg_set (rg_set (rg_set (rg_refl _ _) _ _) _ _) _ _) (by omega)
      have hbs : Below w.heap.size w (((wr.setCell ⟨w.heap.size, 0, none⟩ (.string a)).setCell ⟨w.heap.size, 1, none⟩ (.string b)).setCell ⟨w.heap.size, 2, none⟩ (.slice (some ⟨w.heap.size + 1, 0, none⟩) (a.size + 1) (a.size + 1))) := HR.out.2.2.1.grown (rg_set (rg_set (rg_set (rg_refl _ _) _ _) _ _) _ _) HR.out.2.2.1.size (fun b e => by cases e; exact Nat.le_refl _)
      have HE := hide (And.intro hts hbs)
      clear hm hm3 hts hbs
      go_wp2
      refine bodyPost_ret (v := .tuple #[.agg #[.string a, .string b, .slice (some ⟨w.heap.size + 1, 0, none⟩) (a.size + 1) (a.size + 1)], .bool true]) ?_ rfl ⟨w.heap.size + 1, rfl, by omega, HE.out.1, HE.out.2⟩
      have hld' := hld.out
      rw [results_cell_tmp rfl]
      simp [asAddr, Result.andThen, hld']
    | succ k =>
      have hkb : k < a.size := by omega
      have ek : (((k + 1 : Nat) : Int) - 1) = (k : Int) := by omega
      rw [ek]
      have SA := hide (stepAhead_any t a[k] b (a.data.toList.drop (k + 1)) w3.heap.size wr HR.out.1 (by rw [List.length_drop]; simp; omega) hb ht)
      rw [← bdrop_at a k hkb] at SA
      go_wp2_with fail
      refine SA.out.mono ?_
      rintro e w5 ⟨rfl, hr5, hg5⟩
      have hs5 := HR.out.2.2.1.size
      have hT5 := HR.out.2.1.grown hg5 (by omega)
      have hB5 : Below w.heap.size w w5 := HR.out.2.2.1.grown hg5 HR.out.2.2.1.size (fun b e => by cases e; omega)
      have hm5 := (hg5.block w.heap.size (by have := World.block_lt_of_cell? wr _ (HR.out.1.c 0 (by omega)); have : w3.heap.size < wr.heap.size := this; omega) (by intro e; have := Option.some.inj e; omega)).trans HR.out.2.2.2
      clear SA HR hg5
      obtain ⟨F, hF⟩ : ∃ F, edF t (a.data.toList.drop k) b.data.toList = F := ⟨_, rfl⟩
      obtain ⟨f9, hf9⟩ := hT5.z k (by omega)
      rw [hF] at hr5
      have hth2 := hide (hf9.there F)
      have hrg1 := hide hr5.range
      have HQ : Hid (RwAt (w5.setCells (w.heap.size + 1) (k * 301) (rowL F)) w3.heap.size 0 F ∧ TbAt (w5.setCells (w.heap.size + 1) (k * 301) (rowL F)) (w.heap.size + 1) t a b k ∧ Below w.heap.size w (w5.setCells (w.heap.size + 1) (k * 301) (rowL F)) ∧ (w5.setCells (w.heap.size + 1) (k * 301) (rowL F)).heap[w.heap.size]? = some (.cells #[.string ⟨#[]⟩, .string ⟨#[]⟩, .slice none 0 0] 129)) := hide (by
        refine ⟨hr5.apart F (fun e => absurd e (by omega)), ?_, Below.setCells (by omega) _ _ _ hB5, ?_⟩
        · have := hT5.put (k := k) (by omega)
          rwa [hF] at this
        · rw [heap_setCells _ _ (by omega)]; exact hm5)
      rw [← hF] at HQ
      have hl := rowL_len F
      have hone := rowL_one F
      rw [hF] at HQ
      have HE := hide hF
      clear hF hf9 hr5 hT5 hB5 hm5
      obtain ⟨R, hR⟩ : ∃ R, rowL F = R := ⟨_, rfl⟩
      rw [hR] at hrg1 hth2 hl hone HQ
      clear hR
      go_wp2_with (first | (refine wpList_load_mid (by rfl) 165 _ (by rfl) _ _ (by rfl) R _ hrg1.out row_und rfl (by rw [hl]; exact row_size) ?_) | (refine wpList_store_mid (by rfl) 165 _ _ (by rfl) _ _ R.toArray (by rfl) (by rfl) hth2.out (by rw [row_size, List.size_toArray, hl]) hone ?_))
      refine ⟨⟨k, by omega, rfl, hide ?_⟩, by simp [intOf]⟩
      rw [HE.out]
      exact HQ.out

set_option maxRecDepth 100000 in
set_option maxHeartbeats 2000000 in
theorem measure_bad (t : Nat) (a b : ByteArray) (w : World) (hT : Tab w) (ha : a.size ≤ 1048576) (hb : b.size ≤ 1048576) (h : (good a.data.toList && good b.data.toList) = false) :
    Calls Tryd.prog 91 #[.string a, .string b, .int .i64 (t : Int)] w fun e w' => e = .returned (.tuple #[.agg #[.string ⟨#[]⟩, .string ⟨#[]⟩, .slice none 0 0], .bool false]) ∧ Below w.heap.size w w' := by
  have H1 : ∀ w1, Below w.heap.size w w1 → Calls Tryd.prog 45 #[.string a] w1 fun e w' => e = .returned (.bool (good a.data.toList)) ∧ w' = w1 := fun w1 hb1 => goodTextI_any a w1 ha (hT.below hb1)
  have H2 : ∀ w1, Below w.heap.size w w1 → Calls Tryd.prog 45 #[.string b] w1 fun e w' => e = .returned (.bool (good b.data.toList)) ∧ w' = w1 := fun w1 hb1 => goodTextI_any b w1 hb (hT.below hb1)
  obtain ⟨x, hx⟩ : ∃ x, good a.data.toList = x := ⟨_, rfl⟩
  obtain ⟨y, hy⟩ : ∃ y, good b.data.toList = y := ⟨_, rfl⟩
  rw [hx] at H1 h
  rw [hy] at H2 h
  replace H1 := hide H1
  replace H2 := hide H2
  have hB1 : Below w.heap.size w (w.alloc (.cells #[.string ⟨#[]⟩, .string ⟨#[]⟩, .slice none 0 0] 129)) := (Below.refl _ _).alloc (Nat.le_refl _) _
  have hm1 := heap_alloc_new w (.cells #[.string ⟨#[]⟩, .string ⟨#[]⟩, .slice none 0 0] 129)
  have hld := hide (run_loadVar_row (P := Tryd.prog) _ w.heap.size _ 129 _ _ _ hm1 Tryd.underlying129 rfl (by kernel_rfl))
  have hbs := hide hB1
  clear hx hy hT hm1
  cases x
  · go_enter Tryd.func91, Tryd.ntmps91
    go_wp2_with fail
    refine (H1.out _ hB1).mono ?_
    rintro e w' ⟨rfl, hw⟩
    subst hw
    clear hB1
    go_wp2
    refine bodyPost_ret (v := .tuple #[.agg #[.string ⟨#[]⟩, .string ⟨#[]⟩, .slice none 0 0], .bool false]) ?_ rfl ⟨rfl, hbs.out⟩
    have hld' := hld.out
    rw [results_cell_tmp rfl]
    simp [asAddr, Result.andThen, hld']
  · simp at h
    subst h
    go_enter Tryd.func91, Tryd.ntmps91
    go_wp2_with fail
    refine (H1.out _ hB1).mono ?_
    rintro e w' ⟨rfl, hw⟩
    subst hw
    go_wp2_with fail
    refine (H2.out _ hB1).mono ?_
    rintro e w' ⟨rfl, hw⟩
    subst hw
    clear hB1
    go_wp2
    refine bodyPost_ret (v := .tuple #[.agg #[.string ⟨#[]⟩, .string ⟨#[]⟩, .slice none 0 0], .bool false]) ?_ rfl ⟨rfl, hbs.out⟩
    have hld' := hld.out
    rw [results_cell_tmp rfl]
    simp [asAddr, Result.andThen, hld']
end Go.Proofs.YtbooongkbninhaaDoor

set_option linter.unusedVariables false
namespace Go.Proofs.YtbooongkbninhaaDoor
open Go.RowKit
open Doc1

/-- What DistanceOf and EditsOf answer. -/
def edA (t : Nat) (a b : List UInt8) : Int := if good a && good b then (ed t a b : Int) else 0
theorem good_len' {s : ByteArray} (h : good s.data.toList = true) : s.size ≤ 300 := by
  unfold good at h
  simp only [Bool.and_eq_true, decide_eq_true_eq] at h
  simpa using h.2
theorem edF_0 (t : Nat) (a b : List UInt8) : edF t a b 0 = (ed t a b : Int) := by unfold edF; rw [if_pos (Nat.zero_le _)]; rfl

end Go.Proofs.YtbooongkbninhaaDoor

set_option linter.unusedVariables false
namespace Go.Proofs.YtbooongkbninhaaDoor
open Go.RowKit
open Doc1

/-- A row of n numbers lies in block g, and may be written. -/
structure RnAt (w : World) (g n : Nat) (f : Nat → Int) : Prop where
  c : ∀ j, j < n → w.cell? ⟨g, j, none⟩ = some (.int .i64 (f j))
  z : ∀ j, j < n → w.frozen? ⟨g, j, none⟩ = false
  l : g < w.heap.size
theorem RnAt.congr {w : World} {g n : Nat} {f f' : Nat → Int} (h : RnAt w g n f) (he : ∀ j, j < n → f j = f' j) : RnAt w g n f' := ⟨fun j hj => by rw [← he j hj]; exact h.c j hj, h.z, h.l⟩
theorem RnAt.set {w : World} {g n : Nat} {f : Nat → Int} (h : RnAt w g n f) {j : Nat} (v : Int) (hj : j < n) : RnAt (w.setCell ⟨g, j, none⟩ (.int .i64 v)) g n (fun i => if i = j then v else f i) := by
  refine ⟨fun i hi => ?_, fun i hi => by rw [World.frozen?_setCell]; exact h.z i hi, by rw [World.size_setCell]; exact h.l⟩
  by_cases he : i = j
  · subst he
    rw [if_pos rfl]
    exact World.cell?_setCell_same _ _ _ (h.c i hi)
  · rw [if_neg he, World.cell?_setCell_other _ _ _ _ (by simp only [ne_eq, Addr.mk.injEq, true_and, and_true]; omega)]
    exact h.c i hi
theorem RnAt.later {w w1 : World} {g n : Nat} {f : Nat → Int} (h : RnAt w g n f) (hb : Below w.heap.size w w1) : RnAt w1 g n f := by
  refine ⟨fun j hj => (World.cell?_of_block (hb.block g h.l)).trans (h.c j hj), fun j hj => ?_, Nat.lt_of_lt_of_le h.l hb.size⟩
  have := h.z j hj
  unfold World.frozen? at this ⊢
  rw [hb.block g h.l]
  exact this
theorem RnAt.drew {w : World} {g n : Nat} {f : Nat → Int} (h : RnAt w g n f) : RnAt w.drew g n f := h.later (Below.refl _ _).drew
theorem RnAt.drewN {w : World} {g n : Nat} {f : Nat → Int} (h : RnAt w g n f) (k : Nat) : RnAt (w.drewN k) g n f := h.later (below_dN (Below.refl _ _) k)
theorem RnAt.grown {w w1 : World} {g g' n : Nat} {f : Nat → Int} (h : RnAt w g n f) (hg : w.grownBy w1 (some g')) (hne : g' ≠ g) : RnAt w1 g n f := by
  have he := hg.block g h.l (fun e => hne (Option.some.inj e).symm)
  refine ⟨fun j hj => (World.cell?_of_block he).trans (h.c j hj), fun j hj => ?_, Nat.lt_of_lt_of_le h.l hg.size⟩
  have := h.z j hj
  unfold World.frozen? at this ⊢
  rw [he]
  exact this
theorem int_bytes : (Tryd.prog.info? 3).map (fun i => (i.zero, i.size, i.bytes)) = some (some (.int .i64 0), 1, 8) := by kernel_rfl
theorem ints_made (n : Nat) (hn : n ≤ 1000000) (w : World) (k : IntKind) : (Instr.makeSlice 81 (.int k (n : Int)) (.int k (n : Int))).run Tryd.prog w = .ok (.slice (some ⟨w.heap.size, 0, none⟩) n n) (w.alloc (.cells (madeCells #[.int .i64 0] n) 3)) := by
  have hi := int_bytes
  cases hq : Tryd.prog.info? 3 with
  | none => rw [hq] at hi; cases hi
  | some i =>
    rw [hq] at hi
    simp only [Option.map_some, Option.some.injEq, Prod.mk.injEq] at hi
    have := run_make (P := Tryd.prog) w 81 3 i _ (by kernel_rfl) hq hi.1 k k (n : Int) (n : Int) (by omega) (Int.le_refl _) (by rw [hi.2.2]; omega) (by omega)
    rw [this]
    simp only [Int.toNat_natCast, hi.2.1, Nat.mul_one]
    rfl
theorem ints_new (n : Nat) (w : World) (t : TypeId) : RnAt (w.alloc (.cells (madeCells #[.int .i64 0] n) t)) w.heap.size n (fun _ => 0) := by
  have hh := heap_alloc_new w (.cells (madeCells #[.int .i64 0] n) t)
  refine ⟨fun j hj => ?_, fun j hj => frozen_of_row _ _ _ _ _ hh, by simp⟩
  rw [cell_of_row _ _ _ _ _ _ hh]
  unfold madeCells
  rw [Array.getElem?_map, Array.getElem?_range, if_pos hj]
  simp [Nat.mod_one]

/-- How many edits between the beginnings. -/
def pF (a b : List UInt8) (p q : Nat) : Int := (ed 1 (a.take p) (b.take q) : Int)
def pM (a b : List UInt8) (p q j : Nat) : Int := if j ≤ q then pF a b (p + 1) j else pF a b p j
theorem pF_bd {a b : List UInt8} (ha : a.length ≤ 300) (hb : b.length ≤ 300) (p q : Nat) : 0 ≤ pF a b p q ∧ pF a b p q ≤ 600 := by
  unfold pF
  have := ed_most 1 (a.take p) (b.take q)
  rw [List.length_take, List.length_take] at this
  omega
theorem pF_p0 (a b : List UInt8) {p : Nat} (hp : p ≤ a.length) : pF a b p 0 = p := by
  unfold pF; rw [List.take_zero, ed_nr, List.length_take]; omega
theorem pF_0q (a b : List UInt8) {q : Nat} (hq : q ≤ b.length) : pF a b 0 q = q := by
  unfold pF; rw [List.take_zero, ed_nl, List.length_take]; omega
theorem take_at (s : ByteArray) (k : Nat) (h : k < s.size) : s.data.toList.take (k + 1) = s.data.toList.take k ++ [s[k]] := by
  rw [List.take_succ_eq_append_getElem (by simpa using h)]
  rfl
theorem pF_step {a b : ByteArray} {p q : Nat} (hp : p < a.size) (hq : q < b.size) : pF a.data.toList b.data.toList (p + 1) (q + 1) = min (pF a.data.toList b.data.toList p q + if a[p] = b[q] then 0 else 1) (min (pF a.data.toList b.data.toList p (q + 1) + 1) (pF a.data.toList b.data.toList (p + 1) q + 1)) := by
  unfold pF
  rw [take_at a p hp, take_at b q hq, ed_last]
  split <;> omega
theorem RnAt.row {w : World} {g n : Nat} {a b : List UInt8} {p q : Nat} (h : RnAt w g n (pM a b p q)) (hq : q + 1 < n) {v : Int} (hv : v = pF a b (p + 1) (q + 1)) : RnAt (w.setCell ⟨g, q + 1, none⟩ (.int .i64 v)) g n (pM a b p (q + 1)) := by
  refine (h.set (j := q + 1) v hq).congr (fun j _ => ?_)
  unfold pM
  by_cases hj : j = q + 1
  · rw [if_pos hj, if_pos (by omega), hv, hj]
  · rw [if_neg hj]
    by_cases h1 : j ≤ q
    · rw [if_pos h1, if_pos (by omega)]
    · rw [if_neg h1, if_neg (by omega)]

end Go.Proofs.YtbooongkbninhaaDoor

set_option linter.unusedVariables false
namespace Go.Proofs.YtbooongkbninhaaDoor
open Go.RowKit
open Doc1

/-- A table of n + 1 rows of m + 1 numbers: its rows lie one behind the other above block B. -/
structure LtAt (w : World) (B n m : Nat) (F : Nat → Nat → Int) : Prop where
  c : ∀ i, i ≤ n → w.cell? ⟨B, i, none⟩ = some (.slice (some ⟨B + 1 + i, 0, none⟩) (m + 1) (m + 1))
  r : ∀ i, i ≤ n → RnAt w (B + 1 + i) (m + 1) (F i)
theorem LtAt.congr {w : World} {B n m : Nat} {F F' : Nat → Nat → Int} (h : LtAt w B n m F) (he : ∀ i, i ≤ n → ∀ k, k ≤ m → F i k = F' i k) : LtAt w B n m F' :=
  ⟨h.c, fun i hi => (h.r i hi).congr (fun k hk => he i hi k (by omega))⟩
theorem LtAt.lt {w : World} {B n m : Nat} {F : Nat → Nat → Int} (h : LtAt w B n m F) : B < w.heap.size := block_lt_of_cell (h.c 0 (Nat.zero_le _))
theorem LtAt.later {w w1 : World} {B n m : Nat} {F : Nat → Nat → Int} (h : LtAt w B n m F) (hb : Below w.heap.size w w1) : LtAt w1 B n m F :=
  ⟨fun i hi => (World.cell?_of_block (hb.block B h.lt)).trans (h.c i hi), fun i hi => (h.r i hi).later hb⟩
theorem LtAt.drew {w : World} {B n m : Nat} {F : Nat → Nat → Int} (h : LtAt w B n m F) : LtAt w.drew B n m F := h.later (Below.refl _ _).drew
theorem RnAt.farG {w : World} {g n : Nat} {f : Nat → Int} (h : RnAt w g n f) {g' k : Nat} (v : Value) (hg : g' ≠ g) : RnAt (w.setCell ⟨g', k, none⟩ v) g n f :=
  ⟨fun i hi => by rw [World.cell?_setCell_other _ _ _ _ (by simp only [ne_eq, Addr.mk.injEq, not_and]; intro e; exact absurd e hg)]; exact h.c i hi, fun i hi => by rw [World.frozen?_setCell]; exact h.z i hi, by rw [World.size_setCell]; exact h.l⟩
/-- One number of the table is written. -/
theorem LtAt.set {w : World} {B n m : Nat} {F : Nat → Nat → Int} (h : LtAt w B n m F) {i k : Nat} (v : Int) (hi : i ≤ n) (hk : k ≤ m) : LtAt (w.setCell ⟨B + 1 + i, k, none⟩ (.int .i64 v)) B n m (fun i' k' => if i' = i ∧ k' = k then v else F i' k') := by
  refine ⟨fun i' hi' => ?_, fun i' hi' => ?_⟩
  · rw [World.cell?_setCell_other _ _ _ _ (by simp only [ne_eq, Addr.mk.injEq, not_and]; omega)]
    exact h.c i' hi'
  · by_cases he : i' = i
    · subst he
      exact ((h.r i' hi').set v (by omega)).congr (fun j _ => by simp)
    · exact ((h.r i' hi').farG _ (by omega)).congr (fun j _ => by simp [he])
theorem rows_bytes : (Tryd.prog.info? 81).map (fun i => (i.zero, i.size, i.bytes)) = some (some (.slice none 0 0), 1, 24) := by kernel_rfl
theorem rowsS_made (n : Nat) (hn : n ≤ 1000000) (w : World) (k : IntKind) : (Instr.makeSlice 157 (.int k (n : Int)) (.int k (n : Int))).run Tryd.prog w = .ok (.slice (some ⟨w.heap.size, 0, none⟩) n n) (w.alloc (.cells (madeCells #[.slice none 0 0] n) 81)) := by
  have hi := rows_bytes
  cases hq : Tryd.prog.info? 81 with
  | none => rw [hq] at hi; cases hi
  | some i =>
    rw [hq] at hi
    simp only [Option.map_some, Option.some.injEq, Prod.mk.injEq] at hi
    have := run_make (P := Tryd.prog) w 157 81 i _ (by kernel_rfl) hq hi.1 k k (n : Int) (n : Int) (by omega) (Int.le_refl _) (by rw [hi.2.2]; omega) (by omega)
    rw [this]
    simp only [Int.toNat_natCast, hi.2.1, Nat.mul_one]
    rfl
/-- What is in common behind both places. -/
def lcF (a b : List UInt8) (i k : Nat) : Int := (lc (a.drop i) (b.drop k) : Int)
/-- The table that is half made: from place i, q on. -/
def lcM (a b : List UInt8) (i q i' k' : Nat) : Int := if i < i' ∨ (i' = i ∧ q ≤ k') then lcF a b i' k' else 0
theorem lc_bd (a b : List UInt8) : lc a b ≤ a.length := by
  have h1 := ed_lc a b
  have h2 := ed_most 2 a b
  have h3 := ed_is 2 _ a b (Nat.le_refl _)
  have h4 : b.length ≤ ed 2 a b + a.length := by
    have := ed_tri 2 [] a b
    rw [ed_nl, ed_nl] at this
    omega
  omega
theorem lcF_bd {a b : List UInt8} (ha : a.length ≤ 300) (i k : Nat) : 0 ≤ lcF a b i k ∧ lcF a b i k ≤ 300 := by
  unfold lcF
  have := lc_bd (a.drop i) (b.drop k)
  rw [List.length_drop] at this
  omega
theorem lcF_r (a b : ByteArray) (i : Nat) : lcF a.data.toList b.data.toList i b.size = 0 := by unfold lcF; rw [drop_end b _ (Nat.le_refl _), lc_nr]; rfl
theorem lcF_l (a b : ByteArray) (k : Nat) : lcF a.data.toList b.data.toList a.size k = 0 := by unfold lcF; rw [drop_end a _ (Nat.le_refl _), lc_nl]; rfl
theorem lcF_eq {a b : ByteArray} {i k : Nat} (hi : i < a.size) (hk : k < b.size) (h : a[i] = b[k]) : lcF a.data.toList b.data.toList i k = lcF a.data.toList b.data.toList (i + 1) (k + 1) + 1 := by
  unfold lcF; rw [bdrop_at a i hi, bdrop_at b k hk, lc_cc, if_pos h]; omega
theorem lcF_ne {a b : ByteArray} {i k : Nat} (hi : i < a.size) (hk : k < b.size) (h : ¬ a[i] = b[k]) : lcF a.data.toList b.data.toList i k = max (lcF a.data.toList b.data.toList (i + 1) k) (lcF a.data.toList b.data.toList i (k + 1)) := by
  unfold lcF; rw [bdrop_at a i hi, bdrop_at b k hk, lc_cc, if_neg h, ← bdrop_at a i hi, ← bdrop_at b k hk]; omega
theorem LtAt.step {w : World} {B n m : Nat} {a b : List UInt8} {i q : Nat} (h : LtAt w B n m (lcM a b i (q + 1))) (hi : i ≤ n) (hq : q ≤ m) {v : Int} (hv : v = lcF a b i q) : LtAt (w.setCell ⟨B + 1 + i, q, none⟩ (.int .i64 v)) B n m (lcM a b i q) := by
  refine (h.set v hi hq).congr (fun i' _ k' _ => ?_)
  unfold lcM
  by_cases he : i' = i ∧ k' = q
  · rw [if_pos he, if_pos (by omega), hv, he.1, he.2]
  · rw [if_neg he]
    by_cases h1 : i < i' ∨ i' = i ∧ q + 1 ≤ k'
    · rw [if_pos h1, if_pos (by omega)]
    · rw [if_neg h1, if_neg (by omega)]

set_option maxRecDepth 100000 in
set_option maxHeartbeats 8000000 in
theorem l9Table_any (a b : ByteArray) (w : World) (ha : a.size ≤ 300) (hb : b.size ≤ 300) :
    Calls Tryd.prog 104 #[.string a, .string b] w fun e w' => e = .returned (.slice (some ⟨w.heap.size, 0, none⟩) (a.size + 1) (a.size + 1)) ∧ LtAt w' w.heap.size a.size b.size (lcF a.data.toList b.data.toList) ∧ Below w.heap.size w w' := by
  have ec1 : ((a.size + 1 : Nat) : Int) = (a.size : Int) + 1 := by omega
  have ec2 : ((b.size + 1 : Nat) : Int) = (b.size : Int) + 1 := by omega
  have hmk := rowsS_made (a.size + 1) (by omega) w .i64
  rw [ec1] at hmk
  have hmr := fun w1 => ints_made (b.size + 1) (by omega) w1 .i64
  rw [ec2] at hmr
  have hw1 : IntKind.i64.wrap ((a.size : Int) + 1) = (a.size : Int) + 1 := by rw [IntKind.wrap_i64]; omega
  have hw2 : IntKind.i64.wrap ((b.size : Int) + 1) = (b.size : Int) + 1 := by rw [IntKind.wrap_i64]; omega
  have hh0 := heap_alloc_new w (.cells (madeCells #[.slice none 0 0] (a.size + 1)) 81)
  have hB0 : Below w.heap.size w (w.alloc (.cells (madeCells #[.slice none 0 0] (a.size + 1)) 81)) := (Below.refl _ _).alloc (Nat.le_refl _) _
  have hs0 : (w.alloc (.cells (madeCells #[.slice none 0 0] (a.size + 1)) 81)).heap.size = w.heap.size + 1 := by simp
  go_enter Tryd.func104, Tryd.ntmps104
  go_wp2
  generalize w.alloc (.cells (madeCells #[.slice none 0 0] (a.size + 1)) 81) = W0 at *
  clear hmk
  go_loopw [15] (fun x wr => ∃ k : Nat, k ≤ a.size + 1 ∧ x = .int .i64 k ∧ Hid (wr.heap.size = w.heap.size + 1 + k ∧ (∀ i, i < k → wr.cell? ⟨w.heap.size, i, none⟩ = some (.slice (some ⟨w.heap.size + 1 + i, 0, none⟩) (b.size + 1) (b.size + 1)) ∧ RnAt wr (w.heap.size + 1 + i) (b.size + 1) (fun _ => 0)) ∧ (∀ i, i < a.size + 1 → (∃ v, wr.cell? ⟨w.heap.size, i, none⟩ = some v) ∧ wr.frozen? ⟨w.heap.size, i, none⟩ = false) ∧ Below w.heap.size w wr)) (fun x _ => a.size + 1 - (intOf x).toNat)
  case atStart =>
    refine ⟨0, by omega, rfl, hide ⟨by omega, fun i hi => absurd hi (by omega), fun i hi => ⟨?_, frozen_of_row _ _ _ _ _ hh0⟩, hB0⟩⟩
    rw [cell_of_row _ _ _ _ _ _ hh0]
    exact ⟨_, Array.getElem?_eq_getElem (by rw [size_madeCells]; exact hi)⟩
  case round =>
    obtain ⟨k, hk, rfl, HR⟩ := hrel
    by_cases hlt : k < a.size + 1
    · obtain ⟨⟨v0, c1⟩, f1⟩ := HR.out.2.2.1 k hlt
      have hsz := HR.out.1
      have r0 := ints_new (b.size + 1) wr 3
      have c1' : (wr.alloc (.cells (madeCells #[.int .i64 0] (b.size + 1)) 3)).cell? ⟨w.heap.size, k, none⟩ = some v0 := (World.cell?_of_block (((Below.refl wr.heap.size wr).alloc (Nat.le_refl _) _).block _ (by show w.heap.size < _; omega))).trans c1
      have f1' : (wr.alloc (.cells (madeCells #[.int .i64 0] (b.size + 1)) 3)).frozen? ⟨w.heap.size, k, none⟩ = false := by
        have e := ((Below.refl wr.heap.size wr).alloc (Nat.le_refl _) (.cells (madeCells #[.int .i64 0] (b.size + 1)) 3)).block w.heap.size (by omega)
        unfold World.frozen? at f1 ⊢
        rw [e]
        exact f1
      have hbl : Below wr.heap.size wr (wr.alloc (.cells (madeCells #[.int .i64 0] (b.size + 1)) 3)) := (Below.refl _ _).alloc (Nat.le_refl _) _
      have hs1 : (wr.alloc (.cells (madeCells #[.int .i64 0] (b.size + 1)) 3)).heap.size = w.heap.size + 1 + k + 1 := by simp [hsz]
      have hmr' := hmr wr
      rw [hsz] at hmr' r0
      clear hmr
      go_wp2
      generalize wr.alloc (.cells (madeCells #[.int .i64 0] (b.size + 1)) 3) = W1 at *
      refine ⟨⟨k + 1, by omega, by go_num, hide ⟨by rw [World.size_setCell, hs1]; omega, fun i hi => ?_, fun i hi => ?_, (HR.out.2.2.2.trans (hbl.mono (by omega))).setCell (p := ⟨w.heap.size, k, none⟩) (Nat.le_refl _) _⟩⟩, by simp [intOf]; omega⟩
      · by_cases he : i = k
        · subst he
          exact ⟨World.cell?_setCell_same _ _ _ c1', r0.farG _ (by omega)⟩
        · have hi' := HR.out.2.1 i (by omega)
          exact ⟨by rw [World.cell?_setCell_other _ _ _ _ (by simp only [ne_eq, Addr.mk.injEq, true_and, and_true]; omega)]; exact (World.cell?_of_block (hbl.block _ (by show w.heap.size < _; omega))).trans hi'.1, (hi'.2.later hbl).farG _ (by omega)⟩
      · obtain ⟨⟨v, hv⟩, hf⟩ := HR.out.2.2.1 i hi
        refine ⟨?_, ?_⟩
        · by_cases he : i = k
          · subst he; exact ⟨_, World.cell?_setCell_same _ _ _ c1'⟩
          · exact ⟨v, by rw [World.cell?_setCell_other _ _ _ _ (by simp only [ne_eq, Addr.mk.injEq, true_and, and_true]; omega)]; exact (World.cell?_of_block (hbl.block _ (by show w.heap.size < _; omega))).trans hv⟩
        · rw [World.frozen?_setCell]
          have e := hbl.block w.heap.size (by omega)
          unfold World.frozen? at hf ⊢
          rw [e]
          exact hf
    · have HQ : Hid (LtAt wr w.heap.size a.size b.size (lcM a.data.toList b.data.toList a.size 0) ∧ Below w.heap.size w wr) := hide ⟨(LtAt.mk (F := fun _ _ => 0) (fun i hi => (HR.out.2.1 i (by omega)).1) (fun i hi => (HR.out.2.1 i (by omega)).2)).congr (fun i hi k _ => by
        unfold lcM
        by_cases he : i = a.size
        · rw [he, if_pos (by omega), lcF_l]
        · rw [if_neg (by omega)]), HR.out.2.2.2⟩
      clear HR hmr hB0 hh0 hs0
      go_wp2
      go_loopw [7] (fun x w1 => ∃ p : Nat, p ≤ a.size ∧ x = .int .i64 ((p : Int) - 1) ∧ Hid (LtAt w1 w.heap.size a.size b.size (lcM a.data.toList b.data.toList p 0) ∧ Below w.heap.size w w1)) (fun x _ => (intOf x + 1).toNat)
      case atStart => exact ⟨a.size, by omega, rfl, HQ⟩
      case round =>
        obtain ⟨p, hp, rfl, HP⟩ := hrel
        clear HQ
        cases p with
        | zero =>
          go_wp2
          go_ret
          exact ⟨rfl, HP.out.1.congr (fun i _ k _ => by unfold lcM; rw [if_pos (by omega)]), HP.out.2⟩
        | succ p =>
          have hpa : p < a.size := by omega
          have ek : (((p + 1 : Nat) : Int) - 1) = (p : Int) := by omega
          rw [ek]
          have HS : Hid (LtAt wr w.heap.size a.size b.size (lcM a.data.toList b.data.toList p b.size) ∧ Below w.heap.size w wr) := hide ⟨HP.out.1.congr (fun i _ k hk => by
            unfold lcM
            by_cases h1 : p + 1 < i ∨ i = p + 1 ∧ 0 ≤ k
            · rw [if_pos h1, if_pos (by omega)]
            · rw [if_neg h1]
              by_cases h2 : p < i ∨ i = p ∧ b.size ≤ k
              · rw [if_pos h2, show k = b.size by omega, lcF_r]
              · rw [if_neg h2]), HP.out.2⟩
          clear HP
          go_wp2
          go_loopw [8] (fun x w1 => ∃ q : Nat, q ≤ b.size ∧ x = .int .i64 ((q : Int) - 1) ∧ Hid (LtAt w1 w.heap.size a.size b.size (lcM a.data.toList b.data.toList p q) ∧ Below w.heap.size w w1)) (fun x _ => (intOf x + 1).toNat)
          case atStart => exact ⟨b.size, by omega, rfl, HS⟩
          case round =>
            obtain ⟨q, hq, rfl, HR⟩ := hrel
            clear HS
            cases q with
            | zero =>
              go_wp2
              refine ⟨⟨p, by omega, rfl, HR⟩, by simp [intOf]⟩
            | succ q =>
              have hqb : q < b.size := by omega
              have ek2 : (((q + 1 : Nat) : Int) - 1) = (q : Int) := by omega
              rw [ek2]
              have s0 := HR.out.1.c p (by omega)
              have s1 := HR.out.1.c (p + 1) (by omega)
              have c0 := (HR.out.1.r p (by omega)).c q (by omega)
              have f0 := (HR.out.1.r p (by omega)).z q (by omega)
              have c1 := (HR.out.1.r p (by omega)).c (q + 1) (by omega)
              have d0 := (HR.out.1.r (p + 1) (by omega)).c q (by omega)
              have d1 := (HR.out.1.r (p + 1) (by omega)).c (q + 1) (by omega)
              have e1 : lcM a.data.toList b.data.toList p (q + 1) p (q + 1) = lcF a.data.toList b.data.toList p (q + 1) := by unfold lcM; rw [if_pos (by omega)]
              have e2 : lcM a.data.toList b.data.toList p (q + 1) (p + 1) q = lcF a.data.toList b.data.toList (p + 1) q := by unfold lcM; rw [if_pos (by omega)]
              have e3 : lcM a.data.toList b.data.toList p (q + 1) (p + 1) (q + 1) = lcF a.data.toList b.data.toList (p + 1) (q + 1) := by unfold lcM; rw [if_pos (by omega)]
              rw [e1] at c1
              rw [e2] at d0
              rw [e3] at d1
              have b1 := lcF_bd (a := a.data.toList) (b := b.data.toList) (by simpa using ha) p (q + 1)
              have b2 := lcF_bd (a := a.data.toList) (b := b.data.toList) (by simpa using ha) (p + 1) q
              have b3 := lcF_bd (a := a.data.toList) (b := b.data.toList) (by simpa using ha) (p + 1) (q + 1)
              by_cases he : a[p] = b[q]
              · have hq1 : ((a[p].toNat : Int) == (b[q].toNat : Int)) = true := u8_beq he
                have HV := hide (lcF_eq hpa hqb he)
                clear he e1 e2 e3 c1 d0 b1 b2
                obtain ⟨y, hy⟩ : ∃ y, lcF a.data.toList b.data.toList (p + 1) (q + 1) = y := ⟨_, rfl⟩
                rw [hy] at d1 b3 HV
                clear hy
                go_wp2
                go_region
                go_wp2
                go_region
                go_wp2
                exact ⟨⟨q, by omega, rfl, hide ⟨(HR.out.1.step (by omega) (by omega) (by first | exact HV.out.symm | (rw [HV.out]; omega))).drew.drew, (HR.out.2.setCell (p := ⟨w.heap.size + 1 + p, q, none⟩) (by show _ ≤ _ + 1 + p; omega) _).drew.drew⟩⟩, by simp [intOf]⟩
              · have hq1 : ((a[p].toNat : Int) == (b[q].toNat : Int)) = false := u8_bne he
                have HV := hide (lcF_ne hpa hqb he)
                clear he e1 e2 e3 d1 b3
                obtain ⟨y1, hy1⟩ : ∃ y, lcF a.data.toList b.data.toList p (q + 1) = y := ⟨_, rfl⟩
                obtain ⟨y2, hy2⟩ : ∃ y, lcF a.data.toList b.data.toList (p + 1) q = y := ⟨_, rfl⟩
                rw [hy1] at c1 b1 HV
                rw [hy2] at d0 b2 HV
                clear hy1 hy2
                by_cases hge : y1 ≤ y2
                · go_wp2
                  go_region
                  go_wp2
                  go_region
                  go_wp2
                  go_region
                  go_wp2
                  exact ⟨⟨q, by omega, rfl, hide ⟨(HR.out.1.step (by omega) (by omega) (by first | exact HV.out.symm | (rw [HV.out]; omega))).drew.drew.drew, (HR.out.2.setCell (p := ⟨w.heap.size + 1 + p, q, none⟩) (by show _ ≤ _ + 1 + p; omega) _).drew.drew.drew⟩⟩, by simp [intOf]⟩
                · go_wp2
                  go_region
                  go_wp2
                  go_region
                  go_wp2
                  go_region
                  go_wp2
                  exact ⟨⟨q, by omega, rfl, hide ⟨(HR.out.1.step (by omega) (by omega) (by first | exact HV.out.symm | (rw [HV.out]; omega))).drew.drew.drew, (HR.out.2.setCell (p := ⟨w.heap.size + 1 + p, q, none⟩) (by show _ ≤ _ + 1 + p; omega) _).drew.drew.drew⟩⟩, by simp [intOf]⟩

end Go.Proofs.YtbooongkbninhaaDoor
