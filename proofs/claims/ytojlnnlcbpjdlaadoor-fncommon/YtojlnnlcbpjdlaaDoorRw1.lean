/- Rows of numbers as arrays: 301 cells that lie in a block from a place on. -/
import Derived.Test.YtojlnnlcbpjdlaaDoorWit1
import Derived.Test.YtojlnnlcbpjdlaaDoorLev1
import Derived.Deep.MidRow
import Derived.Deep.WholeRow
import Derived.BigRegion
set_option linter.unusedVariables false
namespace Go.Proofs.YtojlnnlcbpjdlaaDoor
open Go.RowKit
open Doc1

/-- A row lies in block g from place o on, and may be written. -/
structure RwAt (w : World) (g o : Nat) (f : Nat → Int) : Prop where
  c : ∀ j, j < 301 → w.cell? ⟨g, o + j, none⟩ = some (.int .i64 (f j))
  z : ∀ j, j < 301 → w.frozen? ⟨g, o + j, none⟩ = false

theorem RwAt.at0 {w : World} {g : Nat} {f : Nat → Int} (h : RwAt w g 0 f) {j : Nat} (hj : j < 301) : w.cell? ⟨g, j, none⟩ = some (.int .i64 (f j)) ∧ w.frozen? ⟨g, j, none⟩ = false := by
  have h1 := h.c j hj
  have h2 := h.z j hj
  rw [Nat.zero_add] at h1 h2
  exact ⟨h1, h2⟩
def rowL (f : Nat → Int) : List Value := (List.range 301).map (fun j => Value.int .i64 (f j))
theorem rowL_len (f : Nat → Int) : (rowL f).length = 301 := by simp [rowL]
theorem rowL_at (f : Nat → Int) (j : Nat) (hj : j < 301) : (rowL f)[j]? = some (.int .i64 (f j)) := by simp [rowL, hj]
theorem rowL_one (f : Nat → Int) : (rowL f).toArray.all (·.oneCell') = true := by
  rw [Array.all_eq_true_iff_forall_mem]
  intro v hv
  simp [rowL] at hv
  obtain ⟨j, _, rfl⟩ := hv
  rfl
theorem rowL_congr {f f' : Nat → Int} (h : ∀ j, j < 301 → f j = f' j) : rowL f = rowL f' := by
  unfold rowL
  apply List.map_congr_left
  intro j hj
  rw [h j (by simpa using hj)]
theorem RwAt.range {w : World} {g o : Nat} {f : Nat → Int} (h : RwAt w g o f) : w.rangeAt g o (rowL f) := by
  intro j v hv
  have hj : j < 301 := by
    by_cases hj : j < 301
    · exact hj
    · rw [List.getElem?_eq_none (by rw [rowL_len]; omega)] at hv; cases hv
  rw [rowL_at f j hj] at hv
  cases hv
  exact h.c j hj
theorem RwAt.there {w : World} {g o : Nat} {f : Nat → Int} (h : RwAt w g o f) (f' : Nat → Int) : w.there g o (rowL f').toArray.size := by
  intro j hj
  have hj : j < 301 := by simpa [rowL_len] using hj
  exact ⟨by rw [h.c j hj]; rfl, h.z j hj⟩
theorem RwAt.congr {w : World} {g o : Nat} {f f' : Nat → Int} (h : RwAt w g o f) (he : ∀ j, j < 301 → f j = f' j) : RwAt w g o f' := ⟨fun j hj => by rw [← he j hj]; exact h.c j hj, h.z⟩
theorem RwAt.later {w w1 : World} {g o : Nat} {f : Nat → Int} (h : RwAt w g o f) (hb : Below w.heap.size w w1) : RwAt w1 g o f := by
  have hlt := block_lt_of_cell (h.c 0 (by omega))
  refine ⟨fun j hj => (World.cell?_of_block (hb.block g hlt)).trans (h.c j hj), fun j hj => ?_⟩
  have := h.z j hj
  unfold World.frozen? at this ⊢
  rw [hb.block g hlt]
  exact this
theorem RwAt.alloc {w : World} {g o : Nat} {f : Nat → Int} (h : RwAt w g o f) (x : Obj) : RwAt (w.alloc x) g o f := h.later ((Below.refl _ _).alloc (Nat.le_refl _) _)
theorem RwAt.lt {w : World} {g o : Nat} {f : Nat → Int} (h : RwAt w g o f) : g < w.heap.size := block_lt_of_cell (h.c 0 (by omega))
/-- One number is written. -/
theorem RwAt.set {w : World} {g o : Nat} {f : Nat → Int} (h : RwAt w g o f) {k j : Nat} (v : Int) (hk : k = o + j) (hj : j < 301) : RwAt (w.setCell ⟨g, k, none⟩ (.int .i64 v)) g o (fun i => if i = j then v else f i) := by
  subst hk
  refine ⟨fun i hi => ?_, fun i hi => by rw [World.frozen?_setCell]; exact h.z i hi⟩
  by_cases he : i = j
  · subst he
    rw [if_pos rfl]
    exact World.cell?_setCell_same _ _ _ (h.c i hi)
  · rw [if_neg he, World.cell?_setCell_other _ _ _ _ (by simp only [ne_eq, Addr.mk.injEq, true_and, and_true]; omega)]
    exact h.c i hi
theorem RwAt.far {w : World} {g o : Nat} {f : Nat → Int} (h : RwAt w g o f) {g' k : Nat} (v : Value) (hg : g' ≠ g) : RwAt (w.setCell ⟨g', k, none⟩ v) g o f :=
  ⟨fun i hi => by rw [World.cell?_setCell_other _ _ _ _ (by simp only [ne_eq, Addr.mk.injEq, not_and]; intro e; exact absurd e hg)]; exact h.c i hi, fun i hi => by rw [World.frozen?_setCell]; exact h.z i hi⟩
/-- A whole row is written. -/
theorem RwAt.put {w : World} {g o : Nat} {f : Nat → Int} (h : RwAt w g o f) (f' : Nat → Int) : RwAt (w.setCells g o (rowL f')) g o f' := by
  refine ⟨fun i hi => ?_, fun i hi => by rw [World.frozen?_setCells]; exact h.z i hi⟩
  have := World.cell?_setCells_in g (rowL f') o w (fun j hj => by rw [h.c j (by simpa [rowL_len] using hj)]; rfl) i (by rw [rowL_len]; exact hi)
  have e : (rowL f')[i]? = some (.int .i64 (f' i)) := rowL_at f' i hi
  rw [List.getElem?_eq_getElem (by rw [rowL_len]; exact hi)] at e
  rw [Option.some.inj e] at this
  simpa using this
theorem RwAt.apart {w : World} {g o : Nat} {f : Nat → Int} (h : RwAt w g o f) {g' o' : Nat} (f' : Nat → Int) (hg : g' = g → o' + 301 ≤ o ∨ o + 301 ≤ o') : RwAt (w.setCells g' o' (rowL f')) g o f := by
  refine ⟨fun i hi => ?_, fun i hi => by rw [World.frozen?_setCells]; exact h.z i hi⟩
  rw [World.cell?_setCells_out g' _ o' w _ (fun e _ => by
    have := hg e.symm
    rw [rowL_len]
    show o + i < o' ∨ o' + 301 ≤ o + i
    omega)]
  exact h.c i hi
theorem size_setCells (g : Nat) : ∀ (vs : List Value) (o : Nat) (w : World), (w.setCells g o vs).heap.size = w.heap.size
  | [], _, _ => rfl
  | v :: r, o, w => by rw [World.setCells, size_setCells g r, World.size_setCell]
theorem Below.setCells {B : Nat} {a : World} {g : Nat} (hg : B ≤ g) : ∀ (vs : List Value) (o : Nat) (w : World), Below B a w → Below B a (w.setCells g o vs)
  | [], _, _, h => h
  | v :: r, o, w, h => Below.setCells hg r (o + 1) _ (h.setCell (p := ⟨g, o, none⟩) hg v)
theorem heap_setCells (g i : Nat) (h : i ≠ g) : ∀ (vs : List Value) (o : Nat) (w : World), (w.setCells g o vs).heap[i]? = w.heap[i]?
  | [], _, _ => rfl
  | v :: r, o, w => by rw [World.setCells, heap_setCells g i h r, heap_setCell_other _ _ _ _ h]
theorem os_setCells (g : Nat) : ∀ (vs : List Value) (o : Nat) (w : World), (w.setCells g o vs).os = w.os ∧ (w.setCells g o vs).tape = w.tape ∧ (w.setCells g o vs).output = w.output
  | [], _, _ => ⟨rfl, rfl, rfl⟩
  | v :: r, o, w => by rw [World.setCells]; exact os_setCells g r (o + 1) _
theorem rg_new {w w1 : World} {g G : Nat} (h : w.grownBy w1 (some g)) (hG : w.heap.size ≤ G) (vs : List Value) (o : Nat) : w.grownBy (w1.setCells G o vs) (some g) :=
  ⟨(os_setCells G vs o w1).1.trans h.os, (os_setCells G vs o w1).2.1.trans h.tape, (os_setCells G vs o w1).2.2.trans h.output, by rw [size_setCells]; exact h.size, fun i hi hr => (heap_setCells G i (by omega) vs o w1).trans (h.block i hi hr)⟩
theorem rg_set {w w1 : World} {g : Nat} (h : w.grownBy w1 (some g)) (j : Nat) (v : Value) : w.grownBy (w1.setCell ⟨g, j, none⟩ v) (some g) :=
  ⟨h.os, h.tape, h.output, by rw [World.size_setCell]; exact h.size, fun i hi hr => (heap_setCell_other _ _ _ _ (fun e => hr (by rw [e]))).trans (h.block i hi hr)⟩
theorem rg_drew {w w1 : World} {r : Option Nat} (h : w.grownBy w1 r) : w.grownBy w1.drew r := ⟨h.os, h.tape, h.output, h.size, h.block⟩
theorem RwAt.drew {w : World} {g o : Nat} {f : Nat → Int} (h : RwAt w g o f) : RwAt w.drew g o f := h.later (Below.refl _ _).drew
theorem RwAt.keep {w : World} {g o : Nat} {f : Nat → Int} (h : RwAt w g o f) {G : Nat} (hg : G ≠ g) (vs : List Value) (o' : Nat) : RwAt (w.setCells G o' vs) g o f :=
  ⟨fun j hj => (World.cell?_of_block (heap_setCells G g (fun e => hg e.symm) vs o' w)).trans (h.c j hj), fun j hj => by rw [World.frozen?_setCells]; exact h.z j hj⟩
theorem row_new (w : World) (t : TypeId) : RwAt (w.alloc (.cells (Array.replicate 301 (.int .i64 0)) t)) w.heap.size 0 (fun _ => 0) := by
  have hh := heap_alloc_new w (.cells (Array.replicate 301 (.int .i64 0)) t)
  refine ⟨fun j hj => ?_, fun j hj => ?_⟩
  · rw [Nat.zero_add, cell_of_row _ _ _ _ _ _ hh]; simp [hj]
  · rw [Nat.zero_add]; exact frozen_of_row _ _ _ _ _ hh
theorem row_info : (Tryd.prog.info? 159).map (fun i => (i.zero, i.size)) = some (some (.agg (Array.replicate 301 (.int .i64 0))), 301) := by kernel_rfl
theorem row_zero (w : World) : (zeroValue 159).run Tryd.prog w = .ok (.agg (Array.replicate 301 (.int .i64 0))) w := (zero_of_info row_info).1 w
theorem row_size : (Tryd.prog.info? 159).map (·.size) = some 301 := (zero_of_info row_info).2
theorem row_und : Tryd.prog.underlying 159 = some (.array 301 3) := by kernel_rfl
theorem RwAt.load {w : World} {g o : Nat} {f : Nat → Int} (h : RwAt w g o f) : (loadVar 159 ⟨g, o, none⟩).run Tryd.prog w = .ok (.agg (rowL f).toArray) w :=
  run_loadVar_mid w g o _ (rowL f) _ h.range row_und rfl (by rw [rowL_len]; exact row_size)
theorem RwAt.store {w : World} {g o : Nat} {f : Nat → Int} (h : RwAt w g o f) (f' : Nat → Int) : (storeVar 159 ⟨g, o, none⟩ (.agg (rowL f').toArray)).run Tryd.prog w = .ok () (w.setCells g o (rowL f')) := by
  simpa using run_storeVar_mid w g o _ _ (h.there f') (by rw [row_size, List.size_toArray, rowL_len]) (rowL_one f')

theorem results_cell_load {P : Program} {fn : Func} {p : Tmp} {ty : TypeId} (h : fn.results = #[.cell p ty]) (tmps : Array Value) (w : World) (g : Nat) (v : Value)
    (hp : tmps.getD p undef = .pointer (some ⟨g, 0, none⟩)) (hl : (loadVar ty ⟨g, 0, none⟩).run P w = .ok v w) : (results fn tmps).run P w = .ok v w := by
  have hp' : tmps[p]?.getD undef = .pointer (some ⟨g, 0, none⟩) := by simpa using hp
  simp [results, h, hp', asAddr, hl]
theorem row_len : Tryd.prog.arrayLen 159 = 301 := by kernel_rfl
theorem row_cut (g n : Nat) (hn : n ≤ 300) (w : World) : (Instr.sliceAt 159 (.pointer (some ⟨g, 0, none⟩)) none (some (.int .i64 ((n : Int) + 1))) none).run Tryd.prog w = .ok (.slice (some ⟨g, 0, none⟩) (n + 1) 301) w := by
  have h := run_sliceAt_array_h (P := Tryd.prog) w 159 ⟨g, 0, none⟩ (by kernel_rfl) .i64 ((n : Int) + 1) (by omega) (by rw [row_len]; omega)
  have he : Tryd.prog.elem 159 = 3 := by kernel_rfl
  have hz : (sizeOf 3).run Tryd.prog w = .ok 1 w := by kernel_rfl
  rw [row_len, he, hz] at h
  rw [h]
  simp only [Result.andThen, slicedAt, Nat.zero_mul, Nat.sub_zero]
  rw [if_neg (by omega), show ((n : Int) + 1).toNat = n + 1 by omega]
  rfl
theorem row_all (g : Nat) (w : World) : (Instr.sliceAt 159 (.pointer (some ⟨g, 0, none⟩)) none none none).run Tryd.prog w = .ok (.slice (some ⟨g, 0, none⟩) 301 301) w := by
  have h := run_sliceAt_array_all (P := Tryd.prog) w 159 ⟨g, 0, none⟩ (by kernel_rfl)
  have he : Tryd.prog.elem 159 = 3 := by kernel_rfl
  have hz : (sizeOf 3).run Tryd.prog w = .ok 1 w := by kernel_rfl
  rw [row_len, he, hz] at h
  rw [h]
  simp only [Result.andThen, slicedAt, Nat.zero_mul, Nat.sub_zero]
  rw [if_neg (by omega)]
  rfl
theorem row_copy {W : World} {g G : Nat} {f : Nat → Int} {n : Nat} (hn : n ≤ 300) (r0 : RwAt W G 0 (fun _ => 0)) (r1 : RwAt W g 0 f) (ty : TypeId) :
    (Builtin.copy_ #[129, 129] ty #[.slice (some ⟨G, 0, none⟩) 301 301, .slice (some ⟨g, 0, none⟩) (n + 1) 301]).run Tryd.prog W = .ok (.int .i64 ((n : Int) + 1)) (W.setCells G 0 ((rowL f).take (n + 1))) := by
  have hln : ((rowL f).take (n + 1)).length = n + 1 := by simp [rowL_len]; omega
  have := run_copy_cells (P := Tryd.prog) W 129 129 ty 3 G 0 301 301 ⟨g, 0, none⟩ (n + 1) 301 ((rowL f).take (n + 1)) Tryd.underlying129 (by kernel_rfl) (by rw [hln]; exact (Nat.min_eq_left (by omega)).symm)
    (fun j v hv => by
      rw [Addr.add_mid]
      refine r1.range j v ?_
      rw [List.getElem?_take] at hv
      split at hv
      · exact hv
      · cases hv)
    (fun j hj => by rw [r0.c j (by omega)]; rfl) (fun j hj => r0.z j (by omega)) (fun v hv => by
      have := Array.all_eq_true_iff_forall_mem.1 (rowL_one f) v (by simpa using List.mem_of_mem_take hv)
      exact this)
  rw [this, hln]
  simp [goInt]

/-- How far apart, behind place j of b; nought beyond its end. -/
def edF (t : Nat) (A B : List UInt8) (j : Nat) : Int := if j ≤ B.length then (ed t A (B.drop j) : Int) else 0
theorem edF_bd (t : Nat) {A B : List UInt8} (hA : A.length ≤ 300) (hB : B.length ≤ 300) (j : Nat) : 0 ≤ edF t A B j ∧ edF t A B j ≤ 600 := by
  unfold edF
  have := ed_most t A (B.drop j)
  rw [List.length_drop] at this
  split <;> omega
theorem edF_end (t : Nat) (B : List UInt8) (j : Nat) : edF t [] B j = if j < B.length then (B.length : Int) - j else 0 := by
  unfold edF
  rw [ed_nl, List.length_drop]
  split <;> split <;> omega

set_option maxRecDepth 100000 in
set_option maxHeartbeats 2000000 in
theorem rowAtEnd_any (t : Nat) (b : ByteArray) (w : World) (hb : b.size ≤ 300) :
    Calls Tryd.prog 124 #[.string b] w fun e w' => e = .returned (.agg (rowL (edF t [] b.data.toList)).toArray) ∧ Below w.heap.size w w' := by
  have hz := row_zero
  go_enter Tryd.func124, Tryd.ntmps124
  go_wp2
  have r0 := (row_new w 159).alloc (.cells (Array.replicate 301 (.int .i64 0)) 159)
  have r1 := row_new (w.alloc (.cells (Array.replicate 301 (.int .i64 0)) 159)) 159
  have hB0 : Below w.heap.size w ((w.alloc (.cells (Array.replicate 301 (.int .i64 0)) 159)).alloc (.cells (Array.replicate 301 (.int .i64 0)) 159)) := ((Below.refl _ _).alloc (Nat.le_refl _) _).alloc (by simp) _
  rw [World.size_alloc] at r1
  obtain ⟨W0, hW0⟩ : ∃ W0, (w.alloc (.cells (Array.replicate 301 (.int .i64 0)) 159)).alloc (.cells (Array.replicate 301 (.int .i64 0)) 159) = W0 := ⟨_, rfl⟩
  rw [hW0] at r0 r1 hB0 ⊢
  clear hW0
  go_loopw [7] (fun a wr => ∃ k : Nat, k ≤ b.size ∧ a = .int .i64 k ∧ Hid (Below w.heap.size w wr ∧ RwAt wr w.heap.size 0 (fun _ => 0) ∧ RwAt wr (w.heap.size + 1) 0 (fun j => if j < k then (b.size : Int) - j else 0))) (fun a _ => b.size - (intOf a).toNat)
  case atStart => exact ⟨0, by omega, rfl, hide ⟨hB0, r0, r1.congr (fun j _ => by simp)⟩⟩
  case round =>
    obtain ⟨k, hk, rfl, HR⟩ := hrel
    by_cases hlt : k < b.size
    · obtain ⟨c1, f1⟩ := HR.out.2.2.at0 (j := k) (by omega)
      rw [if_neg (by omega)] at c1
      go_wp2
      have h2 := HR.out.2.2.set (k := k) (j := k) ((b.size : Int) - k) (by omega) (by omega)
      refine ⟨⟨k + 1, by omega, by go_num, hide ⟨HR.out.1.setCell (p := ⟨w.heap.size + 1, k, none⟩) (by show _ ≤ _ + 1; omega) _, HR.out.2.1.far _ (by omega), h2.congr (fun j _ => ?_)⟩⟩, by simp [intOf]; omega⟩
      by_cases hj : j = k
      · rw [if_pos hj, if_pos (by omega), hj]
      · rw [if_neg hj]
        by_cases hjk : j < k
        · rw [if_pos hjk, if_pos (by omega)]
        · rw [if_neg hjk, if_neg (by omega)]
    · obtain ⟨F, hF⟩ : ∃ F : Nat → Int, (fun j => if j < k then (b.size : Int) - j else 0) = F := ⟨_, rfl⟩
      have HF : Hid (rowL F = rowL (edF t [] b.data.toList)) := hide (by
        rw [← hF]
        refine rowL_congr (fun j _ => ?_)
        rw [edF_end]
        obtain rfl : k = b.size := by omega
        rfl)
      have HR' := HR.out
      rw [hF] at HR'
      clear hF HR
      have HR := hide HR'
      clear HR'
      have hrg := hide HR.out.2.2.range
      have hth := hide (HR.out.2.1.there F)
      have hres := hide (HR.out.2.1.put F)
      have HB := hide (Below.setCells (B := w.heap.size) (Nat.le_refl _) (rowL F) 0 wr HR.out.1)
      have hl := rowL_len F
      go_wp2_with (first | (refine wpList_load_mid (by rfl) 159 _ (by rfl) _ _ (by rfl) (rowL F) _ hrg.out row_und rfl (by rw [hl]; exact row_size) ?_) | (refine wpList_store_mid (by rfl) 159 _ _ (by rfl) _ _ (rowL F).toArray (by rfl) (by rfl) hth.out (by rw [row_size, List.size_toArray, hl]) (rowL_one F) ?_))
      have hld := hres.out.load
      refine bodyPost_ret (v := .agg (rowL F).toArray) ?_ rfl ⟨by rw [HF.out], HB.out⟩
      exact results_cell_load rfl _ _ _ _ rfl hld

/-- The first numbers of a row lie copied in a row of noughts. -/
theorem RwAt.copied {w : World} {g o : Nat} (h : RwAt w g o (fun _ => 0)) (f : Nat → Int) (n : Nat) (hn : n ≤ 301) (h0 : ∀ j, n ≤ j → f j = 0) : RwAt (w.setCells g o ((rowL f).take n)) g o f := by
  refine ⟨fun i hi => ?_, fun i hi => by rw [World.frozen?_setCells]; exact h.z i hi⟩
  by_cases hin : i < n
  · have := World.cell?_setCells_in g ((rowL f).take n) o w (fun j hj => by rw [h.c j (by simp [rowL_len] at hj; omega)]; rfl) i (by simp [rowL_len]; omega)
    have e : (rowL f)[i]? = some (.int .i64 (f i)) := rowL_at f i hi
    rw [List.getElem?_eq_getElem (by rw [rowL_len]; exact hi)] at e
    rw [this, List.getElem_take, Option.some.inj e]
  · rw [World.cell?_setCells_out g _ o w _ (fun _ _ => by
      right
      simp [rowL_len]
      omega), h.c i hi, h0 i (by omega)]
theorem edF_out (t : Nat) (A : List UInt8) (b : ByteArray) {j : Nat} (h : b.size < j) : edF t A b.data.toList j = 0 := by
  unfold edF; rw [if_neg (by simpa using h)]
/-- The row that is half made: beyond place k it is the new one. -/
theorem edF_at (t : Nat) (A : List UInt8) (b : ByteArray) {j : Nat} (h : j ≤ b.size) : edF t A b.data.toList j = (ed t A (b.data.toList.drop j) : Int) := by
  unfold edF; rw [if_pos (by simpa using h)]
def mixF (t : Nat) (c : UInt8) (A B : List UInt8) (k j : Nat) : Int := if k ≤ j then edF t (c :: A) B j else edF t A B j

/-- Where the next number is written the row is made one place further. -/
theorem RwAt.mix {w : World} {g : Nat} {t : Nat} {c : UInt8} {A B : List UInt8} {k : Nat} (h : RwAt w g 0 (mixF t c A B (k + 1))) (hk : k < 301) {v : Int} (hv : v = edF t (c :: A) B k) : RwAt (w.setCell ⟨g, k, none⟩ (.int .i64 v)) g 0 (mixF t c A B k) := by
  refine (h.set (k := k) (j := k) v (by omega) hk).congr (fun j _ => ?_)
  unfold mixF
  by_cases hj : j = k
  · rw [if_pos hj, if_pos (by omega), hv, hj]
  · rw [if_neg hj]
    by_cases h1 : k + 1 ≤ j
    · rw [if_pos h1, if_pos (by omega)]
    · rw [if_neg h1, if_neg (by omega)]
theorem ed_same_at (t : Nat) {c : UInt8} {A : List UInt8} {b : ByteArray} {k : Nat} (hk : k < b.size) (he : c = b[k]) : edF t A b.data.toList (k + 1) = edF t (c :: A) b.data.toList k := by
  rw [edF_at t _ b (by omega), edF_at t _ b (by omega), drop_at b k hk, ed_cc, if_pos he]
theorem ed_other_at (t : Nat) {c : UInt8} {A : List UInt8} {b : ByteArray} {k : Nat} (hk : k < b.size) (he : ¬ c = b[k]) :
    edF t (c :: A) b.data.toList k = min (min (edF t A b.data.toList k + 1) (edF t (c :: A) b.data.toList (k + 1) + 1)) (edF t A b.data.toList (k + 1) + t) := by
  rw [edF_at t _ b (by omega), edF_at t _ b (by omega), edF_at t _ b (by omega), edF_at t _ b (by omega), drop_at b k hk, ed_cc, if_neg he]
  omega

set_option maxRecDepth 100000 in
set_option maxHeartbeats 4000000 in
theorem stepAhead_any (t : Nat) (c : UInt8) (b : ByteArray) (A : List UInt8) (g : Nat) (w : World) (hr : RwAt w g 0 (edF t A b.data.toList)) (hA : A.length < 300) (hb : b.size ≤ 300) (ht : t ≤ 2) :
    Calls Tryd.prog 125 #[.pointer (some ⟨g, 0, none⟩), .int .u8 (c.toNat : Int), .string b, .int .i64 (t : Int)] w fun e w' => e = .returned (.tuple #[]) ∧ RwAt w' g 0 (edF t (c :: A) b.data.toList) ∧ w.grownBy w' (some g) := by
  have hz := row_zero
  have hgl := hr.lt
  have r0 := row_new w 159
  have r1 := hr.alloc (.cells (Array.replicate 301 (.int .i64 0)) 159)
  have hg0 : w.grownBy (w.alloc (.cells (Array.replicate 301 (.int .i64 0)) 159)) (some g) := World.grownBy_alloc w _ (some g)
  have r0' : RwAt (w.alloc (.cells (Array.replicate 301 (.int .i64 0)) 159)).drew w.heap.size 0 (fun _ => 0) := r0.later (Below.refl _ _).drew
  have r1' : RwAt (w.alloc (.cells (Array.replicate 301 (.int .i64 0)) 159)).drew g 0 (edF t A b.data.toList) := r1.later (Below.refl _ _).drew
  have hcp := row_copy hb r0' r1'
  have hc1 := row_cut g b.size hb
  have hc2 := row_all w.heap.size
  have hwr : IntKind.i64.wrap ((b.size : Int) + 1) = (b.size : Int) + 1 := by rw [IntKind.wrap_i64]; omega
  go_enter Tryd.func125, Tryd.ntmps125
  go_wp2
  go_region
  have q0 := r0'.copied (edF t A b.data.toList) (b.size + 1) (by omega) (fun j hj => edF_out t A b (by omega))
  have q1 := r1'.keep (G := w.heap.size) (by omega) ((rowL (edF t A b.data.toList)).take (b.size + 1)) 0
  have hg1 := rg_new (rg_drew hg0) (Nat.le_refl _) ((rowL (edF t A b.data.toList)).take (b.size + 1)) 0
  obtain ⟨W1, hW1⟩ : ∃ W1, ((w.alloc (.cells (Array.replicate 301 (.int .i64 0)) 159)).drew.setCells w.heap.size 0 ((rowL (edF t A b.data.toList)).take (b.size + 1))) = W1 := ⟨_, rfl⟩
  rw [hW1] at q0 q1 hg1 ⊢
  clear hW1 hcp hc1 hc2 r0' r1' r0 r1 hg0 hr hz
  obtain ⟨c1, f1⟩ := q1.at0 (j := b.size) (by omega)
  have hbd := edF_bd t (A := A) (B := b.data.toList) (by omega) (by simpa using hb)
  have e1 := hbd b.size
  have HN : Hid (edF t (c :: A) b.data.toList b.size = edF t A b.data.toList b.size + 1) := hide (by
    rw [edF_at t _ b (Nat.le_refl _), edF_at t _ b (Nat.le_refl _), drop_end b _ (Nat.le_refl _), ed_nr, ed_nr]
    simp)
  obtain ⟨x1, hx1⟩ : ∃ x1, edF t A b.data.toList b.size = x1 := ⟨_, rfl⟩
  rw [hx1] at c1 e1
  go_wp2
  go_region
  have q2 : RwAt (W1.setCell ⟨g, b.size, none⟩ (.int .i64 (x1 + 1))).drew g 0 (mixF t c A b.data.toList b.size) := by
    refine ((q1.congr (f' := mixF t c A b.data.toList (b.size + 1)) (fun j _ => ?_)).mix (by omega) (by rw [HN.out, hx1])).drew
    unfold mixF
    by_cases hj : b.size + 1 ≤ j
    · rw [if_pos hj, edF_out t _ b (by omega), edF_out t _ b (by omega)]
    · rw [if_neg hj]
  have q3 : RwAt (W1.setCell ⟨g, b.size, none⟩ (.int .i64 (x1 + 1))).drew w.heap.size 0 (edF t A b.data.toList) := (q0.far (g' := g) _ (by omega)).drew
  have hg2 := rg_drew (rg_set hg1 b.size (.int .i64 (x1 + 1)))
  have HQ := hide (And.intro q2 (And.intro q3 hg2))
  clear q2 q3 hg2 q0 q1 hg1 c1 f1 HN hx1 e1
  generalize (W1.setCell ⟨g, b.size, none⟩ (.int .i64 (x1 + 1))).drew = W2 at HQ ⊢
  go_wp2
  go_loopw [9] (fun a wr => ∃ k : Nat, k ≤ b.size ∧ a = .int .i64 ((k : Int) - 1) ∧ Hid (RwAt wr g 0 (mixF t c A b.data.toList k) ∧ RwAt wr w.heap.size 0 (edF t A b.data.toList) ∧ w.grownBy wr (some g))) (fun a _ => (intOf a + 1).toNat)
  case atStart => exact ⟨b.size, Nat.le_refl _, rfl, HQ⟩
  case round =>
    obtain ⟨k, hk, rfl, HR⟩ := hrel
    clear HQ
    cases k with
    | zero =>
      go_wp2
      go_end0
      exact ⟨rfl, HR.out.1.congr (fun j _ => by unfold mixF; rw [if_pos (Nat.zero_le _)]), HR.out.2.2⟩
    | succ k =>
      have hkb : k < b.size := by omega
      obtain ⟨c0, f0⟩ := HR.out.1.at0 (j := k) (by omega)
      obtain ⟨c1, _⟩ := HR.out.1.at0 (j := k + 1) (by omega)
      obtain ⟨d0, _⟩ := HR.out.2.1.at0 (j := k) (by omega)
      obtain ⟨d1, _⟩ := HR.out.2.1.at0 (j := k + 1) (by omega)
      have ek : (((k + 1 : Nat) : Int) - 1) = (k : Int) := by omega
      rw [ek]
      have b1 := hbd k
      have b2 := hbd (k + 1)
      have b3 := edF_bd t (A := c :: A) (B := b.data.toList) (by simp; omega) (by simpa using hb) (k + 1)
      have em : mixF t c A b.data.toList (k + 1) (k + 1) = edF t (c :: A) b.data.toList (k + 1) := by unfold mixF; rw [if_pos (by omega)]
      rw [em] at c1
      by_cases he : c = b[k]
      · have hq : ((c.toNat : Int) == (b[k].toNat : Int)) = true := u8_beq he
        have HV := hide (ed_same_at t (A := A) hkb he)
        clear he em hbd
        obtain ⟨y1, hy1⟩ : ∃ y, edF t A b.data.toList (k + 1) = y := ⟨_, rfl⟩
        rw [hy1] at d1 b2 HV
        clear hy1 b1 b3 c1 d0
        go_wp2
        go_region
        go_wp2
        refine ⟨⟨k, by omega, by go_num, hide ⟨(HR.out.1.mix (by omega) HV.out).drew, (HR.out.2.1.far (g' := g) _ (by omega)).drew, rg_drew (rg_set HR.out.2.2 k _)⟩⟩, by simp [intOf]⟩
      · have hq : ((c.toNat : Int) == (b[k].toNat : Int)) = false := u8_bne he
        have HV := hide (ed_other_at t (A := A) hkb he)
        clear he em hbd
        obtain ⟨y0, hy0⟩ : ∃ y, edF t A b.data.toList k = y := ⟨_, rfl⟩
        obtain ⟨y1, hy1⟩ : ∃ y, edF t A b.data.toList (k + 1) = y := ⟨_, rfl⟩
        obtain ⟨z1, hz1⟩ : ∃ y, edF t (c :: A) b.data.toList (k + 1) = y := ⟨_, rfl⟩
        rw [hy1] at d1 b2 HV
        rw [hy0] at d0 b1 HV
        rw [hz1] at c1 b3 HV
        clear hy1 hy0 hz1
        go_wp2
        go_region
        go_wp2
        refine ⟨⟨k, by omega, by go_num, hide ⟨(HR.out.1.mix (by omega) (by rw [HV.out]; split <;> split <;> omega)).drew, (HR.out.2.1.far (g' := g) _ (by omega)).drew, rg_drew (rg_set HR.out.2.2 k _)⟩⟩, by simp [intOf]⟩
end Go.Proofs.YtojlnnlcbpjdlaaDoor
