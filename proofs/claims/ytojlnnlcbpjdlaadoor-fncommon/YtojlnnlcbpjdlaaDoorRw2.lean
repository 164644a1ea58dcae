/- The rows of all places of a text: impl.measure, and how far the texts are apart. -/
import Derived.Test.YtojlnnlcbpjdlaaDoorRw1
set_option linter.unusedVariables false
namespace Go.Proofs.YtojlnnlcbpjdlaaDoor
open Go.RowKit
open Doc1

/-- The rows of all places from k on lie in block G. -/
structure TbAt (w : World) (G t : Nat) (a b : ByteArray) (k : Nat) : Prop where
  z : ∀ i, i ≤ a.size → ∃ f, RwAt w G (i * 301) f
  r : ∀ i, k ≤ i → i ≤ a.size → RwAt w G (i * 301) (edF t (a.data.toList.drop i) b.data.toList)
theorem TbAt.later {w w1 : World} {G t k : Nat} {a b : ByteArray} (h : TbAt w G t a b k) (hb : Below w.heap.size w w1) : TbAt w1 G t a b k :=
  ⟨fun i hi => by obtain ⟨f, hf⟩ := h.z i hi; exact ⟨f, hf.later hb⟩, fun i h1 h2 => (h.r i h1 h2).later hb⟩
theorem TbAt.lt {w : World} {G t k : Nat} {a b : ByteArray} (h : TbAt w G t a b k) : G < w.heap.size := by obtain ⟨f, hf⟩ := h.z 0 (Nat.zero_le _); exact hf.lt
theorem RwAt.grown {w w1 : World} {g o g' : Nat} {f : Nat → Int} (h : RwAt w g o f) (hg : w.grownBy w1 (some g')) (hne : g' ≠ g) : RwAt w1 g o f := by
  have hlt := h.lt
  have he := hg.block g hlt (fun e => hne (Option.some.inj e).symm)
  refine ⟨fun j hj => (World.cell?_of_block he).trans (h.c j hj), fun j hj => ?_⟩
  have := h.z j hj
  unfold World.frozen? at this ⊢
  rw [he]
  exact this
theorem TbAt.grown {w w1 : World} {G t k g' : Nat} {a b : ByteArray} (h : TbAt w G t a b k) (hg : w.grownBy w1 (some g')) (hne : g' ≠ G) : TbAt w1 G t a b k :=
  ⟨fun i hi => by obtain ⟨f, hf⟩ := h.z i hi; exact ⟨f, hf.grown hg hne⟩, fun i h1 h2 => (h.r i h1 h2).grown hg hne⟩
/-- The row of the place ahead is laid in. -/
theorem TbAt.put {w : World} {G t k : Nat} {a b : ByteArray} (h : TbAt w G t a b (k + 1)) (hk : k ≤ a.size) : TbAt (w.setCells G (k * 301) (rowL (edF t (a.data.toList.drop k) b.data.toList))) G t a b k := by
  obtain ⟨f, hf⟩ := h.z k hk
  refine ⟨fun i hi => ?_, fun i h1 h2 => ?_⟩
  · by_cases he : i = k
    · subst he; exact ⟨_, hf.put _⟩
    · obtain ⟨f', hf'⟩ := h.z i hi
      exact ⟨f', hf'.apart _ (fun _ => by omega)⟩
  · by_cases he : i = k
    · subst he; exact hf.put _
    · exact (h.r i (by omega) h2).apart _ (fun _ => by omega)
theorem rg_refl (w : World) (r : Option Nat) : w.grownBy w r := ⟨rfl, rfl, rfl, Nat.le_refl _, fun _ _ _ => rfl⟩
theorem rg_cells (w : World) (g o : Nat) (vs : List Value) : w.grownBy (w.setCells g o vs) (some g) :=
  ⟨(os_setCells g vs o w).1, (os_setCells g vs o w).2.1, (os_setCells g vs o w).2.2, by rw [size_setCells]; exact Nat.le_refl _, fun i hi hr => heap_setCells g i (fun e => hr (by rw [e])) vs o w⟩
theorem row_bytes : (Tryd.prog.info? 159).map (fun i => (i.zero, i.size, i.bytes)) = some (some (.agg (Array.replicate 301 (.int .i64 0))), 301, 2408) := by kernel_rfl
/-- New rows are noughts. -/
theorem rows_made (n : Nat) (hn : n ≤ 301) (w : World) (k : IntKind) : (Instr.makeSlice 121 (.int k (n : Int)) (.int k (n : Int))).run Tryd.prog w = .ok (.slice (some ⟨w.heap.size, 0, none⟩) n n) (w.alloc (.cells (madeCells (Array.replicate 301 (.int .i64 0)) (n * 301)) 159)) := by
  have hi := row_bytes
  cases hq : Tryd.prog.info? 159 with
  | none => rw [hq] at hi; cases hi
  | some i =>
    rw [hq] at hi
    simp only [Option.map_some, Option.some.injEq, Prod.mk.injEq] at hi
    have := run_make (P := Tryd.prog) w 121 159 i _ (by kernel_rfl) hq hi.1 k k (n : Int) (n : Int) (by omega) (Int.le_refl _) (by rw [hi.2.2]; omega) (by omega)
    rw [this]
    simp only [Int.toNat_natCast, hi.2.1]
    rfl
theorem rows_new (n : Nat) (w : World) (t : TypeId) (i : Nat) (hi : i < n) : RwAt (w.alloc (.cells (madeCells (Array.replicate 301 (.int .i64 0)) (n * 301)) t)) w.heap.size (i * 301) (fun _ => 0) := by
  have hh := heap_alloc_new w (.cells (madeCells (Array.replicate 301 (.int .i64 0)) (n * 301)) t)
  refine ⟨fun j hj => ?_, fun j hj => frozen_of_row _ _ _ _ _ hh⟩
  rw [cell_of_row _ _ _ _ _ _ hh]
  have hlt : i * 301 + j < n * 301 := by
    have : (i + 1) * 301 ≤ n * 301 := Nat.mul_le_mul_right _ hi
    omega
  unfold madeCells
  rw [Array.getElem?_map, Array.getElem?_range, if_pos hlt]
  simp only [Option.map_some, Array.size_replicate, Option.some.injEq]
  rw [getElem!_pos _ _ (by rw [Array.size_replicate]; exact Nat.mod_lt _ (by omega)), Array.getElem_replicate]

set_option maxRecDepth 100000 in
set_option maxHeartbeats 4000000 in
theorem measure_good (t : Nat) (a b : ByteArray) (w : World) (hT : Tab w) (h1 : good a.data.toList = true) (h2 : good b.data.toList = true) (ha : a.size ≤ 300) (hb : b.size ≤ 300) (ht : t ≤ 2) :
    Calls Tryd.prog 89 #[.string a, .string b, .int .i64 (t : Int)] w fun e w' => ∃ G, e = .returned (.tuple #[.agg #[.string a, .string b, .slice (some ⟨G, 0, none⟩) (a.size + 1) (a.size + 1)], .bool true]) ∧ w.heap.size ≤ G ∧ TbAt w' G t a b 0 ∧ Below w.heap.size w w' := by
  have H1 : ∀ w1, Below w.heap.size w w1 → Calls Tryd.prog 66 #[.string a] w1 fun e w' => e = .returned (.bool true) ∧ w' = w1 := fun w1 hb1 => by
    have := goodTextI_any a w1 (by omega) (hT.below hb1)
    rw [h1] at this
    exact this
  have H2 : ∀ w1, Below w.heap.size w w1 → Calls Tryd.prog 66 #[.string b] w1 fun e w' => e = .returned (.bool true) ∧ w' = w1 := fun w1 hb1 => by
    have := goodTextI_any b w1 (by omega) (hT.below hb1)
    rw [h2] at this
    exact this
  replace H1 := hide H1
  replace H2 := hide H2
  clear h1 h2 hT
  go_enter Tryd.func89, Tryd.ntmps89
  go_wp2_with fail
  refine (H1.out _ ((Below.refl _ _).alloc (Nat.le_refl _) _)).mono ?_
  rintro e w' ⟨rfl, hw⟩
  subst hw
  go_wp2_with fail
  refine (H2.out _ ((Below.refl _ _).alloc (Nat.le_refl _) _)).mono ?_
  rintro e w' ⟨rfl, hw⟩
  subst hw
  have hB1 : Below w.heap.size w (w.alloc (.cells #[.string ⟨#[]⟩, .string ⟨#[]⟩, .slice none 0 0] 123)) := (Below.refl _ _).alloc (Nat.le_refl _) _
  have hm1 := heap_alloc_new w (.cells #[.string ⟨#[]⟩, .string ⟨#[]⟩, .slice none 0 0] 123)
  have hs1 : (w.alloc (.cells #[.string ⟨#[]⟩, .string ⟨#[]⟩, .slice none 0 0] 123)).heap.size = w.heap.size + 1 := by simp
  obtain ⟨w1, hw1⟩ : ∃ w1, w.alloc (.cells #[.string ⟨#[]⟩, .string ⟨#[]⟩, .slice none 0 0] 123) = w1 := ⟨_, rfl⟩
  rw [hw1] at hB1 hm1 hs1 ⊢
  clear hw1 H1 H2
  have hmk := rows_made (a.size + 1) (by omega) w1 .i64
  have ecast : ((a.size + 1 : Nat) : Int) = (a.size : Int) + 1 := by omega
  rw [ecast] at hmk
  have RE := hide (fun w2 => rowAtEnd_any t b w2 hb)
  have hwr : IntKind.i64.wrap ((a.size : Int) + 1) = (a.size : Int) + 1 := by rw [IntKind.wrap_i64]; omega
  go_wp2_with fail
  have hT0 : TbAt (w1.alloc (.cells (madeCells (Array.replicate 301 (.int .i64 0)) ((a.size + 1) * 301)) 159)) (w.heap.size + 1) t a b (a.size + 1) := by
    rw [← hs1]
    exact ⟨fun i hi => ⟨_, rows_new (a.size + 1) w1 _ i (by omega)⟩, fun i h1 h2 => absurd h1 (by omega)⟩
  have hB2 := hB1.alloc hB1.size (.cells (madeCells (Array.replicate 301 (.int .i64 0)) ((a.size + 1) * 301)) 159)
  have hm2 := (((Below.refl w1.heap.size w1).alloc (Nat.le_refl _) (.cells (madeCells (Array.replicate 301 (.int .i64 0)) ((a.size + 1) * 301)) 159)).block w.heap.size (by omega)).trans hm1
  have hs2 : (w1.alloc (.cells (madeCells (Array.replicate 301 (.int .i64 0)) ((a.size + 1) * 301)) 159)).heap.size = w.heap.size + 2 := by simp [hs1]
  clear hmk hB1 hm1
  generalize w1.alloc (.cells (madeCells (Array.replicate 301 (.int .i64 0)) ((a.size + 1) * 301)) 159) = w2 at *
  refine (RE.out w2).mono ?_
  rintro e w3 ⟨rfl, hb3⟩
  have hT3 := hT0.later hb3
  have hB3 := hB2.trans (hb3.mono hB2.size)
  have hm3 := (hb3.block w.heap.size (by omega)).trans hm2
  have hs3 := hb3.size
  rw [hs2] at hs3
  clear hT0 hB2 hm2 hb3 hs2 hs1 RE
  obtain ⟨F, hF⟩ : ∃ F, edF t [] b.data.toList = F := ⟨_, rfl⟩
  have HF : Hid (edF t (a.data.toList.drop a.size) b.data.toList = F) := hide (by rw [drop_end a _ (Nat.le_refl _)]; exact hF)
  rw [hF]
  have hz := row_zero
  have r0 := row_new w3 159
  have r1 := r0.put F
  have hl := rowL_len F
  obtain ⟨f9, hf9⟩ := hT3.z a.size (Nat.le_refl _)
  have r2 := (hf9.alloc (.cells (Array.replicate 301 (.int .i64 0)) 159)).keep (G := w3.heap.size) (by omega) (rowL F) 0
  have hth1 := hide (r0.there F)
  have hrg1 := hide r1.range
  have hth2 := hide (r2.there F)
  have hRow := hide (r1.apart (g' := w.heap.size + 1) (o' := a.size * 301) F (fun e => absurd e (by omega)))
  have hTab := hide (by
    have := ((hT3.later ((Below.refl _ _).alloc (Nat.le_refl _) (.cells (Array.replicate 301 (.int .i64 0)) 159))).grown (rg_cells _ w3.heap.size 0 (rowL F)) (by omega))
    exact this)
  have HQ : Hid (RwAt ((((w3.alloc (.cells (Array.replicate 301 (.int .i64 0)) 159)).setCells w3.heap.size 0 (rowL F))).setCells (w.heap.size + 1) (a.size * 301) (rowL F)) w3.heap.size 0 (edF t (a.data.toList.drop a.size) b.data.toList) ∧ TbAt ((((w3.alloc (.cells (Array.replicate 301 (.int .i64 0)) 159)).setCells w3.heap.size 0 (rowL F))).setCells (w.heap.size + 1) (a.size * 301) (rowL F)) (w.heap.size + 1) t a b a.size ∧ Below w.heap.size w ((((w3.alloc (.cells (Array.replicate 301 (.int .i64 0)) 159)).setCells w3.heap.size 0 (rowL F))).setCells (w.heap.size + 1) (a.size * 301) (rowL F)) ∧ ((((w3.alloc (.cells (Array.replicate 301 (.int .i64 0)) 159)).setCells w3.heap.size 0 (rowL F))).setCells (w.heap.size + 1) (a.size * 301) (rowL F)).heap[w.heap.size]? = some (.cells #[.string ⟨#[]⟩, .string ⟨#[]⟩, .slice none 0 0] 123)) := hide (by
    rw [HF.out]
    refine ⟨hRow.out, ?_, Below.setCells (by omega) _ _ _ (Below.setCells (by omega) _ _ _ (hB3.alloc hB3.size _)), ?_⟩
    · have := hTab.out.put (k := a.size) (Nat.le_refl _)
      rwa [HF.out] at this
    · rw [heap_setCells _ _ (by omega), heap_setCells _ _ (by omega), ((Below.refl w3.heap.size w3).alloc (Nat.le_refl _) _).block w.heap.size (by omega)]
      exact hm3)
  clear r0 r1 r2 hf9 hRow hTab hB3 hm3 hT3 HF hF
  have hone := rowL_one F
  obtain ⟨R, hR⟩ : ∃ R, rowL F = R := ⟨_, rfl⟩
  rw [hR] at hth1 hrg1 hth2 hl hone HQ ⊢
  clear hR
  go_wp2_with (first | (refine wpList_store_mid (by rfl) 159 _ _ (by rfl) _ _ R.toArray (by rfl) (by rfl) hth1.out (by rw [row_size, List.size_toArray, hl]) hone ?_) | (refine wpList_load_mid (by rfl) 159 _ (by rfl) _ _ (by rfl) R _ hrg1.out row_und rfl (by rw [hl]; exact row_size) ?_) | (refine wpList_store_mid (by rfl) 159 _ _ (by rfl) _ _ R.toArray (by rfl) (by rfl) hth2.out (by rw [row_size, List.size_toArray, hl]) hone ?_))
  clear hth1 hrg1 hth2
  generalize (((w3.alloc (.cells (Array.replicate 301 (.int .i64 0)) 159)).setCells w3.heap.size 0 R)).setCells (w.heap.size + 1) (a.size * 301) R = W4 at HQ ⊢
  clear hl hone
  go_loopw [10] (fun x wr => ∃ k : Nat, k ≤ a.size ∧ x = .int .i64 ((k : Int) - 1) ∧ Hid (RwAt wr w3.heap.size 0 (edF t (a.data.toList.drop k) b.data.toList) ∧ TbAt wr (w.heap.size + 1) t a b k ∧ Below w.heap.size w wr ∧ wr.heap[w.heap.size]? = some (.cells #[.string ⟨#[]⟩, .string ⟨#[]⟩, .slice none 0 0] 123))) (fun x _ => (intOf x + 1).toNat)
  case atStart => exact ⟨a.size, Nat.le_refl _, rfl, HQ⟩
  case round =>
    obtain ⟨k, hk, rfl, HR⟩ := hrel
    clear HQ
    cases k with
    | zero =>
      have hm := HR.out.2.2.2
      have c0 := cell_of_row wr w.heap.size 0 _ _ _ hm
      have c1 := cell_of_row wr w.heap.size 1 _ _ _ hm
      have c2 := cell_of_row wr w.heap.size 2 _ _ _ hm
      have f0 := frozen_of_row wr w.heap.size 0 _ _ hm
      have f1 := frozen_of_row wr w.heap.size 1 _ _ hm
      have f2 := frozen_of_row wr w.heap.size 2 _ _ hm
      simp only [List.getElem?_toArray, List.getElem?_cons_zero, List.getElem?_cons_succ] at c0 c1 c2
      have hm3 := heap_setCell_same _ w.heap.size 2 _ _ (.slice (some ⟨w.heap.size + 1, 0, none⟩) (a.size + 1) (a.size + 1)) (heap_setCell_same _ w.heap.size 1 _ _ (.string b) (heap_setCell_same wr w.heap.size 0 _ _ (.string a) hm))
      have hld := hide (run_loadVar_row (P := Tryd.prog) _ w.heap.size _ 123 _ _ _ hm3 Tryd.underlying123 rfl (by kernel_rfl))
      have hts : TbAt (((wr.setCell ⟨w.heap.size, 0, none⟩ (.string a)).setCell ⟨w.heap.size, 1, none⟩ (.string b)).setCell ⟨w.heap.size, 2, none⟩ (.slice (some ⟨w.heap.size + 1, 0, none⟩) (a.size + 1) (a.size + 1))) (w.heap.size + 1) t a b 0 := HR.out.2.1.grown (rg_set (rg_set (rg_set (rg_refl _ _) _ _) _ _) _ _) (by omega)
      have hbs : Below w.heap.size w (((wr.setCell ⟨w.heap.size, 0, none⟩ (.string a)).setCell ⟨w.heap.size, 1, none⟩ (.string b)).setCell ⟨w.heap.size, 2, none⟩ (.slice (some ⟨w.heap.size + 1, 0, none⟩) (a.size + 1) (a.size + 1))) := HR.out.2.2.1.grown (rg_set (rg_set (rg_set (rg_refl _ _) _ _) _ _) _ _) HR.out.2.2.1.size (fun b e => by cases e; exact Nat.le_refl _)
      have HE := hide (And.intro hts hbs)
      clear hm hm3 hts hbs
      go_wp2
      refine bodyPost_ret (v := .tuple #[.agg #[.string a, .string b, .slice (some ⟨w.heap.size + 1, 0, none⟩) (a.size + 1) (a.size + 1)], .bool true]) ?_ rfl ⟨w.heap.size + 1, rfl, by omega, HE.out.1, HE.out.2⟩
      have hld' := hld.out
      rw [results_cell_tmp rfl]
      simp [asAddr, Result.andThen, hld']
    | succ k =>
      have hkb : k < a.size := by omega
      have ek : (((k + 1 : Nat) : Int) - 1) = (k : Int) := by omega
      rw [ek]
      have SA := hide (stepAhead_any t a[k] b (a.data.toList.drop (k + 1)) w3.heap.size wr HR.out.1 (by rw [List.length_drop]; simp; omega) hb ht)
      rw [← drop_at a k hkb] at SA
      go_wp2_with fail
      refine SA.out.mono ?_
      rintro e w5 ⟨rfl, hr5, hg5⟩
      have hs5 := HR.out.2.2.1.size
      have hT5 := HR.out.2.1.grown hg5 (by omega)
      have hB5 : Below w.heap.size w w5 := HR.out.2.2.1.grown hg5 HR.out.2.2.1.size (fun b e => by cases e; omega)
      have hm5 := (hg5.block w.heap.size (by have := World.block_lt_of_cell? wr _ (HR.out.1.c 0 (by omega)); have : w3.heap.size < wr.heap.size := this; omega) (by intro e; have := Option.some.inj e; omega)).trans HR.out.2.2.2
      clear SA HR hg5
      obtain ⟨F, hF⟩ : ∃ F, edF t (a.data.toList.drop k) b.data.toList = F := ⟨_, rfl⟩
      obtain ⟨f9, hf9⟩ := hT5.z k (by omega)
      rw [hF] at hr5
      have hth2 := hide (hf9.there F)
      have hrg1 := hide hr5.range
      have HQ : Hid (RwAt (w5.setCells (w.heap.size + 1) (k * 301) (rowL F)) w3.heap.size 0 F ∧ TbAt (w5.setCells (w.heap.size + 1) (k * 301) (rowL F)) (w.heap.size + 1) t a b k ∧ Below w.heap.size w (w5.setCells (w.heap.size + 1) (k * 301) (rowL F)) ∧ (w5.setCells (w.heap.size + 1) (k * 301) (rowL F)).heap[w.heap.size]? = some (.cells #[.string ⟨#[]⟩, .string ⟨#[]⟩, .slice none 0 0] 123)) := hide (by
        refine ⟨hr5.apart F (fun e => absurd e (by omega)), ?_, Below.setCells (by omega) _ _ _ hB5, ?_⟩
        · have := hT5.put (k := k) (by omega)
          rwa [hF] at this
        · rw [heap_setCells _ _ (by omega)]; exact hm5)
      rw [← hF] at HQ
      have hl := rowL_len F
      have hone := rowL_one F
      rw [hF] at HQ
      have HE := hide hF
      clear hF hf9 hr5 hT5 hB5 hm5
      obtain ⟨R, hR⟩ : ∃ R, rowL F = R := ⟨_, rfl⟩
      rw [hR] at hrg1 hth2 hl hone HQ
      clear hR
      go_wp2_with (first | (refine wpList_load_mid (by rfl) 159 _ (by rfl) _ _ (by rfl) R _ hrg1.out row_und rfl (by rw [hl]; exact row_size) ?_) | (refine wpList_store_mid (by rfl) 159 _ _ (by rfl) _ _ R.toArray (by rfl) (by rfl) hth2.out (by rw [row_size, List.size_toArray, hl]) hone ?_))
      refine ⟨⟨k, by omega, rfl, hide ?_⟩, by simp [intOf]⟩
      rw [HE.out]
      exact HQ.out

set_option maxRecDepth 100000 in
set_option maxHeartbeats 2000000 in
theorem measure_bad (t : Nat) (a b : ByteArray) (w : World) (hT : Tab w) (ha : a.size ≤ 1048576) (hb : b.size ≤ 1048576) (h : (good a.data.toList && good b.data.toList) = false) :
    Calls Tryd.prog 89 #[.string a, .string b, .int .i64 (t : Int)] w fun e w' => e = .returned (.tuple #[.agg #[.string ⟨#[]⟩, .string ⟨#[]⟩, .slice none 0 0], .bool false]) ∧ Below w.heap.size w w' := by
  have H1 : ∀ w1, Below w.heap.size w w1 → Calls Tryd.prog 66 #[.string a] w1 fun e w' => e = .returned (.bool (good a.data.toList)) ∧ w' = w1 := fun w1 hb1 => goodTextI_any a w1 ha (hT.below hb1)
  have H2 : ∀ w1, Below w.heap.size w w1 → Calls Tryd.prog 66 #[.string b] w1 fun e w' => e = .returned (.bool (good b.data.toList)) ∧ w' = w1 := fun w1 hb1 => goodTextI_any b w1 hb (hT.below hb1)
  obtain ⟨x, hx⟩ : ∃ x, good a.data.toList = x := ⟨_, rfl⟩
  obtain ⟨y, hy⟩ : ∃ y, good b.data.toList = y := ⟨_, rfl⟩
  rw [hx] at H1 h
  rw [hy] at H2 h
  replace H1 := hide H1
  replace H2 := hide H2
  have hB1 : Below w.heap.size w (w.alloc (.cells #[.string ⟨#[]⟩, .string ⟨#[]⟩, .slice none 0 0] 123)) := (Below.refl _ _).alloc (Nat.le_refl _) _
  have hm1 := heap_alloc_new w (.cells #[.string ⟨#[]⟩, .string ⟨#[]⟩, .slice none 0 0] 123)
  have hld := hide (run_loadVar_row (P := Tryd.prog) _ w.heap.size _ 123 _ _ _ hm1 Tryd.underlying123 rfl (by kernel_rfl))
  have hbs := hide hB1
  clear hx hy hT hm1
  cases x
  · go_enter Tryd.func89, Tryd.ntmps89
    go_wp2_with fail
    refine (H1.out _ hB1).mono ?_
    rintro e w' ⟨rfl, hw⟩
    subst hw
    clear hB1
    go_wp2
    refine bodyPost_ret (v := .tuple #[.agg #[.string ⟨#[]⟩, .string ⟨#[]⟩, .slice none 0 0], .bool false]) ?_ rfl ⟨rfl, hbs.out⟩
    have hld' := hld.out
    rw [results_cell_tmp rfl]
    simp [asAddr, Result.andThen, hld']
  · simp at h
    subst h
    go_enter Tryd.func89, Tryd.ntmps89
    go_wp2_with fail
    refine (H1.out _ hB1).mono ?_
    rintro e w' ⟨rfl, hw⟩
    subst hw
    go_wp2_with fail
    refine (H2.out _ hB1).mono ?_
    rintro e w' ⟨rfl, hw⟩
    subst hw
    clear hB1
    go_wp2
    refine bodyPost_ret (v := .tuple #[.agg #[.string ⟨#[]⟩, .string ⟨#[]⟩, .slice none 0 0], .bool false]) ?_ rfl ⟨rfl, hbs.out⟩
    have hld' := hld.out
    rw [results_cell_tmp rfl]
    simp [asAddr, Result.andThen, hld']
end Go.Proofs.YtojlnnlcbpjdlaaDoor
