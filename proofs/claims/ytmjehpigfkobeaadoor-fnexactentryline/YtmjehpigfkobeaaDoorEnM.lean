/- An entry's line: the model's EntryLine. -/
import Derived.Test.YtmjehpigfkobeaaDoorEnL
import Derived.Deep.RegionHeld3
set_option linter.unusedVariables false
namespace Go.Proofs.YtmjehpigfkobeaaDoor
open Go.RowKit Go.Shelf
open Doc1

attribute [local go_sem] Oper.semAt_some

/-- What stays while the model makes a line: an entry's box. -/
structure MS (w0 : World) (bx : Nat) (cs : Array Value) (W : World) : Prop where
  bel : Below w0.heap.size w0 W
  box : W.heap[bx]? = some (.cells cs 32 (0, 0))
theorem MS.later {w0 : World} {bx : Nat} {cs : Array Value} {W W1 : World} (h : MS w0 bx cs W) (hb : Below W.heap.size W W1) : MS w0 bx cs W1 :=
  ⟨h.bel.trans (hb.mono h.bel.size), (hb.block bx (Array.getElem?_eq_some_iff.1 h.box).1).trans h.box⟩
theorem MS.drew {w0 : World} {bx : Nat} {cs : Array Value} {W : World} (h : MS w0 bx cs W) : MS w0 bx cs W.drew := h.later ((Below.refl _ _).drew)

set_option maxRecDepth 100000 in
set_option maxHeartbeats 16000000 in
theorem l18Entry_any {w : World} {aw : Option Addr} {g cap : Nat} {l : List Pt} (c s : Int) (h : Pin w aw g cap l) (he : enG ⟨c, s, l⟩) :
    Calls Tryd.prog 47 #[.agg #[.int .i64 c, .int .i64 s, .slice aw l.length cap]] w fun e w' => e = .returned (.string (seB (hdB c s l))) ∧ Below w.heap.size w w' := by
  have hb : Below w.heap.size w (w.alloc (.cells #[.int .i64 c, .int .i64 s, .slice aw l.length cap] 32)) := (Below.refl _ _).alloc (Nat.le_refl _) _
  have HL : Hid (MS w w.heap.size #[.int .i64 c, .int .i64 s, .slice aw l.length cap] (w.alloc (.cells #[.int .i64 c, .int .i64 s, .slice aw l.length cap] 32))) := hide ⟨hb, heap_alloc_new w _⟩
  obtain ⟨⟨c0, c1⟩, ⟨s0, s1⟩, hg⟩ := he
  simp only at c0 c1 s0 s1 hg
  have IO := fun w' (hb' : Below w.heap.size w w') => l18Op_any (h.later hb') (goodO_le hg).1 (goodO_pk hg)
  have hsz := opB_size hg
  unfold hdB
  have IA := fun w' => numS_any c.toNat w' (by omega)
  have IB := fun w' => numS_any s.toNat w' (by omega)
  rw [Int.toNat_of_nonneg (by omega)] at IA IB
  have da := baD_size c.toNat
  have db := baD_size s.toNat
  have SE := hide (fun X w' hs => sealS X w' hs)
  generalize baD c.toNat = DA at *
  generalize baD s.toNat = DB at *
  generalize opB l = OB at *
  replace IA := hide IA
  replace IB := hide IB
  replace IO := hide IO
  have ha : DA.size ≤ 1000 := by omega
  have hb2 : DB.size ≤ 1001 := by omega
  have hsum : (DA ++ (⟨#[32]⟩ : ByteArray) ++ DB ++ (⟨#[32]⟩ : ByteArray) ++ OB).size ≤ 1000000 := by
    have h32 : (⟨#[32]⟩ : ByteArray).size = 1 := rfl
    rw [ByteArray.size_append, ByteArray.size_append, ByteArray.size_append, ByteArray.size_append]
    omega
  replace hsum := hide hsum
  clear hg h hb
  go_enter Tryd.func47, Tryd.ntmps47
  have KS : Hid (∀ W, MS w w.heap.size #[.int .i64 c, .int .i64 s, .slice aw l.length cap] W → (W.cell? ⟨w.heap.size, 0, none⟩ = some (.int .i64 c) ∧ W.cell? ⟨w.heap.size, 1, none⟩ = some (.int .i64 s) ∧ W.cell? ⟨w.heap.size, 2, none⟩ = some (.slice aw l.length cap))) := hide (fun W hm => ⟨(Lib.cell_of_heap hm.box 0).trans rfl, (Lib.cell_of_heap hm.box 1).trans rfl, (Lib.cell_of_heap hm.box 2).trans rfl⟩)
  go_wp2_with fail
  refine wp_region_held_drew (S := fun w' => w'.cell? ⟨w.heap.size, 0, none⟩ = some (.int .i64 c) ∧ w'.cell? ⟨w.heap.size, 1, none⟩ = some (.int .i64 s) ∧ w'.cell? ⟨w.heap.size, 2, none⟩ = some (.slice aw l.length cap)) (by kernel_rfl) (KS.out _ HL.out.drew) (fun hS => ?_)
  have HLd := hide HL.out.drew
  obtain ⟨wa, hwa⟩ : ∃ w', (w.alloc (.cells #[.int .i64 c, .int .i64 s, .slice aw l.length cap] 32)).drew = w' := ⟨_, rfl⟩
  rw [hwa] at HLd ⊢
  have Hwa := HLd
  clear hwa hS HLd
  refine wpAnyH_take (i := 0) (v := .pointer (some ⟨w.heap.size, 0, none⟩)) (List.getElem?_toArray.trans rfl) (by kernel_rfl) (by kernel_rfl) (by kernel_rfl) (fun _ _ _ h => h) (Or.inl ⟨by rfl, fun w' hw => by go_simp⟩) (KS.out _ Hwa.out) ?_
  try simp only [Act.put, List.setIfInBounds_toArray, List.set_cons_zero, List.set_cons_succ]
  refine wpAnyH_take (i := 1) (v := .int .i64 c) (List.getElem?_toArray.trans rfl) (by kernel_rfl) (by kernel_rfl) (by kernel_rfl) (fun _ _ _ h => h) (Or.inl ⟨by rfl, fun w' hw => by obtain ⟨h0, h1, h2⟩ := hw; go_simp⟩) (KS.out _ Hwa.out) ?_
  try simp only [Act.put, List.setIfInBounds_toArray, List.set_cons_zero, List.set_cons_succ]
  refine wpAnyH_take (i := 4) (v := .pointer (some ⟨w.heap.size, 1, none⟩)) (List.getElem?_toArray.trans rfl) (by kernel_rfl) (by kernel_rfl) (by kernel_rfl) (fun _ _ _ h => h) (Or.inl ⟨by rfl, fun w' hw => by go_simp⟩) (KS.out _ Hwa.out) ?_
  try simp only [Act.put, List.setIfInBounds_toArray, List.set_cons_zero, List.set_cons_succ]
  refine wpAnyH_take (i := 5) (v := .int .i64 s) (List.getElem?_toArray.trans rfl) (by kernel_rfl) (by kernel_rfl) (by kernel_rfl) (fun _ _ _ h => h) (Or.inl ⟨by rfl, fun w' hw => by obtain ⟨h0, h1, h2⟩ := hw; go_simp⟩) (KS.out _ Hwa.out) ?_
  try simp only [Act.put, List.setIfInBounds_toArray, List.set_cons_zero, List.set_cons_succ]
  refine wpAnyH_take (i := 9) (v := .pointer (some ⟨w.heap.size, 2, none⟩)) (List.getElem?_toArray.trans rfl) (by kernel_rfl) (by kernel_rfl) (by kernel_rfl) (fun _ _ _ h => h) (Or.inl ⟨by rfl, fun w' hw => by go_simp⟩) (KS.out _ Hwa.out) ?_
  try simp only [Act.put, List.setIfInBounds_toArray, List.set_cons_zero, List.set_cons_succ]
  refine wpAnyH_take (i := 10) (v := .slice aw l.length cap) (List.getElem?_toArray.trans rfl) (by kernel_rfl) (by kernel_rfl) (by kernel_rfl) (fun _ _ _ h => h) (Or.inl ⟨by rfl, fun w' hw => by obtain ⟨h0, h1, h2⟩ := hw; go_simp⟩) (KS.out _ Hwa.out) ?_
  try simp only [Act.put, List.setIfInBounds_toArray, List.set_cons_zero, List.set_cons_succ]
  refine wpAnyH_ready (rs := [2]) (by kernel_rfl) (by simp) ?_
  refine AllReadyH.cons (List.getElem?_toArray.trans rfl) (fun K hK => ?_) ?_
  · skip
    go_simp
    go_at_call 62
    refine (IA.out _).mono ?_
    rintro e x1 ⟨rfl, hbn⟩
    have Hx1 := hide (Hwa.out.later hbn)
    clear hbn
    go_simp
    refine hK.out _ _ (KS.out _ Hx1.out) (fun _ => ?_)
    clear hK K
    try simp only [Act.put, List.setIfInBounds_toArray, List.set_cons_zero, List.set_cons_succ]
    refine wpAnyH_take (i := 3) (v := .string (DA ++ (⟨#[32]⟩ : ByteArray))) (List.getElem?_toArray.trans rfl) (by kernel_rfl) (by kernel_rfl) (by kernel_rfl) (fun _ _ _ h => h) (Or.inl ⟨by rfl, fun w' hw => by go_simp; omega⟩) (KS.out _ Hx1.out) ?_
    try simp only [Act.put, List.setIfInBounds_toArray, List.set_cons_zero, List.set_cons_succ]
    refine wpAnyH_ready (rs := [6]) (by kernel_rfl) (by simp) ?_
    refine AllReadyH.cons (List.getElem?_toArray.trans rfl) (fun K hK => ?_) ?_
    · skip
      go_simp
      go_at_call 62
      refine (IB.out _).mono ?_
      rintro e x2 ⟨rfl, hbn⟩
      have Hx2 := hide (Hx1.out.later hbn)
      clear hbn
      go_simp
      refine hK.out _ _ (KS.out _ Hx2.out) (fun _ => ?_)
      clear hK K
      try simp only [Act.put, List.setIfInBounds_toArray, List.set_cons_zero, List.set_cons_succ]
      refine wpAnyH_take (i := 7) (v := .string (DA ++ (⟨#[32]⟩ : ByteArray) ++ DB)) (List.getElem?_toArray.trans rfl) (by kernel_rfl) (by kernel_rfl) (by kernel_rfl) (fun _ _ _ h => h) (Or.inl ⟨by rfl, fun w' hw => by go_simp; omega⟩) (KS.out _ Hx2.out) ?_
      try simp only [Act.put, List.setIfInBounds_toArray, List.set_cons_zero, List.set_cons_succ]
      refine wpAnyH_take (i := 8) (v := .string (DA ++ (⟨#[32]⟩ : ByteArray) ++ DB ++ (⟨#[32]⟩ : ByteArray))) (List.getElem?_toArray.trans rfl) (by kernel_rfl) (by kernel_rfl) (by kernel_rfl) (fun _ _ _ h => h) (Or.inl ⟨by rfl, fun w' hw => by go_simp; omega⟩) (KS.out _ Hx2.out) ?_
      try simp only [Act.put, List.setIfInBounds_toArray, List.set_cons_zero, List.set_cons_succ]
      refine wpAnyH_ready (rs := [11]) (by kernel_rfl) (by simp) ?_
      refine AllReadyH.cons (List.getElem?_toArray.trans rfl) (fun K hK => ?_) ?_
      · skip
        go_simp
        go_at_call 36
        refine (IO.out _ Hx2.out.bel).mono ?_
        rintro e x3 ⟨rfl, hbn⟩
        have Hx3 := hide (Hx2.out.later hbn)
        clear hbn
        go_simp
        refine hK.out _ _ (KS.out _ Hx3.out) (fun _ => ?_)
        clear hK K
        try simp only [Act.put, List.setIfInBounds_toArray, List.set_cons_zero, List.set_cons_succ]
        refine wpAnyH_take (i := 12) (v := .string (DA ++ (⟨#[32]⟩ : ByteArray) ++ DB ++ (⟨#[32]⟩ : ByteArray) ++ OB)) (List.getElem?_toArray.trans rfl) (by kernel_rfl) (by kernel_rfl) (by kernel_rfl) (fun _ _ _ h => h) (Or.inl ⟨by rfl, fun w' hw => by go_simp; omega⟩) (KS.out _ Hx3.out) ?_
        try simp only [Act.put, List.setIfInBounds_toArray, List.set_cons_zero, List.set_cons_succ]
        refine wpAnyH_ready (rs := [13]) (by kernel_rfl) (by simp) ?_
        refine AllReadyH.cons (List.getElem?_toArray.trans rfl) (fun K hK => ?_) ?_
        · skip
          go_simp
          go_at_call 70
          refine (SE.out _ _ hsum.out).mono ?_
          rintro e x4 ⟨rfl, hbn⟩
          have Hx4 := hide (Hx3.out.later hbn)
          clear hbn
          go_simp
          refine hK.out _ _ (KS.out _ Hx4.out) (fun _ => ?_)
          clear hK K
          try simp only [Act.put, List.setIfInBounds_toArray, List.set_cons_zero, List.set_cons_succ]
          refine wpAnyH_take (i := 14) (v := .string (seB (DA ++ (⟨#[32]⟩ : ByteArray) ++ DB ++ (⟨#[32]⟩ : ByteArray) ++ OB))) (List.getElem?_toArray.trans rfl) (by kernel_rfl) (by kernel_rfl) (by kernel_rfl) (fun _ _ _ h => h) (Or.inl ⟨by rfl, fun w' hw => by go_simp⟩) (KS.out _ Hx4.out) ?_
          try simp only [Act.put, List.setIfInBounds_toArray, List.set_cons_zero, List.set_cons_succ]
          refine wpAnyH_done (by kernel_rfl) ?_ _
          go_wp2
          go_ret
          exact ⟨rfl, Hx4.out.bel⟩
        exact AllReadyH.nil
      exact AllReadyH.nil
    exact AllReadyH.nil
  exact AllReadyH.nil

set_option maxHeartbeats 2000000 in
theorem lineS {w : World} {aw : Option Addr} {g cap : Nat} {l : List Pt} (c s : Int) (h : Pin w aw g cap l) :
    Calls Tryd.prog 16 #[.agg #[.int .i64 c, .int .i64 s, .slice aw l.length cap]] w fun e w' => e = .returned (.tuple #[.string (lnR c s l), .bool (decide (enG ⟨c, s, l⟩))]) ∧ Below w.heap.size w w' := by
  have hb : Below w.heap.size w (w.alloc (.cells #[.int .i64 c, .int .i64 s, .slice aw l.length cap] 32)) := (Below.refl _ _).alloc (Nat.le_refl _) _
  have IE := fun w' (hb' : Below w.heap.size w w') => l15Entry_any c s (h.later hb')
  have LE := fun w' (hb' : Below w.heap.size w w') he => l18Entry_any c s (h.later hb') he
  unfold lnR
  clear h
  by_cases he : enG ⟨c, s, l⟩
  · rw [if_pos he, decide_eq_true he]
    rw [decide_eq_true he] at IE
    replace IE := hide IE
    have LE2 := hide (fun w' hb' => LE w' hb' he)
    generalize seB (hdB c s l) = X at *
    clear he LE
    go_enter Tryd.func16, Tryd.ntmps16
    go_wp2_with (first
      | (go_at_call 46; refine (IE.out _ hb).mono ?_; rintro e w2 ⟨rfl, hb2⟩; have HB2 := hide (hb.trans (hb2.mono hb.size)); have hk := (hb2.block w.heap.size (by simp)).trans (heap_alloc_new w _); have d0 := (Lib.cell_of_heap hk 0).trans rfl; have d1 := (Lib.cell_of_heap hk 1).trans rfl; have d2 := (Lib.cell_of_heap hk 2).trans rfl; clear hb2 hk)
      | (go_at_call 47; refine (LE2.out _ HB2.out).mono ?_; rintro e w3 ⟨rfl, hb3⟩; have HB3 := hide (HB2.out.trans (hb3.mono HB2.out.size)); clear hb3))
    go_ret2
    exact ⟨rfl, HB3.out⟩
  · rw [if_neg he, decide_eq_false he]
    rw [decide_eq_false he] at IE
    replace IE := hide IE
    clear he LE
    go_enter Tryd.func16, Tryd.ntmps16
    go_wp2_with (go_at_call 46; refine (IE.out _ hb).mono ?_; rintro e w2 ⟨rfl, hb2⟩; have HB2 := hide (hb.trans (hb2.mono hb.size)); clear hb2)
    go_ret2
    exact ⟨rfl, HB2.out⟩

end Go.Proofs.YtmjehpigfkobeaaDoor
