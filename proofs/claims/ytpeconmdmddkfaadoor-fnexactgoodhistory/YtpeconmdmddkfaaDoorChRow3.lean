/- Rows of changes and histories are copied. -/
import Derived.Test.YtpeconmdmddkfaaDoorChRow2
set_option linter.unusedVariables false
namespace Go.Proofs.YtpeconmdmddkfaaDoor
open Go.RowKit
open Doc1

/-- A block of cells. -/
def CB (w : World) (c : Nat) (cs : Array Value) : Prop := ∃ t, w.heap[c]? = some (.cells cs t (0, 0))
theorem CB.lt {w : World} {c : Nat} {cs : Array Value} (h : CB w c cs) : c < w.heap.size := by
  obtain ⟨t, h⟩ := h
  exact (Array.getElem?_eq_some_iff.1 h).1
theorem CB.block {w w1 : World} {c : Nat} {cs : Array Value} (h : CB w c cs) (hb : w1.heap[c]? = w.heap[c]?) : CB w1 c cs := by
  obtain ⟨t, h⟩ := h
  exact ⟨t, hb.trans h⟩
theorem CB.later {w w1 : World} {c : Nat} {cs : Array Value} (h : CB w c cs) (hb : Below w.heap.size w w1) : CB w1 c cs := h.block (hb.block c h.lt)
theorem CB.out {S : Nat → Prop} {w w1 : World} {c : Nat} {cs : Array Value} (h : CB w c cs) (ho : Out S w w1) (hn : ¬ S c) : CB w1 c cs := h.block (ho.block c h.lt hn)
theorem CB.cell {w : World} {c : Nat} {cs : Array Value} (h : CB w c cs) (j : Nat) {x : Value} (hx : cs[j]? = some x) : w.cell? ⟨c, j, none⟩ = some x := by
  obtain ⟨t, h⟩ := h
  rw [cell_of_row _ _ j _ _ (0, 0) h, hx]
theorem CB.fz {w : World} {c : Nat} {cs : Array Value} (h : CB w c cs) (j : Nat) : w.frozen? ⟨c, j, none⟩ = false := by
  obtain ⟨t, h⟩ := h
  simp [World.frozen?, h]
theorem CB.set {w : World} {c : Nat} {cs : Array Value} (h : CB w c cs) (j : Nat) (v : Value) {ds : Array Value} (e : cs.setIfInBounds j v = ds) : CB (w.setCell ⟨c, j, none⟩ v) c ds := by
  obtain ⟨t, h⟩ := h
  obtain ⟨hlt, hk⟩ := Array.getElem?_eq_some_iff.1 h
  refine ⟨t, ?_⟩
  show (w.heap.modify c _)[c]? = _
  rw [Array.getElem?_eq_getElem (by rw [Array.size_modify]; exact hlt), Array.getElem_modify_self, hk]
  simp only
  rw [← e]
  rfl
theorem CB.other {w : World} {c d : Nat} {cs : Array Value} (h : CB w c cs) (hd : d ≠ c) (j : Nat) (v : Value) : CB (w.setCell ⟨d, j, none⟩ v) c cs := h.block (Below.heap_setCell _ _ _ _ (by show c ≠ d; exact Ne.symm hd))
theorem CB.new (w : World) (cs : Array Value) (t : TypeId) : CB (w.alloc (.cells cs t)) w.heap.size cs := ⟨t, heap_alloc_new w _⟩

theorem Tryd.sizeChange : (Tryd.prog.info? 97).map (·.size) = some 1 := by kernel_rfl

theorem PCp.block {w w1 : World} {g : Nat} {l : List Pt} (h : PCp w g l) (hs : w.heap.size ≤ w1.heap.size) (e : w1.heap[g]? = w.heap[g]?) : PCp w1 g l :=
  ⟨fun j u hu => (World.cell?_of_block e).trans (h.at' j u hu), ⟨fun j hj => by rw [World.cell?_of_block e]; exact h.blk.ex j hj, fun j => by rw [World.frozen?_of_block e]; exact h.blk.fz j⟩, Nat.lt_of_lt_of_le h.lt hs⟩

set_option maxRecDepth 100000 in
set_option maxHeartbeats 2000000 in
theorem toChange_cp {w : World} {v : Value} {l : List Pt} (h : ArgP w v l) (hm : l.length ≤ 2000000) :
    Calls Tryd.prog 121 #[.agg #[v]] w fun e w' => ∃ g, e = .returned (.agg #[.slice (some ⟨g, 0, none⟩) l.length l.length]) ∧ w.heap.size ≤ g ∧ PCp w' g l ∧ Below w.heap.size w w' := by
  obtain ⟨a, c, ev⟩ := argP_shp h
  subst ev
  obtain ⟨w1, hw1⟩ : ∃ w1, w1 = ((w.alloc (.cells #[.slice a l.length c] 164)).alloc (.cells #[.slice none 0 0] 97)).alloc (.cells #[.slice none 0 0] 97) := ⟨_, rfl⟩
  have hs1 : w1.heap.size = w.heap.size + 3 := by rw [hw1]; simp
  have hbw : Below w.heap.size w w1 := by rw [hw1]; exact (((Below.refl _ _).alloc (Nat.le_refl _) _).alloc (by simp) _).alloc (by simp; omega) _
  have hc1 : CB w1 (w.heap.size + 1) #[.slice none 0 0] := by
    rw [hw1]
    have := CB.new (w.alloc (.cells #[.slice a l.length c] 164)) #[.slice none 0 0] 97
    rw [World.size_alloc] at this
    exact this.block (Below.heap_alloc _ _ _ (by simp))
  have hc2 : CB w1 (w.heap.size + 1 + 1) #[.slice none 0 0] := by
    rw [hw1]
    have := CB.new ((w.alloc (.cells #[.slice a l.length c] 164)).alloc (.cells #[.slice none 0 0] 97)) #[.slice none 0 0] 97
    rw [World.size_alloc, World.size_alloc] at this
    exact this
  have H := hide (toP_cp (h.later hbw) hm)
  have HB := hide hbw
  have HC1 := hide hc1
  have HC2 := hide hc2
  clear h hbw hc1 hc2
  go_enter Tryd.func121, Tryd.ntmps121
  go_wp2_with fail
  rw [← hw1]
  clear hw1
  refine H.out.mono ?_
  rintro e w2 ⟨rfl, hcp, hb2⟩
  have HB2 : Hid (Below w.heap.size w w2) := hide (HB.out.trans (hb2.mono HB.out.size))
  have HD1 := hide (HC1.out.later hb2)
  have HD2 := hide (HC2.out.later hb2)
  have q1 := HD1.out.cell 0 rfl
  have q2 := HD1.out.fz 0
  have q3 := HD2.out.cell 0 rfl
  have q4 := HD2.out.fz 0
  have HCP := hide hcp
  have n1 : ¬ w.heap.size + 1 = w.heap.size + 1 + 1 := by omega
  have n2 : ¬ w.heap.size + 1 + 1 = w.heap.size + 1 := by omega
  clear hcp hb2
  go_wp2
  have HS := hide hs1
  rw [hs1] at HCP
  obtain ⟨tt, htt⟩ := (HD1.out.other (d := w.heap.size + 1 + 1) (by omega) 0 (.slice (some ⟨w.heap.size + 3, 0, none⟩) l.length l.length)).set 0 (.slice (some ⟨w.heap.size + 3, 0, none⟩) l.length l.length) rfl
  refine bodyPost_ret (results_cell_row rfl _ _ (w.heap.size + 1) _ _ (0, 0) _ rfl htt Tryd.underlying97 rfl Tryd.sizeChange) rfl ?_
  refine ⟨w.heap.size + 3, rfl, by omega, ?_, (HB2.out.setCell (by show w.heap.size ≤ w.heap.size + 1 + 1; omega) _).setCell (by show w.heap.size ≤ w.heap.size + 1; omega) _⟩
  exact (HCP.out.block (by simp [World.setCell]) (Below.heap_setCell _ _ _ _ (by show w.heap.size + 3 ≠ w.heap.size + 1 + 1; omega))).block (by simp [World.setCell]) (Below.heap_setCell _ _ _ _ (by show w.heap.size + 3 ≠ w.heap.size + 1; omega))

/-- While changes are copied. -/
structure CW (w : World) (l : List (List Pt)) (k : Nat) (wr : World) : Prop where
  blk : Blk wr w.heap.size l.length
  below : Below w.heap.size w wr
  lt : w.heap.size < wr.heap.size
  c : ∃ gs : Nat → Nat, (∀ i (h : i < l.length), i < k → wr.cell? ⟨w.heap.size, i, none⟩ = some (.slice (some ⟨gs i, 0, none⟩) l[i].length l[i].length) ∧ PCp wr (gs i) l[i] ∧ w.heap.size < gs i) ∧ ∀ i j, i < j → j < k → gs i < gs j
theorem cw_start {w : World} {l : List (List Pt)} {C : Array Value} {t : TypeId} (hC : C.size = l.length) : CW w l 0 (w.alloc (.cells C t)) where
  blk := ⟨fun j hj => ⟨C[j]'(by omega), by rw [cell_of_row _ w.heap.size j C t (0, 0) (heap_alloc_new w _)]; simp [hC, hj]⟩, fun j => World.frozen?_alloc_new _ _ _ _⟩
  below := (Below.refl _ _).alloc (Nat.le_refl _) _
  lt := by simp
  c := ⟨fun _ => 0, fun i _ hi => by omega, fun i j _ hj => by omega⟩
theorem CW.later {w wr w2 : World} {l : List (List Pt)} {k : Nat} (h : CW w l k wr) (hb : Below wr.heap.size wr w2) : CW w l k w2 where
  blk := h.blk.later hb h.lt
  below := h.below.trans (hb.mono h.below.size)
  lt := Nat.lt_of_lt_of_le h.lt hb.size
  c := by
    obtain ⟨gs, hc, hr⟩ := h.c
    refine ⟨gs, fun i hi hk => ?_, hr⟩
    obtain ⟨h1, h2, h3⟩ := hc i hi hk
    exact ⟨(World.cell?_of_block (a := ⟨w.heap.size, i, none⟩) (hb.block _ h.lt)).trans h1, h2.later hb, h3⟩
theorem CW.step {w wr : World} {l : List (List Pt)} {k g : Nat} (h : CW w l k wr) (hk : k < l.length) (hI : PCp wr g l[k]) (hg2 : w.heap.size < g) (hgs : ∀ gs : Nat → Nat, (∀ i (h : i < l.length), i < k → PCp wr (gs i) l[i]) → True) (hnew : ∃ n, n ≤ g ∧ ∀ gs : Nat → Nat, (∀ i (h : i < l.length), i < k → wr.cell? ⟨w.heap.size, i, none⟩ = some (.slice (some ⟨gs i, 0, none⟩) l[i].length l[i].length)) → ∀ i, i < k → gs i < n) :
    CW w l (k + 1) (wr.setCell ⟨w.heap.size, k, none⟩ (.slice (some ⟨g, 0, none⟩) l[k].length l[k].length)) where
  blk := h.blk.set _ _
  below := h.below.setCell (Nat.le_refl _) _
  lt := by simpa [World.setCell] using h.lt
  c := by
    obtain ⟨gs, hc, hr⟩ := h.c
    obtain ⟨n, hn, hnew⟩ := hnew
    have hlow := hnew gs (fun i hi hik => (hc i hi hik).1)
    have pc : ∀ {b : Nat} {p : List Pt}, PCp wr b p → w.heap.size < b → PCp (wr.setCell ⟨w.heap.size, k, none⟩ (.slice (some ⟨g, 0, none⟩) l[k].length l[k].length)) b p := fun hp hb => hp.block (by simp [World.setCell]) (Below.heap_setCell _ _ _ _ (by show _ ≠ w.heap.size; omega))
    refine ⟨fun i => if i = k then g else gs i, fun i hi hik => ?_, fun i j hij hjk => ?_⟩
    · by_cases e : i = k
      · subst e
        simp only [if_true]
        obtain ⟨x0, y0⟩ := h.blk.ex i hi
        exact ⟨World.cell?_setCell_same _ _ _ y0, pc hI hg2, hg2⟩
      · simp only [if_neg e]
        obtain ⟨h1, h2, h3⟩ := hc i hi (by omega)
        exact ⟨(World.cell?_setCell_other _ _ _ _ (fun c => e (Addr.mk.inj c).2.1.symm)).trans h1, pc h2 h3, h3⟩
    · by_cases e : j = k
      · subst e
        have ei : i ≠ j := by omega
        simp only [if_neg ei, if_true]
        have := hlow i hij
        omega
      · have ei : i ≠ k := by omega
        simp only [if_neg e, if_neg ei]
        exact hr i j hij (by omega)
theorem CW.bound {w wr : World} {l : List (List Pt)} {k : Nat} (h : CW w l k wr) (hk : k ≤ l.length) : ∀ gs : Nat → Nat, (∀ i (h : i < l.length), i < k → wr.cell? ⟨w.heap.size, i, none⟩ = some (.slice (some ⟨gs i, 0, none⟩) l[i].length l[i].length)) → ∀ i, i < k → gs i < wr.heap.size := by
  intro gs hg i hi
  obtain ⟨gs', hc, -⟩ := h.c
  have h1 := hg i (by omega) hi
  obtain ⟨h2, h3, -⟩ := hc i (by omega) hi
  rw [h2] at h1
  have : gs' i = gs i := by
    injection h1 with h1
    injection h1 with h1
    injection h1 with h1
    injection h1 with h1
  rw [← this]
  exact h3.lt
theorem CW.all {w wr : World} {l : List (List Pt)} (h : CW w l l.length wr) (hm : l.length ≤ maxLen) (hs : ∀ i (hi : i < l.length), l[i].length ≤ maxLen) : DR (fun k => w.heap.size ≤ k ∧ k < wr.heap.size) wr (.slice (some ⟨w.heap.size, 0, none⟩) l.length l.length) l := by
  rcases Nat.eq_zero_or_pos l.length with h0 | h0
  · obtain rfl := List.eq_nil_of_length_eq_zero h0
    exact .inl ⟨rfl, _, _, rfl⟩
  · obtain ⟨gs, hc, hr⟩ := h.c
    refine .inr ⟨w.heap.size, 0, l.length, fun i => .slice (some ⟨gs i, 0, none⟩) (l[i]?.getD []).length (l[i]?.getD []).length, rfl, h0, Nat.le_refl _, hm, h.lt, ⟨Nat.le_refl _, h.lt⟩, fun i hi => ?_, fun i hi y hy => ?_, fun i j hij hj y hy c => ?_, fun i hi c => by omega, fun i hi _ => ?_⟩
    · rw [Nat.zero_add, List.getElem?_eq_getElem hi]; exact (hc i hi hi).1
    · have e : gs i = y := Option.some.inj hy
      have := (hc i hi hi).2.1.lt
      have := (hc i hi hi).2.2
      exact ⟨⟨by omega, by omega⟩, by omega⟩
    · have e : gs i = y := Option.some.inj hy
      have e' : gs j = y := Option.some.inj c
      have := hr i j hij hj
      omega
    · rw [List.getElem?_eq_getElem hi]
      exact PR.cp (hc i hi hi).2.1 (hs i hi)

theorem makeC (n : Nat) (hn : n ≤ 2000000) : ∃ C : Array Value, C.size = n ∧ ∀ w : World, (Instr.makeSlice 22 (.int .i64 (n : Int)) (.int .i64 (n : Int))).run Tryd.prog w = .ok (.slice (some ⟨w.heap.size, 0, none⟩) n n) (w.alloc (.cells C 97)) := by
  have hinfo : (Tryd.prog.info? 97).map (fun i => (i.zero, i.size, i.bytes)) = some (some (.agg #[.slice none 0 0]), 1, 24) := by kernel_rfl
  obtain ⟨i0, hi0, hz0, hz1, hz2⟩ := info_parts hinfo
  refine ⟨madeCells (Value.agg #[.slice none 0 0]).cells (n * i0.size), by rw [size_madeCells, hz1, Nat.mul_one], fun w => ?_⟩
  have := run_make (P := Tryd.prog) w 22 97 i0 (.agg #[.slice none 0 0]) Tryd.underlying22 hi0 hz0 .i64 .i64 n n (by omega) (Int.le_refl _) (by rw [hz2]; omega) (by omega)
  simpa only [Int.toNat_natCast] using this

set_option maxHeartbeats 2000000 in
theorem toC_cp {w : World} {v : Value} {l : List (List Pt)} (h : ArgC w v l) (hm : szCn l ≤ 1048576) :
    Calls Tryd.prog 56 #[v] w fun e w' => e = .returned (.slice (some ⟨w.heap.size, 0, none⟩) l.length l.length) ∧ DR (fun k => w.heap.size ≤ k ∧ k < w'.heap.size) w' (.slice (some ⟨w.heap.size, 0, none⟩) l.length l.length) l ∧ Below w.heap.size w w' := by
  obtain ⟨hl, heach⟩ := szC_each hm
  have hsmall : Hid (l.length ≤ maxLen ∧ ∀ i (hi : i < l.length), l[i].length ≤ maxLen) := hide ⟨by unfold maxLen; omega, fun i hi => by have := heach i hi; have := szPn_len l[i]; unfold maxLen; omega⟩
  cases h with
  | nil a cap =>
    obtain ⟨C, hC, hmk⟩ := makeC 0 (by omega)
    have S0 := hide (cw_start (l := []) (w := w) (C := C) (t := 97) (by simpa using hC))
    have hmk0 : ∀ w : World, (Instr.makeSlice 22 (.int .i64 0) (.int .i64 0)).run Tryd.prog w = .ok (.slice (some ⟨w.heap.size, 0, none⟩) 0 0) (w.alloc (.cells C 97)) := hmk
    clear hmk hC
    go_enter Tryd.func56, Tryd.ntmps56
    go_wp2
    go_loop [4] (fun i => i = .int .i64 0) (fun _ => 0)
    case atStart => rfl
    case round =>
      subst hrel
      go_wp2
      go_ret
      exact ⟨rfl, .inl ⟨rfl, _, _, rfl⟩, S0.out.below⟩
  | row b off cap l vs hb hn hle hmx hc =>
    obtain ⟨C, hC, hmk⟩ := makeC l.length (by omega)
    have S0 := hide (cw_start (l := l) (w := w) (C := C) (t := 97) hC)
    have Hc := hide hc
    have HE := hide heach
    clear hC hc heach
    go_enter Tryd.func56, Tryd.ntmps56
    go_wp2
    clear hmk
    go_loopw [4] (fun i wr => ∃ k : Nat, k ≤ l.length ∧ i = .int .i64 k ∧ CW w l k wr) (fun i _ => l.length - (intOf i).toNat)
    case atStart => exact ⟨0, by omega, rfl, S0.out⟩
    case round =>
      obtain ⟨k, hk, rfl, hat⟩ := hrel
      by_cases hlt : k < l.length
      · obtain ⟨c0, c3⟩ := Hc.out k hlt
        have d0 := (World.cell?_of_block (a := ⟨b, off + k, none⟩) (hat.below.block b hb)).trans c0
        have Hat := hide hat
        have T := hide (toChange_cp (c3.later hat.below) (by have := HE.out k hlt; have := szPn_len l[k]; omega))
        clear hat c0 c3
        go_wp2_with fail
        refine T.out.mono ?_
        rintro e w2 ⟨g, rfl, hg1, hI, hb2⟩
        have h2 := Hat.out.later hb2
        obtain ⟨x0, y0⟩ := h2.blk.ex k hlt
        have f0 := h2.blk.fz k
        have A := hide (h2.step hlt hI (Nat.lt_of_lt_of_le Hat.out.lt hg1) (fun _ _ => trivial) ⟨wr.heap.size, hg1, fun gs hgs => Hat.out.bound hk gs (fun i hi hik => by rw [← World.cell?_of_block (a := ⟨w.heap.size, i, none⟩) (hb2.block _ Hat.out.lt)]; exact hgs i hi hik)⟩)
        clear h2 d0 hI hb2
        go_wp2
        refine ⟨⟨k + 1, by omega, by go_num, A.out⟩, by simp [intOf]; omega⟩
      · obtain rfl : k = l.length := by omega
        go_wp2
        go_ret
        exact ⟨rfl, hat.all hsmall.out.1 hsmall.out.2, hat.below⟩
end Go.Proofs.YtpeconmdmddkfaaDoor
