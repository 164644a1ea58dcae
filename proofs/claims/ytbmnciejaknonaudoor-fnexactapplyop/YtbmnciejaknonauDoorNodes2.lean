/- The contracts of the laws' own measuring and copying of a row of nodes that came in. -/
import Derived.Test.YtbmnciejaknonauDoorNodes1
import Derived.Test.YtbmnciejaknonauDoorInts2
namespace Go.Proofs.YtbmnciejaknonauDoor
open Go.RowKit
open Doc1

/-- A slice of nodes as it came in. -/
inductive ArgN (W : World) : Value → List Nd → Prop
  | nil (a : Option Addr) (cap : Nat) : ArgN W (.slice a 0 cap) []
  | row (b off cap : Nat) (l : List Nd) (hb : b < W.heap.size) (hn : 0 < l.length) (hle : l.length ≤ cap) (hm : cap ≤ maxLen) (hc : ∀ i (h : i < l.length), W.cell? ⟨b, off + i * 3, none⟩ = some (.string l[i].name) ∧ W.cell? ⟨b, off + i * 3 + 1, none⟩ = some (.string l[i].text) ∧ W.cell? ⟨b, off + i * 3 + 2, none⟩ = some (.int .i64 l[i].up)) :
      ArgN W (.slice (some ⟨b, off, none⟩) l.length cap) l
theorem ArgN.later {W W1 : World} {v : Value} {l : List Nd} (h : ArgN W v l) (hb : Below W.heap.size W W1) : ArgN W1 v l := by
  cases h with
  | nil a cap => exact .nil a cap
  | row b off cap p h1 h2 h3 h4 h5 => exact .row b off cap _ (Nat.lt_of_lt_of_le h1 hb.size) h2 h3 h4 (fun i hi => by
      have := h5 i hi
      exact ⟨(World.cell?_of_block (hb.block b h1)).trans this.1, (World.cell?_of_block (hb.block b h1)).trans this.2.1, (World.cell?_of_block (hb.block b h1)).trans this.2.2⟩)
/-- What the first nodes have of letters. -/
def szU (l : List Nd) : Nat → Nat
  | 0 => 0
  | i + 1 => szU l i + ((ndAt' l i).name.size + (ndAt' l i).text.size)
where ndAt' (l : List Nd) (i : Nat) : Nd := l.getD i ⟨ba [], ba [], -1⟩
theorem szU_succ (l : List Nd) (i : Nat) (h : i < l.length) : szU l (i + 1) = szU l i + (l[i].name.size + l[i].text.size) := by
  show szU l i + ((szU.ndAt' l i).name.size + (szU.ndAt' l i).text.size) = _
  unfold szU.ndAt'
  rw [List.getD_eq_getElem?_getD, List.getElem?_eq_getElem h]; rfl
theorem szU_mono (l : List Nd) : ∀ i j, i ≤ j → szU l i ≤ szU l j
  | i, 0, h => by obtain rfl : i = 0 := by omega
                  exact Nat.le_refl _
  | i, j + 1, h => by
    by_cases e : i = j + 1
    · subst e; exact Nat.le_refl _
    · have := szU_mono l i j (by omega)
      show _ ≤ szU l j + _
      omega

theorem ret_i2 {x y : Int} (h : x = y) : Ending.returned (.int .i64 x) = .returned (.int .i64 y) := by rw [h]

set_option maxHeartbeats 1000000 in
theorem szNode_any (n : Nd) (left : Nat) (w : World) (hl : left ≤ 1048576) (h1 : n.name.size ≤ 9223372036854775807) (h2 : n.text.size ≤ 9223372036854775807) :
    Calls Tryd.prog 31 #[ndV n, .int .i64 (left : Int)] w fun e w' => e = .returned (.int .i64 (if n.name.size + n.text.size ≤ left then ((left - (n.name.size + n.text.size) : Nat) : Int) else -1)) ∧ Below w.heap.size w w' := by
  unfold ndV
  obtain ⟨R, hR⟩ : ∃ R : Int, R = if n.name.size + n.text.size ≤ left then ((left - (n.name.size + n.text.size) : Nat) : Int) else -1 := ⟨_, rfl⟩
  rw [← hR]
  have HR := hide hR
  clear hR
  go_enter Tryd.func31, Tryd.ntmps31
  go_wp2
  all_goals
    go_ret
    refine ⟨ret_i2 ?_, (Below.refl _ _).alloc (Nat.le_refl _) _⟩
    rw [HR.out]
    split <;> omega

set_option maxHeartbeats 2000000 in
/-- Too many letters are told by -1. -/
theorem szNodeS_any (v : Value) (l : List Nd) (w : World) (h : ArgN w v l) (hs : ∀ i (hi : i < l.length), l[i].name.size ≤ 9223372036854775807 ∧ l[i].text.size ≤ 9223372036854775807) (hm : l.length ≤ 9223372036854775807) :
    Calls Tryd.prog 9 #[v, .int .i64 1048576] w fun e w' => e = .returned (.int .i64 (if l.length + szU l l.length ≤ 1048576 then ((1048576 - (l.length + szU l l.length) : Nat) : Int) else -1)) ∧ Below w.heap.size w w' := by
  cases h with
  | nil a cap =>
    go_enter Tryd.func9, Tryd.ntmps9
    go_wp2
    go_loop [1, 5] (fun k i => k = .int .i64 1048576 ∧ i = .int .i64 0) (fun _ _ => 0)
    case atStart => exact ⟨rfl, rfl⟩
    case round =>
      obtain ⟨rfl, rfl⟩ := hrel
      go_wp2
      go_ret
      exact ⟨rfl, Below.refl _ _⟩
  | row b off cap l hb hn hle hmx hc =>
    have Hc := hide hc
    have Hs := hide hs
    clear hc hs
    obtain ⟨R, hR⟩ : ∃ R : Int, R = if l.length + szU l l.length ≤ 1048576 then ((1048576 - (l.length + szU l l.length) : Nat) : Int) else -1 := ⟨_, rfl⟩
    rw [← hR]
    have HR := hide hR
    clear hR
    by_cases hbig : l.length ≤ 1048576
    · go_enter Tryd.func9, Tryd.ntmps9
      go_wp2
      go_loopw [1, 5] (fun k i wr => ∃ m : Nat, i = .int .i64 m ∧ m ≤ l.length ∧ l.length + szU l m ≤ 1048576 ∧ k = .int .i64 ((1048576 - (l.length + szU l m) : Nat) : Int) ∧ Below w.heap.size w wr) (fun _ i _ => l.length - (intOf i).toNat)
      case atStart => exact ⟨0, rfl, Nat.zero_le _, by show l.length + 0 ≤ _; omega, by rw [show ((1048576 - (l.length + szU l 0) : Nat) : Int) = 1048576 - (l.length : Int) by show ((1048576 - (l.length + 0) : Nat) : Int) = _; omega], Below.refl _ _⟩
      case round =>
        obtain ⟨m, rfl, hm1, hm2, rfl, hbel⟩ := hrel
        by_cases hlt : m < l.length
        · obtain ⟨c0, c1, c2⟩ := Hc.out m hlt
          have d0 := (World.cell?_of_block (a := ⟨b, off + m * 3, none⟩) (hbel.block b hb)).trans c0
          have d1 := (World.cell?_of_block (a := ⟨b, off + m * 3 + 1, none⟩) (hbel.block b hb)).trans c1
          have d2 := (World.cell?_of_block (a := ⟨b, off + m * 3 + 2, none⟩) (hbel.block b hb)).trans c2
          have S := hide (szNode_any l[m] (1048576 - (l.length + szU l m)) wr (by omega) (Hs.out m hlt).1 (Hs.out m hlt).2)
          have hsu := szU_succ l m hlt
          have hmo := szU_mono l (m + 1) l.length (by omega)
          clear c0 c1 c2
          by_cases hfit : l[m].name.size + l[m].text.size ≤ 1048576 - (l.length + szU l m)
          · rw [if_pos hfit] at S
            have e1 : 1048576 - (l.length + szU l m) - (l[m].name.size + l[m].text.size) = 1048576 - (l.length + szU l (m + 1)) := by omega
            rw [e1] at S
            have hm3 : l.length + szU l (m + 1) ≤ 1048576 := by omega
            obtain ⟨x, hx⟩ : ∃ x, x = 1048576 - (l.length + szU l (m + 1)) := ⟨_, rfl⟩
            rw [← hx] at S
            have Hx := hide hx
            clear hx hsu e1
            go_wp2_with fail
            refine S.out.mono ?_
            rintro e w2 ⟨rfl, hb2⟩
            go_wp2
            refine ⟨⟨m + 1, by go_num, by omega, hm3, by rw [Hx.out], hbel.trans (hb2.mono hbel.size)⟩, by simp [intOf]; omega⟩
          · rw [if_neg hfit] at S
            have hno : ¬ l.length + szU l l.length ≤ 1048576 := by omega
            have Hno := hide hno
            clear hsu hmo hno
            go_wp2_with fail
            refine S.out.mono ?_
            rintro e w2 ⟨rfl, hb2⟩
            go_wp2
            go_ret
            refine ⟨ret_i2 ?_, hbel.trans (hb2.mono hbel.size)⟩
            rw [HR.out, if_neg Hno.out]
        · obtain rfl : m = l.length := by omega
          go_wp2
          go_ret
          refine ⟨ret_i2 ?_, hbel⟩
          rw [HR.out, if_pos hm2]
    · go_enter Tryd.func9, Tryd.ntmps9
      go_wp2
      go_ret
      refine ⟨ret_i2 ?_, Below.refl _ _⟩
      rw [HR.out, if_neg (by omega)]

set_option maxHeartbeats 1000000 in
theorem toNode_any (n : Nd) (w : World) :
    Calls Tryd.prog 37 #[ndV n] w fun e w' => e = .returned (ndV n) ∧ Below w.heap.size w w' := by
  unfold ndV
  go_enter Tryd.func37, Tryd.ntmps37
  go_wp2
  refine bodyPost_ret (v := .agg #[.string n.name, .string n.text, .int .i64 n.up]) (by simp [results, Tryd.results37, go_sem]) rfl ⟨rfl, ?_⟩
  exact (((Below.refl _ _).alloc (Nat.le_refl _) _).alloc (by simp) _).alloc (by simp; omega) _

theorem make_nodes (n : Nat) (hn : n ≤ 2000000) : ∃ C : Array Value, C.size = n * 3 ∧ ∀ w : World, (Instr.makeSlice 24 (.int .i64 (n : Int)) (.int .i64 (n : Int))).run Tryd.prog w = .ok (.slice (some ⟨w.heap.size, 0, none⟩) n n) (w.alloc (.cells C 53)) := by
  have hinfo : (Tryd.prog.info? 53).map (fun i => (i.zero, i.size, i.bytes)) = some (some (.agg #[.string ⟨#[]⟩, .string ⟨#[]⟩, .int .i64 0]), 3, 40) := by kernel_rfl
  obtain ⟨i0, hi0, hz0, hz1, hz2⟩ := info_parts hinfo
  refine ⟨madeCells (Value.agg #[.string ⟨#[]⟩, .string ⟨#[]⟩, .int .i64 0]).cells (n * i0.size), by rw [size_madeCells, hz1], fun w => ?_⟩
  have := run_make (P := Tryd.prog) w 24 53 i0 (.agg #[.string ⟨#[]⟩, .string ⟨#[]⟩, .int .i64 0]) Tryd.underlying24 hi0 hz0 .i64 .i64 n n (by omega) (Int.le_refl _) (by rw [hz2]; omega) (by omega)
  simpa only [Int.toNat_natCast] using this
/-- What is known in the rounds of the copying. -/
structure NCAt (l : List Nd) (w : World) (k : Nat) (wr : World) : Prop where
  blk : Blk wr w.heap.size (3 * l.length)
  below : Below w.heap.size w wr
  lt : w.heap.size < wr.heap.size
  c : ∀ i (h : i < l.length), i < k → wr.cell? ⟨w.heap.size, i * 3, none⟩ = some (.string l[i].name) ∧ wr.cell? ⟨w.heap.size, i * 3 + 1, none⟩ = some (.string l[i].text) ∧ wr.cell? ⟨w.heap.size, i * 3 + 2, none⟩ = some (.int .i64 l[i].up)
theorem ncat_start {l : List Nd} {w : World} {C : Array Value} (hC : C.size = l.length * 3) : NCAt l w 0 (w.alloc (.cells C 53)) where
  blk := ⟨fun j hj => ⟨C[j]'(by omega), by rw [cell_of_row _ w.heap.size j C _ (0, 0) (heap_alloc_new w _)]; rw [Array.getElem?_eq_getElem (by omega)]⟩, fun j => World.frozen?_alloc_new _ _ _ _⟩
  below := (Below.refl _ _).alloc (Nat.le_refl _) _
  lt := by simp
  c := fun i _ hi => by omega
theorem NCAt.later {l : List Nd} {w wr w1 : World} {k : Nat} (h : NCAt l w k wr) (hb : Below wr.heap.size wr w1) : NCAt l w k w1 where
  blk := h.blk.later hb h.lt
  below := h.below.trans (hb.mono h.below.size)
  lt := Nat.lt_of_lt_of_le h.lt hb.size
  c := fun i hi hk => by
    have := h.c i hi hk
    exact ⟨(World.cell?_of_block (hb.block _ h.lt)).trans this.1, (World.cell?_of_block (hb.block _ h.lt)).trans this.2.1, (World.cell?_of_block (hb.block _ h.lt)).trans this.2.2⟩
theorem NCAt.step {l : List Nd} {w wr : World} {k : Nat} (h : NCAt l w k wr) (hk : k < l.length) : NCAt l w (k + 1) (((wr.setCell ⟨w.heap.size, k * 3, none⟩ (.string l[k].name)).setCell ⟨w.heap.size, k * 3 + 1, none⟩ (.string l[k].text)).setCell ⟨w.heap.size, k * 3 + 2, none⟩ (.int .i64 l[k].up)) where
  blk := ((h.blk.set _ _).set _ _).set _ _
  below := ((h.below.setCell (Nat.le_refl _) _).setCell (Nat.le_refl _) _).setCell (Nat.le_refl _) _
  lt := by simpa [World.setCell] using h.lt
  c := fun i hp hi => by
    by_cases e : i = k
    · subst e
      obtain ⟨x0, hx0⟩ := h.blk.ex (i * 3) (by omega)
      obtain ⟨x1, hx1⟩ := (h.blk.set (i * 3) (.string l[i].name)).ex (i * 3 + 1) (by omega)
      obtain ⟨x2, hx2⟩ := ((h.blk.set (i * 3) (.string l[i].name)).set (i * 3 + 1) (.string l[i].text)).ex (i * 3 + 2) (by omega)
      refine ⟨?_, ?_, World.cell?_setCell_same _ _ _ hx2⟩
      · rw [World.cell?_setCell_other _ _ _ _ (off_ne (by omega)), World.cell?_setCell_other _ _ _ _ (off_ne (by omega))]; exact World.cell?_setCell_same _ _ _ hx0
      · rw [World.cell?_setCell_other _ _ _ _ (off_ne (by omega))]; exact World.cell?_setCell_same _ _ _ hx1
    · have := h.c i hp (by omega)
      refine ⟨?_, ?_, ?_⟩
      · rw [World.cell?_setCell_other _ _ _ _ (off_ne (by omega)), World.cell?_setCell_other _ _ _ _ (off_ne (by omega)), World.cell?_setCell_other _ _ _ _ (off_ne (by omega))]; exact this.1
      · rw [World.cell?_setCell_other _ _ _ _ (off_ne (by omega)), World.cell?_setCell_other _ _ _ _ (off_ne (by omega)), World.cell?_setCell_other _ _ _ _ (off_ne (by omega))]; exact this.2.1
      · rw [World.cell?_setCell_other _ _ _ _ (off_ne (by omega)), World.cell?_setCell_other _ _ _ _ (off_ne (by omega)), World.cell?_setCell_other _ _ _ _ (off_ne (by omega))]; exact this.2.2

set_option maxHeartbeats 2000000 in
theorem toNodeS_any (v : Value) (l : List Nd) (w : World) (h : ArgN w v l) (hm : l.length ≤ 2000000) :
    Calls Tryd.prog 11 #[v] w fun e w' => e = .returned (.slice (some ⟨w.heap.size, 0, none⟩) l.length l.length) ∧ w.heap.size < w'.heap.size ∧ NAt w' w.heap.size l ∧ Blk w' w.heap.size (3 * l.length) ∧ Below w.heap.size w w' := by
  cases h with
  | nil a cap =>
    obtain ⟨C, hC, hmk⟩ := make_nodes 0 (by omega)
    have S0 := hide (ncat_start (l := []) (w := w) (C := C) (by simpa using hC))
    have hmk0 : ∀ w : World, (Instr.makeSlice 24 (.int .i64 0) (.int .i64 0)).run Tryd.prog w = .ok (.slice (some ⟨w.heap.size, 0, none⟩) 0 0) (w.alloc (.cells C 53)) := hmk
    clear hmk hC
    go_enter Tryd.func11, Tryd.ntmps11
    go_wp2
    go_loop [4] (fun i => i = .int .i64 0) (fun _ => 0)
    case atStart => rfl
    case round =>
      subst hrel
      go_wp2
      go_ret
      exact ⟨rfl, S0.out.lt, ⟨fun i hi => by simp at hi, fun i hi => by simp at hi, fun i hi => by simp at hi⟩, S0.out.blk, S0.out.below⟩
  | row b off cap l hb hn hle hmx hc =>
    obtain ⟨C, hC, hmk⟩ := make_nodes l.length hm
    have S0 := hide (ncat_start (l := l) (w := w) (C := C) hC)
    have Hc := hide hc
    clear hC hc
    go_enter Tryd.func11, Tryd.ntmps11
    go_wp2
    clear hmk
    go_loopw [4] (fun i wr => ∃ k : Nat, k ≤ l.length ∧ i = .int .i64 k ∧ NCAt l w k wr) (fun i _ => l.length - (intOf i).toNat)
    case atStart => exact ⟨0, by omega, rfl, S0.out⟩
    case round =>
      obtain ⟨k, hk, rfl, hat⟩ := hrel
      by_cases hlt : k < l.length
      · obtain ⟨c0, c1, c2⟩ := Hc.out k hlt
        have d0 := (World.cell?_of_block (a := ⟨b, off + k * 3, none⟩) (hat.below.block b hb)).trans c0
        have d1 := (World.cell?_of_block (a := ⟨b, off + k * 3 + 1, none⟩) (hat.below.block b hb)).trans c1
        have d2 := (World.cell?_of_block (a := ⟨b, off + k * 3 + 2, none⟩) (hat.below.block b hb)).trans c2
        have Hat := hide hat
        have T := hide (toNode_any l[k] wr)
        clear hat c0 c1 c2
        go_wp2_with fail
        refine T.out.mono ?_
        rintro e w2 ⟨rfl, hb2⟩
        have h2 := Hat.out.later hb2
        obtain ⟨x0, y0⟩ := h2.blk.ex (k * 3) (by omega)
        obtain ⟨x1, y1⟩ := h2.blk.ex (k * 3 + 1) (by omega)
        obtain ⟨x2, y2⟩ := h2.blk.ex (k * 3 + 2) (by omega)
        have f0 := h2.blk.fz (k * 3)
        have f1 := h2.blk.fz (k * 3 + 1)
        have f2 := h2.blk.fz (k * 3 + 2)
        have A := hide (h2.step hlt)
        unfold ndV
        clear h2 d0 d1 d2
        go_wp2
        refine ⟨⟨k + 1, by omega, by go_num, A.out⟩, by simp [intOf]; omega⟩
      · obtain rfl : k = l.length := by omega
        go_wp2
        go_ret
        exact ⟨rfl, hat.lt, ⟨fun i hi => (hat.c i hi hi).1, fun i hi => (hat.c i hi hi).2.1, fun i hi => (hat.c i hi hi).2.2⟩, hat.blk, hat.below⟩
end Go.Proofs.YtbmnciejaknonauDoor
