/- The borders of a text: the model's row and the program's. -/
import Derived.Test.YtfiefklhhchebabDoorKmp1
import Derived.Test.YtfiefklhhchebabDoorRn1
import Derived.Test.YtfiefklhhchebabDoorWalks6
import Derived.Test.YtfiefklhhchebabDoorOwnI
import Derived.BigQuiet
import Derived.Deep.QuietTactic
import Derived.Deep.LoopGhost
set_option linter.unusedVariables false
namespace Go.Proofs.YtfiefklhhchebabDoor
open Go.RowKit
open Doc1

theorem gd_at (s : ByteArray) (k : Nat) (h : k < s.size) : s.data.toList.getD k 0 = s[k] := by
  rw [List.getD_eq_getElem?_getD, at_some s k h]; rfl
theorem u8_ne1 {x y : UInt8} (h : x = y) : ((x.toNat : Int) != (y.toNat : Int)) = false := by rw [bne, u8_beq h]; rfl
theorem u8_ne2 {x y : UInt8} (h : ¬ x = y) : ((x.toNat : Int) != (y.toNat : Int)) = true := by rw [bne, u8_bne h]; rfl
/-- The row of borders, made up to place i. -/
def bF (A : List UInt8) (i j : Nat) : Int := if j < i then (brd A (j + 1) : Int) else 0
theorem bF_lt {A : List UInt8} {i j : Nat} (h : j < i) : bF A i j = (brd A (j + 1) : Int) := by unfold bF; rw [if_pos h]
theorem bF_0 (A : List UInt8) (j : Nat) : (0 : Int) = bF A 1 j := by
  unfold bF
  split
  · rename_i h
    obtain rfl : j = 0 := by omega
    rw [brd_1]; rfl
  · rfl
/-- A row of n numbers of the call's own, in block g. -/
def BrO (w : World) (B g n : Nat) (f : Nat → Int) : Prop := w.ownsRow B 3 1 (.slice (some ⟨g, 0, none⟩) n n) n (ints ((List.range n).map f))
theorem BrO.c {w : World} {B g n : Nat} {f : Nat → Int} (h : BrO w B g n f) {j : Nat} (hj : j < n) : w.cell? ⟨g, j, none⟩ = some (.int .i64 (f j)) := by
  rw [World.ownsRow.cellAt h j (by omega)]
  simp [ints, hj]
theorem BrO.z {w : World} {B g n : Nat} {f : Nat → Int} (h : BrO w B g n f) (j : Nat) : w.frozen? ⟨g, j, none⟩ = false := World.ownsRow.frozenAt h j
theorem BrO.lt {w : World} {B g n : Nat} {f : Nat → Int} (h : BrO w B g n f) : B ≤ g ∧ g < w.heap.size := World.ownsRow.lt h g rfl
theorem BrO.congr {w : World} {B g n : Nat} {f f' : Nat → Int} (h : BrO w B g n f) (he : ∀ j, j < n → f j = f' j) : BrO w B g n f' := by
  unfold BrO at h ⊢
  rw [← List.map_congr_left (f := f) (fun j hj => he j (by simpa using hj))]
  exact h
theorem BrO.set {w : World} {B g n : Nat} {f : Nat → Int} (h : BrO w B g n f) {j : Nat} (v : Int) : BrO (w.setCell ⟨g, j, none⟩ (.int .i64 v)) B g n (fun i => if i = j then v else f i) := by
  have := (World.ownsRow.stored h j (.int .i64 v)).1
  unfold BrO
  have e : (ints ((List.range n).map f)).set j (.int .i64 v) = ints ((List.range n).map fun i => if i = j then v else f i) := by
    apply List.ext_getElem?
    intro i
    rw [List.getElem?_set]
    simp only [ints, List.getElem?_map, List.length_map, List.length_range]
    by_cases hi : j = i
    · subst hi
      rw [if_pos rfl]
      by_cases hn : j < n
      · rw [if_pos hn, List.getElem?_range hn]; simp
      · rw [if_neg hn, List.getElem?_eq_none (by simpa using hn)]; rfl
    · rw [if_neg hi]
      by_cases hn : i < n
      · rw [List.getElem?_range hn]; simp [Ne.symm hi]
      · rw [List.getElem?_eq_none (by simpa using hn)]; rfl
  rw [← e]
  exact this
theorem BrO.later {w w1 : World} {B g n : Nat} {f : Nat → Int} (h : BrO w B g n f) (hb : Below w.heap.size w w1) : BrO w1 B g n f := own_below h hb
theorem BrO.mono {w : World} {B B' g n : Nat} {f : Nat → Int} (h : BrO w B g n f) (hB : B' ≤ B) : BrO w B' g n f := own_mono h hB
theorem BrO.drewN {w : World} {B g n : Nat} {f : Nat → Int} (h : BrO w B g n f) (k : Nat) : BrO (w.drewN k) B g n f := h.later (below_dN (Below.refl _ _) k)
theorem bro_new (n : Nat) (w : World) (hn : n ≤ 1000000) : BrO (w.alloc (.cells (madeCells #[.int .i64 0] n) 3)) w.heap.size w.heap.size n (fun _ => 0) := by
  have := World.ownsRow_lit (base := w.heap.size) (e := 3) (size := 1) w (madeCells #[.int .i64 0] n) n (Nat.le_refl _) (by unfold maxLen; omega) (by simp [madeCells])
  unfold BrO
  rw [toList_madeCells_one] at this
  have e : ints ((List.range n).map fun _ => 0) = List.replicate n (.int .i64 0) := by
    apply List.ext_getElem?
    intro i
    simp only [ints, List.getElem?_map, List.getElem?_replicate]
    by_cases hn : i < n
    · rw [List.getElem?_range hn, if_pos hn]; rfl
    · rw [List.getElem?_eq_none (by simpa using hn), if_neg hn]; rfl
  rw [e]
  exact this
theorem BrO.bord {w : World} {B g n : Nat} {A : List UInt8} {i : Nat} (h : BrO w B g n (bF A i)) {v : Int} (hv : v = (brd A (i + 1) : Int)) : BrO (w.setCell ⟨g, i, none⟩ (.int .i64 v)) B g n (bF A (i + 1)) := by
  refine (h.set (j := i) v).congr (fun j _ => ?_)
  unfold bF
  by_cases hj : j = i
  · rw [if_pos hj, if_pos (by omega), hv, hj]
  · rw [if_neg hj]
    by_cases h1 : j < i
    · rw [if_pos h1, if_pos (by omega)]
    · rw [if_neg h1, if_neg (by omega)]

set_option maxRecDepth 100000 in
set_option maxHeartbeats 4000000 in
theorem l11Borders_any (p : ByteArray) (w : World) (h0 : 0 < p.size) (hp : p.size ≤ 300) :
    Calls Tryd.prog 16 #[.string p] w fun e w' => e = .returned (.slice (some ⟨w.heap.size, 0, none⟩) p.size p.size) ∧ BrO w' w.heap.size w.heap.size p.size (bF p.data.toList p.size) ∧ Below w.heap.size w w' := by
  have hmk := ints_made p.size (by omega) w .i64
  go_enter Tryd.func16, Tryd.ntmps16
  go_wp2
  have HQ : Hid (BrO (w.alloc (.cells (madeCells #[.int .i64 0] p.size) 3)) w.heap.size w.heap.size p.size (bF p.data.toList 1) ∧ Below w.heap.size w (w.alloc (.cells (madeCells #[.int .i64 0] p.size) 3))) := hide ⟨(bro_new p.size w (by omega)).congr (fun j _ => bF_0 _ j), (Below.refl _ _).alloc (Nat.le_refl _) _⟩
  generalize w.alloc (.cells (madeCells #[.int .i64 0] p.size) 3) = W0 at *
  clear hmk
  go_loopw [4, 5] (fun vn vi wr => ∃ i : Nat, 1 ≤ i ∧ i ≤ p.size ∧ vi = .int .i64 (i : Int) ∧ (∃ n : Nat, vn = .int .i64 (n : Int) ∧ Hid (n = brd p.data.toList i)) ∧ Hid (BrO wr w.heap.size w.heap.size p.size (bF p.data.toList i) ∧ Below w.heap.size w wr)) (fun _ vi _ => p.size - (intOf vi).toNat)
  case atStart => exact ⟨1, by omega, by omega, rfl, ⟨0, rfl, hide (brd_1 _).symm⟩, HQ⟩
  case round =>
    obtain ⟨i, h1, hi, rfl, ⟨n, rfl, HN⟩, HR⟩ := hrel
    clear HQ
    by_cases hlt : i < p.size
    · have hnlt : n < i := by rw [HN.out]; exact brd_lt _ (by omega)
      have HF : Hid (kfl p.data.toList p[i] n = brd p.data.toList (i + 1)) := hide (by rw [brd_step _ h1, gd_at p i hlt, HN.out])
      clear HN
      go_wp2
      go_loopw [4] (fun vn wy => ∃ n : Nat, vn = .int .i64 (n : Int) ∧ n < i ∧ Hid (kfl p.data.toList p[i] n = brd p.data.toList (i + 1)) ∧ Hid (BrO wy w.heap.size w.heap.size p.size (bF p.data.toList i) ∧ Below w.heap.size w wy)) (fun vn _ => (intOf vn).toNat)
      case atStart => exact ⟨n, rfl, hnlt, HF, HR⟩
      case round =>
        clear HR HF hnlt
        obtain ⟨n, rfl, hnlt, HF, HR⟩ := hrel
        have hnp : n < p.size := by omega
        by_cases he : p[i] = p[n]
        · have q1 := u8_beq he
          have q2 := u8_ne1 he
          have HE : Hid (((n + 1 : Nat) : Int) = (brd p.data.toList (i + 1) : Int)) := hide (by rw [← HF.out, kfl_yes (by rw [gd_at p n hnp, he])])
          have HE2 : Hid (n + 1 = brd p.data.toList (i + 1)) := hide (by rw [← HF.out, kfl_yes (by rw [gd_at p n hnp, he])])
          clear he HF
          have c1 := HR.out.1.c hlt
          have f1 := HR.out.1.z i
          by_cases hn0 : n = 0
          · subst hn0
            go_wp2
            go_quiet (fail)
            go_wp2
            go_quiet (fail)
            go_wp2
            exact ⟨⟨i + 1, by omega, by omega, by go_num, ⟨1, rfl, HE2⟩, hide ⟨(HR.out.1.drewN _).bord HE.out, (below_dN HR.out.2 _).setCell (p := ⟨w.heap.size, i, none⟩) (Nat.le_refl _) _⟩⟩, by simp [intOf]; omega⟩
          · have hn1 : 0 < n := by omega
            go_wp2
            go_quiet (fail)
            go_wp2
            go_quiet (fail)
            go_wp2
            exact ⟨⟨i + 1, by omega, by omega, by go_num, ⟨n + 1, by go_num, HE2⟩, hide ⟨(HR.out.1.drewN _).bord HE.out, (below_dN HR.out.2 _).setCell (p := ⟨w.heap.size, i, none⟩) (Nat.le_refl _) _⟩⟩, by simp [intOf]; omega⟩
        · have q1 := u8_bne he
          have q2 := u8_ne2 he
          have hne : ¬ p.data.toList.getD n 0 = p[i] := by rw [gd_at p n hnp]; exact fun e => he e.symm
          by_cases hn0 : n = 0
          · subst hn0
            have HE2 : Hid (0 = brd p.data.toList (i + 1)) := hide (by rw [← HF.out, kfl_no hne])
            have HE : Hid ((0 : Int) = (brd p.data.toList (i + 1) : Int)) := hide (by rw [← HE2.out]; rfl)
            have c1 := HR.out.1.c hlt
            have f1 := HR.out.1.z i
            clear he hne HF
            go_wp2
            go_quiet (fail)
            go_wp2
            go_quiet (fail)
            go_wp2
            exact ⟨⟨i + 1, by omega, by omega, by go_num, ⟨0, rfl, HE2⟩, hide ⟨(HR.out.1.drewN _).bord HE.out, (below_dN HR.out.2 _).setCell (p := ⟨w.heap.size, i, none⟩) (Nat.le_refl _) _⟩⟩, by simp [intOf]; omega⟩
          · have hn1 : 0 < n := by omega
            have c1 := HR.out.1.c (j := n - 1) (by omega)
            rw [bF_lt (by omega), show n - 1 + 1 = n by omega] at c1
            have hbl := brd_lt p.data.toList (k := n) (by omega)
            have ew : IntKind.i64.wrap ((n : Int) - 1) = ((n - 1 : Nat) : Int) := by rw [IntKind.wrap_i64]; omega
            have HF2 : Hid (kfl p.data.toList p[i] (brd p.data.toList n) = brd p.data.toList (i + 1)) := hide (by rw [← HF.out, kfl_back hne (by omega)])
            obtain ⟨m, hm⟩ : ∃ m, brd p.data.toList n = m := ⟨_, rfl⟩
            rw [hm] at c1 hbl HF2
            clear he hne HF hm
            go_wp2
            go_quiet (fail)
            go_wp2
            exact ⟨⟨m, rfl, by omega, HF2, hide ⟨HR.out.1.drewN _, below_dN HR.out.2 _⟩⟩, by simp [intOf]; omega⟩
    · obtain rfl : i = p.size := by omega
      go_wp2
      go_ret
      exact ⟨rfl, HR.out.1, HR.out.2⟩

/-- The bytes of a text lie in block g. -/
structure BtAt (w : World) (g : Nat) (s : ByteArray) : Prop where
  c : ∀ j (hj : j < s.size), w.cell? ⟨g, j, none⟩ = some (.int .u8 (s[j].toNat : Int))
  l : g < w.heap.size
theorem BtAt.later {w w1 : World} {g : Nat} {s : ByteArray} (h : BtAt w g s) (hb : Below w.heap.size w w1) : BtAt w1 g s :=
  ⟨fun j hj => (World.cell?_of_block (hb.block g h.l)).trans (h.c j hj), Nat.lt_of_lt_of_le h.l hb.size⟩
theorem BtAt.laterB {w w1 : World} {B g : Nat} {s : ByteArray} (h : BtAt w g s) (hb : Below B w w1) (hg : g < B) : BtAt w1 g s :=
  ⟨fun j hj => (World.cell?_of_block (hb.block g hg)).trans (h.c j hj), Nat.lt_of_lt_of_le h.l hb.size⟩

set_option maxRecDepth 100000 in
set_option maxHeartbeats 4000000 in
theorem bordersIn_any (p : ByteArray) (g cap : Nat) (w : World) (hb : BtAt w g p) (h0 : 0 < p.size) (hp : p.size ≤ 300) (hcap : p.size ≤ cap) :
    Calls Tryd.prog 31 #[.slice (some ⟨g, 0, none⟩) p.size cap] w fun e w' => e = .returned (.slice (some ⟨w.heap.size, 0, none⟩) p.size p.size) ∧ BrO w' w.heap.size w.heap.size p.size (bF p.data.toList p.size) ∧ Below w.heap.size w w' := by
  have hmk := ints_made p.size (by omega) w .i64
  have HB := hide hb
  have hgl := hb.l
  clear hb
  go_enter Tryd.func31, Tryd.ntmps31
  go_wp2
  go_step3
  go_wp2
  go_step3
  go_wp2
  have HQ : Hid (BrO (w.alloc (.cells (madeCells #[.int .i64 0] p.size) 3)) w.heap.size w.heap.size p.size (bF p.data.toList 1) ∧ Below w.heap.size w (w.alloc (.cells (madeCells #[.int .i64 0] p.size) 3))) := hide ⟨(bro_new p.size w (by omega)).congr (fun j _ => bF_0 _ j), (Below.refl _ _).alloc (Nat.le_refl _) _⟩
  generalize w.alloc (.cells (madeCells #[.int .i64 0] p.size) 3) = W0 at *
  clear hmk
  go_loopg [4] p.size (fun gh vi wr => ∃ i : Nat, i + gh = p.size + 1 ∧ 1 ≤ i ∧ i ≤ p.size ∧ vi = .int .i64 (i : Int) ∧ Hid (BrO wr w.heap.size w.heap.size p.size (bF p.data.toList i) ∧ Below w.heap.size w wr))
  case atStart => exact ⟨1, by omega, by omega, by omega, rfl, HQ⟩
  case round =>
    obtain ⟨i, hg, h1, hi, rfl, HR⟩ := hrel
    clear HQ
    by_cases hlt : i < p.size
    · have c1 := HR.out.1.c (j := i - 1) (by omega)
      rw [bF_lt (by omega), show i - 1 + 1 = i by omega] at c1
      obtain ⟨n, hn⟩ : ∃ n, brd p.data.toList i = n := ⟨_, rfl⟩
      have hnlt : n < i := by rw [← hn]; exact brd_lt _ (by omega)
      have HF : Hid (kfl p.data.toList p[i] n = brd p.data.toList (i + 1)) := hide (by rw [brd_step _ h1, gd_at p i hlt, hn])
      rw [hn] at c1
      clear hn
      have ei : ((i : Int) - 1) = ((i - 1 : Nat) : Int) := by omega
      have ew : IntKind.i64.wrap ((i : Int) - 1) = ((i - 1 : Nat) : Int) := by rw [IntKind.wrap_i64]; omega
      obtain ⟨go, rfl⟩ : ∃ go, go = gk := ⟨_, rfl⟩
      obtain ⟨wo, rfl⟩ : ∃ wo, wo = wr := ⟨_, rfl⟩
      go_wp2
      clear c1 ei ew
      go_loopg [5] n (fun gh vn wy => vn = .int .i64 (gh : Int) ∧ gh < i ∧ Hid (kfl p.data.toList p[i] gh = brd p.data.toList (i + 1)) ∧ Hid (BrO wy w.heap.size w.heap.size p.size (bF p.data.toList i) ∧ Below w.heap.size w wy))
      case atStart => exact ⟨rfl, hnlt, HF, HR⟩
      case round =>
        clear HR HF hnlt
        obtain ⟨rfl, hnlt, HF, HR⟩ := hrel
        have hnp : gk < p.size := by omega
        have hBt := HB.out.laterB HR.out.2 hgl
        have d1 := hBt.c i hlt
        have d2 := hBt.c gk hnp
        clear hBt
        by_cases he : p[i] = p[gk]
        · have q2 := u8_ne1 he
          have HE : Hid (((gk : Int) + 1) = (brd p.data.toList (i + 1) : Int)) := hide (by rw [← HF.out, kfl_yes (by rw [gd_at p gk hnp, he])]; rfl)
          clear he HF
          have c1 := HR.out.1.c hlt
          have f1 := HR.out.1.z i
          go_wp2
          go_quiet (fail)
          go_wp2
          go_roundg (go - 1)
          case measure => omega
          case rel => exact ⟨i + 1, by omega, by omega, by omega, by go_num, hide ⟨(HR.out.1.drewN _).bord HE.out, (below_dN HR.out.2 _).setCell (p := ⟨w.heap.size, i, none⟩) (Nat.le_refl _) _⟩⟩
        · have q2 := u8_ne2 he
          have hne : ¬ p.data.toList.getD gk 0 = p[i] := by rw [gd_at p gk hnp]; exact fun e => he e.symm
          cases gk with
          | zero =>
            have HE : Hid (0 = brd p.data.toList (i + 1)) := hide (by rw [← HF.out, kfl_no hne])
            clear he hne HF
            go_wp2
            go_quiet (fail)
            go_wp2
            go_roundg (go - 1)
            case measure => omega
            case rel =>
              refine ⟨i + 1, by omega, by omega, by omega, by go_num, hide ⟨(HR.out.1.drewN _).congr (fun j _ => ?_), below_dN HR.out.2 _⟩⟩
              unfold bF
              by_cases hj : j = i
              · rw [hj, if_neg (by omega), if_pos (by omega), ← HE.out]; rfl
              · by_cases h1 : j < i
                · rw [if_pos h1, if_pos (by omega)]
                · rw [if_neg h1, if_neg (by omega)]
          | succ n =>
            have c1 := HR.out.1.c (j := n) (by omega)
            rw [bF_lt (by omega)] at c1
            have hbl := brd_lt p.data.toList (k := n + 1) (by omega)
            have HF2 : Hid (kfl p.data.toList p[i] (brd p.data.toList (n + 1)) = brd p.data.toList (i + 1)) := hide (by rw [← HF.out, kfl_back hne (by omega)])
            obtain ⟨m, hm⟩ : ∃ m, brd p.data.toList (n + 1) = m := ⟨_, rfl⟩
            rw [hm] at c1 hbl HF2
            clear he hne HF hm
            go_wp2
            go_quiet (fail)
            go_wp2
            go_roundg m
            case measure => omega
            case rel => exact ⟨rfl, by omega, HF2, hide ⟨HR.out.1.drewN _, below_dN HR.out.2 _⟩⟩
    · obtain rfl : i = p.size := by omega
      go_wp2
      try rw [Exit.noGoto_ret]
      go_ret
      exact ⟨rfl, HR.out.1, HR.out.2⟩
end Go.Proofs.YtfiefklhhchebabDoor
