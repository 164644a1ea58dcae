/- The borders of a text: the model's row and the program's. What is sought: the functions that answer of one text, of both. Looking through a text: the model's l11Find and the program's lookThrough. Looking through a text: the program's lookThrough. FindAll and StepsOf, the program's and the model's. -/
import Derived.Test.YtfiefklhhchebaaDoorKmp1
import Derived.Test.YtfiefklhhchebaaDoorRn1
import Derived.Test.YtfiefklhhchebaaDoorWalks6
import Derived.Test.YtfiefklhhchebaaDoorOwnI
import Derived.BigQuiet
import Derived.Deep.QuietTactic
import Derived.Deep.LoopGhost
import Derived.Lib.ConvBytes
set_option linter.unusedVariables false
namespace Go.Proofs.YtfiefklhhchebaaDoor
open Go.RowKit
open Doc1

theorem gd_at (s : ByteArray) (k : Nat) (h : k < s.size) : s.data.toList.getD k 0 = s[k] := by
  rw [List.getD_eq_getElem?_getD, at_some s k h]; rfl
theorem u8_ne1 {x y : UInt8} (h : x = y) : ((x.toNat : Int) != (y.toNat : Int)) = false := by rw [bne, u8_beq h]; rfl
theorem u8_ne2 {x y : UInt8} (h : ¬ x = y) : ((x.toNat : Int) != (y.toNat : Int)) = true := by rw [bne, u8_bne h]; rfl
/-- The row of borders, made up to place i. -/
def bF (A : List UInt8) (i j : Nat) : Int := if j < i then (brd A (j + 1) : Int) else 0
theorem bF_lt {A : List UInt8} {i j : Nat} (h : j < i) : bF A i j = (brd A (j + 1) : Int) := by unfold bF; rw [if_pos h]
theorem bF_0 (A : List UInt8) (j : Nat) : (0 : Int) = bF A 1 j := by
  unfold bF
  split
  · rename_i h
    obtain rfl : j = 0 := by omega
    rw [brd_1]; rfl
  · rfl
/-- A row of n numbers of the call's own, in block g. -/
def BrO (w : World) (B g n : Nat) (f : Nat → Int) : Prop := w.ownsRow B 3 1 (.slice (some ⟨g, 0, none⟩) n n) n (ints ((List.range n).map f))
theorem BrO.c {w : World} {B g n : Nat} {f : Nat → Int} (h : BrO w B g n f) {j : Nat} (hj : j < n) : w.cell? ⟨g, j, none⟩ = some (.int .i64 (f j)) := by
  rw [World.ownsRow.cellAt h j (by omega)]
  simp [ints, hj]
theorem BrO.z {w : World} {B g n : Nat} {f : Nat → Int} (h : BrO w B g n f) (j : Nat) : w.frozen? ⟨g, j, none⟩ = false := World.ownsRow.frozenAt h j
theorem BrO.lt {w : World} {B g n : Nat} {f : Nat → Int} (h : BrO w B g n f) : B ≤ g ∧ g < w.heap.size := World.ownsRow.lt h g rfl
theorem BrO.congr {w : World} {B g n : Nat} {f f' : Nat → Int} (h : BrO w B g n f) (he : ∀ j, j < n → f j = f' j) : BrO w B g n f' := by
  unfold BrO at h ⊢
  rw [← List.map_congr_left (f := f) (fun j hj => he j (by simpa using hj))]
  exact h
theorem BrO.set {w : World} {B g n : Nat} {f : Nat → Int} (h : BrO w B g n f) {j : Nat} (v : Int) : BrO (w.setCell ⟨g, j, none⟩ (.int .i64 v)) B g n (fun i => if i = j then v else f i) := by
  have := (World.ownsRow.stored h j (.int .i64 v)).1
  unfold BrO
  have e : (ints ((List.range n).map f)).set j (.int .i64 v) = ints ((List.range n).map fun i => if i = j then v else f i) := by
    apply List.ext_getElem?
    intro i
    rw [List.getElem?_set]
    simp only [ints, List.getElem?_map, List.length_map, List.length_range]
    by_cases hi : j = i
    · subst hi
      rw [if_pos rfl]
      by_cases hn : j < n
      · rw [if_pos hn, List.getElem?_range hn]; simp
      · rw [if_neg hn, List.getElem?_eq_none (by simpa using hn)]; rfl
    · rw [if_neg hi]
      by_cases hn : i < n
      · rw [List.getElem?_range hn]; simp [Ne.symm hi]
      · rw [List.getElem?_eq_none (by simpa using hn)]; rfl
  rw [← e]
  exact this
theorem BrO.later {w w1 : World} {B g n : Nat} {f : Nat → Int} (h : BrO w B g n f) (hb : Below w.heap.size w w1) : BrO w1 B g n f := own_below h hb
theorem BrO.mono {w : World} {B B' g n : Nat} {f : Nat → Int} (h : BrO w B g n f) (hB : B' ≤ B) : BrO w B' g n f := own_mono h hB
theorem BrO.drewN {w : World} {B g n : Nat} {f : Nat → Int} (h : BrO w B g n f) (k : Nat) : BrO (w.drewN k) B g n f := h.later (below_dN (Below.refl _ _) k)
theorem bro_new (n : Nat) (w : World) (hn : n ≤ 1000000) : BrO (w.alloc (.cells (madeCells #[.int .i64 0] n) 3)) w.heap.size w.heap.size n (fun _ => 0) := by
  have := World.ownsRow_lit (base := w.heap.size) (e := 3) (size := 1) w (madeCells #[.int .i64 0] n) n (Nat.le_refl _) (by unfold maxLen; omega) (by simp [madeCells])
  unfold BrO
  rw [toList_madeCells_one] at this
  have e : ints ((List.range n).map fun _ => 0) = List.replicate n (.int .i64 0) := by
    apply List.ext_getElem?
    intro i
    simp only [ints, List.getElem?_map, List.getElem?_replicate]
    by_cases hn : i < n
    · rw [List.getElem?_range hn, if_pos hn]; rfl
    · rw [List.getElem?_eq_none (by simpa using hn), if_neg hn]; rfl
  rw [e]
  exact this
theorem BrO.bord {w : World} {B g n : Nat} {A : List UInt8} {i : Nat} (h : BrO w B g n (bF A i)) {v : Int} (hv : v = (brd A (i + 1) : Int)) : BrO (w.setCell ⟨g, i, none⟩ (.int .i64 v)) B g n (bF A (i + 1)) := by
  refine (h.set (j := i) v).congr (fun j _ => ?_)
  unfold bF
  by_cases hj : j = i
  · rw [if_pos hj, if_pos (by omega), hv, hj]
  · rw [if_neg hj]
    by_cases h1 : j < i
    · rw [if_pos h1, if_pos (by omega)]
    · rw [if_neg h1, if_neg (by omega)]

set_option maxRecDepth 100000 in
set_option maxHeartbeats 4000000 in
theorem l11Borders_any (p : ByteArray) (w : World) (h0 : 0 < p.size) (hp : p.size ≤ 300) :
    Calls Tryd.prog 39 #[.string p] w fun e w' => e = .returned (.slice (some ⟨w.heap.size, 0, none⟩) p.size p.size) ∧ BrO w' w.heap.size w.heap.size p.size (bF p.data.toList p.size) ∧ Below w.heap.size w w' := by
  have hmk := ints_made p.size (by omega) w .i64
  go_enter Tryd.func39, Tryd.ntmps39
  go_wp2
  have HQ : Hid (BrO (w.alloc (.cells (madeCells #[.int .i64 0] p.size) 3)) w.heap.size w.heap.size p.size (bF p.data.toList 1) ∧ Below w.heap.size w (w.alloc (.cells (madeCells #[.int .i64 0] p.size) 3))) := hide ⟨(bro_new p.size w (by omega)).congr (fun j _ => bF_0 _ j), (Below.refl _ _).alloc (Nat.le_refl _) _⟩
  generalize w.alloc (.cells (madeCells #[.int .i64 0] p.size) 3) = W0 at *
  clear hmk
  go_loopw [4, 5] (fun vn vi wr => ∃ i : Nat, 1 ≤ i ∧ i ≤ p.size ∧ vi = .int .i64 (i : Int) ∧ (∃ n : Nat, vn = .int .i64 (n : Int) ∧ Hid (n = brd p.data.toList i)) ∧ Hid (BrO wr w.heap.size w.heap.size p.size (bF p.data.toList i) ∧ Below w.heap.size w wr)) (fun _ vi _ => p.size - (intOf vi).toNat)
  case atStart => exact ⟨1, by omega, by omega, rfl, ⟨0, rfl, hide (brd_1 _).symm⟩, HQ⟩
  case round =>
    obtain ⟨i, h1, hi, rfl, ⟨n, rfl, HN⟩, HR⟩ := hrel
    clear HQ
    by_cases hlt : i < p.size
    · have hnlt : n < i := by rw [HN.out]; exact brd_lt _ (by omega)
      have HF : Hid (kfl p.data.toList p[i] n = brd p.data.toList (i + 1)) := hide (by rw [brd_step _ h1, gd_at p i hlt, HN.out])
      clear HN
      go_wp2
      go_loopw [4] (fun vn wy => ∃ n : Nat, vn = .int .i64 (n : Int) ∧ n < i ∧ Hid (kfl p.data.toList p[i] n = brd p.data.toList (i + 1)) ∧ Hid (BrO wy w.heap.size w.heap.size p.size (bF p.data.toList i) ∧ Below w.heap.size w wy)) (fun vn _ => (intOf vn).toNat)
      case atStart => exact ⟨n, rfl, hnlt, HF, HR⟩
      case round =>
        clear HR HF hnlt
        obtain ⟨n, rfl, hnlt, HF, HR⟩ := hrel
        have hnp : n < p.size := by omega
        by_cases he : p[i] = p[n]
        · have q1 := u8_beq he
          have q2 := u8_ne1 he
          have HE : Hid (((n + 1 : Nat) : Int) = (brd p.data.toList (i + 1) : Int)) := hide (by rw [← HF.out, kfl_yes (by rw [gd_at p n hnp, he])])
          have HE2 : Hid (n + 1 = brd p.data.toList (i + 1)) := hide (by rw [← HF.out, kfl_yes (by rw [gd_at p n hnp, he])])
          clear he HF
          have c1 := HR.out.1.c hlt
          have f1 := HR.out.1.z i
          by_cases hn0 : n = 0
          · subst hn0
            go_wp2
            go_quiet (fail)
            go_wp2
            go_quiet (fail)
            go_wp2
            exact ⟨⟨i + 1, by omega, by omega, by go_num, ⟨1, rfl, HE2⟩, hide ⟨(HR.out.1.drewN _).bord HE.out, (below_dN HR.out.2 _).setCell (p := ⟨w.heap.size, i, none⟩) (Nat.le_refl _) _⟩⟩, by simp [intOf]; omega⟩
          · have hn1 : 0 < n := by omega
            go_wp2
            go_quiet (fail)
            go_wp2
            go_quiet (fail)
            go_wp2
            exact ⟨⟨i + 1, by omega, by omega, by go_num, ⟨n + 1, by go_num, HE2⟩, hide ⟨(HR.out.1.drewN _).bord HE.out, (below_dN HR.out.2 _).setCell (p := ⟨w.heap.size, i, none⟩) (Nat.le_refl _) _⟩⟩, by simp [intOf]; omega⟩
        · have q1 := u8_bne he
          have q2 := u8_ne2 he
          have hne : ¬ p.data.toList.getD n 0 = p[i] := by rw [gd_at p n hnp]; exact fun e => he e.symm
          by_cases hn0 : n = 0
          · subst hn0
            have HE2 : Hid (0 = brd p.data.toList (i + 1)) := hide (by rw [← HF.out, kfl_no hne])
            have HE : Hid ((0 : Int) = (brd p.data.toList (i + 1) : Int)) := hide (by rw [← HE2.out]; rfl)
            have c1 := HR.out.1.c hlt
            have f1 := HR.out.1.z i
            clear he hne HF
            go_wp2
            go_quiet (fail)
            go_wp2
            go_quiet (fail)
            go_wp2
            exact ⟨⟨i + 1, by omega, by omega, by go_num, ⟨0, rfl, HE2⟩, hide ⟨(HR.out.1.drewN _).bord HE.out, (below_dN HR.out.2 _).setCell (p := ⟨w.heap.size, i, none⟩) (Nat.le_refl _) _⟩⟩, by simp [intOf]; omega⟩
          · have hn1 : 0 < n := by omega
            have c1 := HR.out.1.c (j := n - 1) (by omega)
            rw [bF_lt (by omega), show n - 1 + 1 = n by omega] at c1
            have hbl := brd_lt p.data.toList (k := n) (by omega)
            have ew : IntKind.i64.wrap ((n : Int) - 1) = ((n - 1 : Nat) : Int) := by rw [IntKind.wrap_i64]; omega
            have HF2 : Hid (kfl p.data.toList p[i] (brd p.data.toList n) = brd p.data.toList (i + 1)) := hide (by rw [← HF.out, kfl_back hne (by omega)])
            obtain ⟨m, hm⟩ : ∃ m, brd p.data.toList n = m := ⟨_, rfl⟩
            rw [hm] at c1 hbl HF2
            clear he hne HF hm
            go_wp2
            go_quiet (fail)
            go_wp2
            exact ⟨⟨m, rfl, by omega, HF2, hide ⟨HR.out.1.drewN _, below_dN HR.out.2 _⟩⟩, by simp [intOf]; omega⟩
    · obtain rfl : i = p.size := by omega
      go_wp2
      go_ret
      exact ⟨rfl, HR.out.1, HR.out.2⟩

/-- The bytes of a text lie in block g. -/
structure BtAt (w : World) (g : Nat) (s : ByteArray) : Prop where
  c : ∀ j (hj : j < s.size), w.cell? ⟨g, j, none⟩ = some (.int .u8 (s[j].toNat : Int))
  l : g < w.heap.size
theorem BtAt.later {w w1 : World} {g : Nat} {s : ByteArray} (h : BtAt w g s) (hb : Below w.heap.size w w1) : BtAt w1 g s :=
  ⟨fun j hj => (World.cell?_of_block (hb.block g h.l)).trans (h.c j hj), Nat.lt_of_lt_of_le h.l hb.size⟩
theorem BtAt.laterB {w w1 : World} {B g : Nat} {s : ByteArray} (h : BtAt w g s) (hb : Below B w w1) (hg : g < B) : BtAt w1 g s :=
  ⟨fun j hj => (World.cell?_of_block (hb.block g hg)).trans (h.c j hj), Nat.lt_of_lt_of_le h.l hb.size⟩

set_option maxRecDepth 100000 in
set_option maxHeartbeats 4000000 in
theorem bordersIn_any (p : ByteArray) (g cap : Nat) (w : World) (hb : BtAt w g p) (h0 : 0 < p.size) (hp : p.size ≤ 300) (hcap : p.size ≤ cap) :
    Calls Tryd.prog 37 #[.slice (some ⟨g, 0, none⟩) p.size cap] w fun e w' => e = .returned (.slice (some ⟨w.heap.size, 0, none⟩) p.size p.size) ∧ BrO w' w.heap.size w.heap.size p.size (bF p.data.toList p.size) ∧ Below w.heap.size w w' := by
  have hmk := ints_made p.size (by omega) w .i64
  have HB := hide hb
  have hgl := hb.l
  clear hb
  go_enter Tryd.func37, Tryd.ntmps37
  go_wp2
  go_step3
  go_wp2
  go_step3
  go_wp2
  have HQ : Hid (BrO (w.alloc (.cells (madeCells #[.int .i64 0] p.size) 3)) w.heap.size w.heap.size p.size (bF p.data.toList 1) ∧ Below w.heap.size w (w.alloc (.cells (madeCells #[.int .i64 0] p.size) 3))) := hide ⟨(bro_new p.size w (by omega)).congr (fun j _ => bF_0 _ j), (Below.refl _ _).alloc (Nat.le_refl _) _⟩
  generalize w.alloc (.cells (madeCells #[.int .i64 0] p.size) 3) = W0 at *
  clear hmk
  go_loopg [4] p.size (fun gh vi wr => ∃ i : Nat, i + gh = p.size + 1 ∧ 1 ≤ i ∧ i ≤ p.size ∧ vi = .int .i64 (i : Int) ∧ Hid (BrO wr w.heap.size w.heap.size p.size (bF p.data.toList i) ∧ Below w.heap.size w wr))
  case atStart => exact ⟨1, by omega, by omega, by omega, rfl, HQ⟩
  case round =>
    obtain ⟨i, hg, h1, hi, rfl, HR⟩ := hrel
    clear HQ
    by_cases hlt : i < p.size
    · have c1 := HR.out.1.c (j := i - 1) (by omega)
      rw [bF_lt (by omega), show i - 1 + 1 = i by omega] at c1
      obtain ⟨n, hn⟩ : ∃ n, brd p.data.toList i = n := ⟨_, rfl⟩
      have hnlt : n < i := by rw [← hn]; exact brd_lt _ (by omega)
      have HF : Hid (kfl p.data.toList p[i] n = brd p.data.toList (i + 1)) := hide (by rw [brd_step _ h1, gd_at p i hlt, hn])
      rw [hn] at c1
      clear hn
      have ei : ((i : Int) - 1) = ((i - 1 : Nat) : Int) := by omega
      have ew : IntKind.i64.wrap ((i : Int) - 1) = ((i - 1 : Nat) : Int) := by rw [IntKind.wrap_i64]; omega
      obtain ⟨go, rfl⟩ : ∃ go, go = gk := ⟨_, rfl⟩
      obtain ⟨wo, rfl⟩ : ∃ wo, wo = wr := ⟨_, rfl⟩
      go_wp2
      clear c1 ei ew
      go_loopg [5] n (fun gh vn wy => vn = .int .i64 (gh : Int) ∧ gh < i ∧ Hid (kfl p.data.toList p[i] gh = brd p.data.toList (i + 1)) ∧ Hid (BrO wy w.heap.size w.heap.size p.size (bF p.data.toList i) ∧ Below w.heap.size w wy))
      case atStart => exact ⟨rfl, hnlt, HF, HR⟩
      case round =>
        clear HR HF hnlt
        obtain ⟨rfl, hnlt, HF, HR⟩ := hrel
        have hnp : gk < p.size := by omega
        have hBt := HB.out.laterB HR.out.2 hgl
        have d1 := hBt.c i hlt
        have d2 := hBt.c gk hnp
        clear hBt
        by_cases he : p[i] = p[gk]
        · have q2 := u8_ne1 he
          have HE : Hid (((gk : Int) + 1) = (brd p.data.toList (i + 1) : Int)) := hide (by rw [← HF.out, kfl_yes (by rw [gd_at p gk hnp, he])]; rfl)
          clear he HF
          have c1 := HR.out.1.c hlt
          have f1 := HR.out.1.z i
          go_wp2
          go_quiet (fail)
          go_wp2
          go_roundg (go - 1)
          case measure => omega
          case rel => exact ⟨i + 1, by omega, by omega, by omega, by go_num, hide ⟨(HR.out.1.drewN _).bord HE.out, (below_dN HR.out.2 _).setCell (p := ⟨w.heap.size, i, none⟩) (Nat.le_refl _) _⟩⟩
        · have q2 := u8_ne2 he
          have hne : ¬ p.data.toList.getD gk 0 = p[i] := by rw [gd_at p gk hnp]; exact fun e => he e.symm
          cases gk with
          | zero =>
            have HE : Hid (0 = brd p.data.toList (i + 1)) := hide (by rw [← HF.out, kfl_no hne])
            clear he hne HF
            go_wp2
            go_quiet (fail)
            go_wp2
            go_roundg (go - 1)
            case measure => omega
            case rel =>
              refine ⟨i + 1, by omega, by omega, by omega, by go_num, hide ⟨(HR.out.1.drewN _).congr (fun j _ => ?_), below_dN HR.out.2 _⟩⟩
              unfold bF
              by_cases hj : j = i
              · rw [hj, if_neg (by omega), if_pos (by omega), ← HE.out]; rfl
              · by_cases h1 : j < i
                · rw [if_pos h1, if_pos (by omega)]
                · rw [if_neg h1, if_neg (by omega)]
          | succ n =>
            have c1 := HR.out.1.c (j := n) (by omega)
            rw [bF_lt (by omega)] at c1
            have hbl := brd_lt p.data.toList (k := n + 1) (by omega)
            have HF2 : Hid (kfl p.data.toList p[i] (brd p.data.toList (n + 1)) = brd p.data.toList (i + 1)) := hide (by rw [← HF.out, kfl_back hne (by omega)])
            obtain ⟨m, hm⟩ : ∃ m, brd p.data.toList (n + 1) = m := ⟨_, rfl⟩
            rw [hm] at c1 hbl HF2
            clear he hne HF hm
            go_wp2
            go_quiet (fail)
            go_wp2
            go_roundg m
            case measure => omega
            case rel => exact ⟨rfl, by omega, HF2, hide ⟨HR.out.1.drewN _, below_dN HR.out.2 _⟩⟩
    · obtain rfl : i = p.size := by omega
      go_wp2
      try rw [Exit.noGoto_ret]
      go_ret
      exact ⟨rfl, HR.out.1, HR.out.2⟩
end Go.Proofs.YtfiefklhhchebaaDoor

set_option linter.unusedVariables false
namespace Go.Proofs.YtfiefklhhchebaaDoor
open Go.RowKit
open Doc1

theorem good_le' {s : ByteArray} (h : good s.data.toList = true) : s.size ≤ 300 := by
  unfold good at h
  rw [Bool.and_eq_true] at h
  have := of_decide_eq_true h.2
  simpa using this
theorem emp_not {s : ByteArray} (h : 0 < s.size) : s.toList.isEmpty = false := by
  rw [Lib.toList_data, List.isEmpty_eq_false_iff]
  intro e
  have : s.data.toList.length = 0 := by rw [e]; rfl
  rw [Array.length_toList] at this
  have h2 : s.data.size = s.size := rfl
  omega
theorem emp_yes {s : ByteArray} (h : s.size = 0) : s.toList.isEmpty = true := by
  rw [Lib.toList_data, List.isEmpty_iff]
  exact List.eq_nil_of_length_eq_zero (by simpa using h)
/-- It may be sought. -/
def sgt (p : ByteArray) : Bool := decide (0 < p.size) && good p.data.toList
theorem sgt_yes {p : ByteArray} (h : sgt p = true) : 0 < p.size ∧ p.size ≤ 300 ∧ good p.data.toList = true := by
  unfold sgt at h
  rw [Bool.and_eq_true] at h
  exact ⟨of_decide_eq_true h.1, good_le' h.2, h.2⟩

set_option maxHeartbeats 1000000 in
theorem isSought_any (p : ByteArray) (w : World) (hs : p.size ≤ 1048576) (hT : Tab w) :
    Calls Tryd.prog 30 #[.string p] w fun e w' => e = .returned (.bool (sgt p)) ∧ w' = w := by
  have H := goodTextI_any p w hs hT
  unfold sgt
  by_cases h0 : 0 < p.size
  · have he := emp_not h0
    rw [decide_eq_true h0, Bool.true_and]
    obtain ⟨x, hx⟩ : ∃ x, good p.data.toList = x := ⟨_, rfl⟩
    rw [hx] at H ⊢
    replace H := hide H
    clear hx
    go_enter Tryd.func30, Tryd.ntmps30
    go_wp2_with fail
    refine H.out.mono ?_
    rintro e w' ⟨rfl, hw⟩
    replace hw := hw.symm
    subst hw
    go_wp2
    go_ret
    exact ⟨rfl, rfl⟩
  · have he := emp_yes (s := p) (by omega)
    rw [decide_eq_false h0, Bool.false_and]
    clear H
    go_enter Tryd.func30, Tryd.ntmps30
    go_wp2
    go_ret
    exact ⟨rfl, rfl⟩

/-- What BordersOf tells. -/
def borO (p : ByteArray) : List Int := if sgt p then (List.range p.size).map (bF p.data.toList p.size) else []
theorem borO_len (p : ByteArray) : (borO p).length ≤ 300 := by
  unfold borO
  split
  · rename_i h; simpa using (sgt_yes h).2.1
  · simp
theorem borO_own {p : ByteArray} {w : World} {B g : Nat} (h : BrO w B g p.size (bF p.data.toList p.size)) (hs : sgt p = true) : IOwn w B (.slice (some ⟨g, 0, none⟩) p.size p.size) (borO p) := by
  unfold IOwn borO
  rw [if_pos hs, List.length_map, List.length_range]
  exact h
theorem borO_nil {p : ByteArray} (w : World) (B : Nat) (hs : sgt p = false) : IOwn w B (.slice none 0 0) (borO p) := by
  unfold IOwn borO
  rw [hs, if_neg (by simp)]
  exact World.ownsRow_nil _ _ _ _

set_option maxHeartbeats 1000000 in
theorem bordS_any (p : ByteArray) (w : World) (hs : p.size ≤ 1048576) :
    Calls Tryd.prog 17 #[.string p] w fun e w' => ∃ v, e = .returned (.tuple #[v, .bool (sgt p)]) ∧ IOwn w' w.heap.size v (borO p) ∧ Below w.heap.size w w' := by
  by_cases h : sgt p = true
  · obtain ⟨h0, h1, h2⟩ := sgt_yes h
    have he := emp_not h0
    have H := goodTextS_any p w hs
    rw [h2] at H
    have HB := hide (l11Borders_any p w h0 h1)
    have HO := hide (fun w' (hh : BrO w' w.heap.size w.heap.size p.size (bF p.data.toList p.size)) => borO_own hh h)
    rw [h]
    replace H := hide H
    clear h h2
    go_enter Tryd.func17, Tryd.ntmps17
    go_wp2_with fail
    refine H.out.mono ?_
    rintro e w' ⟨rfl, hw⟩
    replace hw := hw.symm
    subst hw
    go_wp2_with fail
    refine HB.out.mono ?_
    rintro e w1 ⟨rfl, ho, hb1⟩
    replace ho := hide ho
    go_wp2
    go_ret2
    exact ⟨_, rfl, HO.out _ ho.out, hb1⟩
  · rw [Bool.not_eq_true] at h
    have HO := hide (borO_nil (p := p) w w.heap.size h)
    rw [h]
    unfold sgt at h
    by_cases h0 : 0 < p.size
    · rw [decide_eq_true h0, Bool.true_and] at h
      have he := emp_not h0
      have H := goodTextS_any p w hs
      rw [h] at H
      replace H := hide H
      clear h
      go_enter Tryd.func17, Tryd.ntmps17
      go_wp2_with fail
      refine H.out.mono ?_
      rintro e w' ⟨rfl, hw⟩
      replace hw := hw.symm
      subst hw
      go_wp2
      go_ret2
      exact ⟨_, rfl, HO.out, Below.refl _ _⟩
    · have he := emp_yes (s := p) (by omega)
      clear h
      go_enter Tryd.func17, Tryd.ntmps17
      go_wp2
      go_ret2
      exact ⟨_, rfl, HO.out, Below.refl _ _⟩

theorem bytes_conv (p : ByteArray) (w : World) : ∃ W cap, (convert 9 22 (.string p)).run Tryd.prog w = .ok (.slice (some ⟨w.heap.size, 0, none⟩) p.size cap) W ∧ BtAt W w.heap.size p ∧ p.size ≤ cap ∧ Below w.heap.size w W ∧ W.heap.size = w.heap.size + 1 := by
  refine ⟨_, _, Lib.run_convert_string_bytes (P := Tryd.prog) w 9 22 5 p Tryd.underlying9 Tryd.underlying22 Tryd.underlying5, ⟨fun j hj => ?_, ?_⟩, grownCap_ge _ _ _ _, ?_, Lib.bytesWorld_size _ _ _⟩
  · rw [Lib.bytesWorld_cell w 5 p j hj, gd_at p j hj]
  · rw [Lib.bytesWorld_size]; omega
  · exact ⟨rfl, rfl, rfl, by rw [Lib.bytesWorld_size]; omega, fun i hi => Lib.bytesWorld_at_old w 5 p i hi⟩

set_option maxHeartbeats 1000000 in
theorem bordI_any (p : ByteArray) (w : World) (hs : p.size ≤ 1048576) (hT : Tab w) :
    Calls Tryd.prog 16 #[.string p] w fun e w' => ∃ v, e = .returned (.tuple #[v, .bool (sgt p)]) ∧ IOwn w' w.heap.size v (borO p) ∧ Below w.heap.size w w' := by
  have H := isSought_any p w hs hT
  by_cases h : sgt p = true
  · obtain ⟨h0, h1, h2⟩ := sgt_yes h
    obtain ⟨W, cap, hcv, hbt, hcap, hbw, hsz⟩ := bytes_conv p w
    have HB := hide (bordersIn_any p w.heap.size cap W hbt h0 h1 hcap)
    have HO := hide (fun w' (hh : BrO w' W.heap.size W.heap.size p.size (bF p.data.toList p.size)) => borO_own (hh.mono (Nat.le_of_lt (by omega) : w.heap.size ≤ W.heap.size)) h)
    rw [h] at H ⊢
    replace H := hide H
    replace hsz := hide hsz
    clear h h2 hbt
    go_enter Tryd.func16, Tryd.ntmps16
    go_wp2_with fail
    refine H.out.mono ?_
    rintro e w' ⟨rfl, hw⟩
    replace hw := hw.symm
    subst hw
    go_wp2_with fail
    refine HB.out.mono ?_
    rintro e w1 ⟨rfl, ho, hb1⟩
    replace ho := hide ho
    go_wp2
    go_ret2
    exact ⟨_, rfl, HO.out _ ho.out, hbw.trans (hb1.mono hbw.size)⟩
  · rw [Bool.not_eq_true] at h
    have HO := hide (borO_nil (p := p) w w.heap.size h)
    rw [h] at H ⊢
    replace H := hide H
    clear h
    go_enter Tryd.func16, Tryd.ntmps16
    go_wp2_with fail
    refine H.out.mono ?_
    rintro e w' ⟨rfl, hw⟩
    replace hw := hw.symm
    subst hw
    go_wp2
    go_ret2
    exact ⟨_, rfl, HO.out, Below.refl _ _⟩
end Go.Proofs.YtfiefklhhchebaaDoor

set_option linter.unusedVariables false
namespace Go.Proofs.YtfiefklhhchebaaDoor
open Go.RowKit
open Doc1

/-- The places found within the first i. -/
def fI (A S : List UInt8) (i : Nat) : List Int := (fnd A S i).map fun (k : Nat) => (k : Int)
theorem fI_len (A S : List UInt8) (i : Nat) : (fI A S i).length ≤ i := by unfold fI; rw [List.length_map]; exact fnd_len A S i
theorem fI_0 (A S : List UInt8) : fI A S 0 = [] := rfl
/-- What is known in the rounds of the search. -/
structure FdAt (A S : List UInt8) (W1 : World) (v : Value) (i : Nat) (wr : World) : Prop where
  own : IOwn wr W1.heap.size v (fI A S i)
  below : Below W1.heap.size W1 wr
theorem FdAt.later {A S : List UInt8} {W1 : World} {v : Value} {i : Nat} {w w1 : World} (h : FdAt A S W1 v i w) (hb : Below w.heap.size w w1) : FdAt A S W1 v i w1 :=
  ⟨own_below h.own hb, h.below.trans (hb.mono h.below.size)⟩
theorem FdAt.drewN {A S : List UInt8} {W1 : World} {v : Value} {i : Nat} {w : World} (h : FdAt A S W1 v i w) (k : Nat) : FdAt A S W1 v i (w.drewN k) := h.later (below_dN (Below.refl _ _) k)
/-- A byte that ends no p. -/
theorem FdAt.on {A S : List UInt8} {W1 : World} {v : Value} {i : Nat} {w : World} (h : FdAt A S W1 v i w) (hA : 0 < A.length) (he : kfl A (S.getD i 0) (pos A S i) ≠ A.length) : FdAt A S W1 v (i + 1) w :=
  ⟨by have := h.own; unfold fI at this ⊢; rw [fnd_on hA he]; exact this, h.below⟩
/-- A byte that ends one. -/
theorem FdAt.full {A S : List UInt8} {W1 : World} {v v' : Value} {i : Nat} {w w2 : World} {o : Obj} {x : Int} (h : FdAt A S W1 v i w) (hA : 0 < A.length) (he : kfl A (S.getD i 0) (pos A S i) = A.length) (hx : x = ((i + 1 - A.length : Nat) : Int))
    (ho : w2.ownsRow W1.heap.size 3 1 v' ((fI A S i).length + 1) (ints (fI A S i) ++ [.int .i64 x])) (hg : (w.alloc o).grownBy w2 v.ownBlock) : FdAt A S W1 v' (i + 1) w2 := by
  refine ⟨?_, below_append h.below h.own h.below.size hg⟩
  have e : fI A S (i + 1) = fI A S i ++ [x] := by unfold fI; rw [fnd_full hA he, List.map_append, hx]; rfl
  unfold IOwn
  rw [e, List.length_append]
  unfold ints at ho ⊢
  rw [List.map_append]
  exact ho

/-- What the search leaves. -/
def FdPost (p s : ByteArray) (w : World) (e : Ending) (w' : World) : Prop := ∃ v, e = .returned (.tuple #[v, .int .i64 (lks p.data.toList s.data.toList s.size : Int)]) ∧ IOwn w' w.heap.size v (fI p.data.toList s.data.toList s.size) ∧ Below w.heap.size w w'

set_option maxRecDepth 100000 in
set_option maxHeartbeats 8000000 in
theorem l11Find_any (p s : ByteArray) (w : World) (h0 : 0 < p.size) (hp : p.size ≤ 300) (hs : s.size ≤ 300) :
    Calls Tryd.prog 34 #[.string p, .string s] w (FdPost p s w) := by
  obtain ⟨i0, hi0, hz0, hz1, hz2⟩ := info_parts Tryd.info3
  have HP := hide (l11Borders_any p w h0 hp)
  have hA : 0 < p.data.toList.length := by simpa using h0
  have hAl : p.data.toList.length = p.size := by simp
  go_enter Tryd.func34, Tryd.ntmps34
  go_wp2_with fail
  refine HP.out.mono ?_
  rintro e W1 ⟨rfl, hbr, hb1⟩
  have HW := hide (And.intro hbr hb1)
  have hs1 := HW.out.1.lt.2
  have HF0 : Hid (FdAt p.data.toList s.data.toList W1 (.slice none 0 0) 0 W1) := hide ⟨World.ownsRow_nil _ _ _ _, Below.refl _ _⟩
  clear hbr hb1 HP
  go_wp2
  go_loopw [7, 8, 9, 10] (fun v vk vn vi wr => ∃ i : Nat, i ≤ s.size ∧ vi = .int .i64 (i : Int) ∧ (∃ n : Nat, vn = .int .i64 (n : Int) ∧ Hid (n = pos p.data.toList s.data.toList i)) ∧ (∃ k : Nat, vk = .int .i64 (k : Int) ∧ Hid (k = lks p.data.toList s.data.toList i)) ∧ ∃ v0, v0 = v ∧ Hid (FdAt p.data.toList s.data.toList W1 v0 i wr)) (fun _ _ _ vi _ => s.size - (intOf vi).toNat)
  case atStart => exact ⟨0, by omega, rfl, ⟨0, rfl, hide (pos_0 _ _ hA).symm⟩, ⟨0, rfl, hide rfl⟩, _, rfl, HF0⟩
  case round =>
    obtain ⟨i, hi, rfl, ⟨n, rfl, HN⟩, ⟨k, rfl, HK⟩, v, hv0, HR⟩ := hrel
    subst hv0
    clear HF0
    by_cases hlt : i < s.size
    · have hbd := lks_bd p.data.toList s.data.toList hA (i + 1)
      have hfp := kfl_pos_le (S := s.data.toList) (m := i) hA
      have HG : Hid (s.data.toList.getD i 0 = s[i]) := hide (gd_at s i hlt)
      obtain ⟨R, hR⟩ : ∃ R, kfl p.data.toList (s.data.toList.getD i 0) (pos p.data.toList s.data.toList i) = R := ⟨_, rfl⟩
      obtain ⟨M, hM⟩ : ∃ M, lks p.data.toList s.data.toList (i + 1) = M := ⟨_, rfl⟩
      have HF : Hid (kfl p.data.toList s[i] n = R) := hide (by rw [← hR, HG.out, HN.out])
      have HL : Hid (k + kfs p.data.toList s[i] n = M) := hide (by rw [← hM, lks, HG.out, HN.out, HK.out])
      have hnp : n < p.size := by rw [HN.out, ← hAl]; exact (pos_mx _ _ _ hA).lt
      have HRf := hide hR
      have HMf := hide hM
      rw [hM] at hbd
      rw [hR, hAl] at hfp
      have hM6 : M ≤ 600 := by omega
      clear hR hM HN HK HG hbd
      go_wp2
      go_loopw [8, 9] (fun vk vn wy => ∃ n k : Nat, vn = .int .i64 (n : Int) ∧ vk = .int .i64 (k : Int) ∧ n < p.size ∧ Hid (kfl p.data.toList s[i] n = R) ∧ Hid (k + kfs p.data.toList s[i] n = M) ∧ Hid (FdAt p.data.toList s.data.toList W1 v i wy)) (fun _ vn _ => (intOf vn).toNat)
      case atStart => exact ⟨n, k, rfl, rfl, hnp, HF, HL, HR⟩
      case round =>
        clear HR HF HL hnp
        obtain ⟨n, k, rfl, rfl, hnp, HF, HL, HR⟩ := hrel
        have hkM : k ≤ M := by have := HL.out; omega
        by_cases he : s[i] = p[n]
        · have q1 := u8_beq he
          have q2 := u8_ne1 he
          have hRn : R = n + 1 := by rw [← HF.out, kfl_yes (by rw [gd_at p n hnp, he])]
          have hMk : M = k + 1 := by rw [← HL.out, kfs_yes (by rw [gd_at p n hnp, he])]
          replace hMk := hide hMk
          clear he HF HL
          by_cases hfull : n + 1 = p.size
          · have hz : (((n : Int) + 1) == (p.size : Int)) = true := by simp; omega
            have hfl := HR.out.own.1
            have hln := fI_len p.data.toList s.data.toList i
            obtain ⟨m, hm⟩ : ∃ m, brd p.data.toList p.size = m := ⟨_, rfl⟩
            have HP2 : Hid (m = pos p.data.toList s.data.toList (i + 1)) := hide (by rw [pos_full hA (by rw [HRf.out, hRn, hAl]; exact hfull), hAl, hm])
            have hple : p.size ≤ i + 1 := by
              have := (suf_iff.1 ((full_iff (m := i) (S := s.data.toList) hA).1 (by rw [HRf.out, hRn, hAl]; exact hfull))).1
              omega
            by_cases hn0 : n = 0
            · subst hn0
              go_wp2
              go_quiet (fail)
              replace HR := hide (HR.out.drewN nq)
              generalize wr.drewN nq = wq at HR ⊢
              go_wp2
              go_quiet (fail)
              replace HR := hide (HR.out.drewN nq)
              generalize wq.drewN nq = wp at HR ⊢
              have ew : IntKind.i64.wrap ((1 : Int) - 1) = ((p.size - 1 : Nat) : Int) := by rw [IntKind.wrap_i64]; omega
              have e1 : ((1 : Int) - 1) = ((p.size - 1 : Nat) : Int) := by omega
              go_wp2_with (at_builtin; (refine wpList_append_own _ rfl _ _ 25 rfl W1.heap.size 3 i0 (.int .i64 0) 1 8 Tryd.underlying25 hi0 hz0 hz1 hz2 rfl (by decide) _ _ _ rfl (World.ownsRow.alloc HR.out.own _) ⟨wp.heap.size, 0, none⟩ 1 1 [.int .i64 (i : Int)] rfl rfl (World.news_of_block (cs := #[.int .i64 (i : Int)]) (t := 3) (fr := (0, 0)) (heap_alloc_new wp _)) (by simp [Value.oneCell']) (by unfold maxLen; omega) (by omega) (by have := HR.out.below.size; simp; omega) ?_); intro v' w3 own3 grow3 _; (have HR3 : Hid (FdAt p.data.toList s.data.toList W1 v' (i + 1) w3) := hide (HR.out.full hA (by rw [HRf.out, hRn, hAl]; exact hfull) (by rw [hAl]; omega) own3 grow3)); (have c1 := (HW.out.1.later HR3.out.below).c (j := p.size - 1) (by omega)); (rw [bF_lt (by omega), show p.size - 1 + 1 = p.size by omega, hm] at c1); (clear own3 grow3 HR))
              exact ⟨⟨i + 1, by omega, by go_num, ⟨m, rfl, HP2⟩, ⟨k + 1, by go_num, hide (by rw [HMf.out, hMk.out])⟩, _, rfl, HR3⟩, by simp [intOf]; omega⟩
            · have hn1 : 0 < n := by omega
              go_wp2
              go_quiet (fail)
              replace HR := hide (HR.out.drewN nq)
              generalize wr.drewN nq = wq at HR ⊢
              go_wp2
              go_quiet (fail)
              replace HR := hide (HR.out.drewN nq)
              generalize wq.drewN nq = wp at HR ⊢
              have ew : IntKind.i64.wrap ((n : Int) + 1 - 1) = ((p.size - 1 : Nat) : Int) := by rw [IntKind.wrap_i64]; omega
              go_wp2_with (at_builtin; (refine wpList_append_own _ rfl _ _ 25 rfl W1.heap.size 3 i0 (.int .i64 0) 1 8 Tryd.underlying25 hi0 hz0 hz1 hz2 rfl (by decide) _ _ _ rfl (World.ownsRow.alloc HR.out.own _) ⟨wp.heap.size, 0, none⟩ 1 1 [.int .i64 ((i : Int) + 1 - ((n : Int) + 1))] rfl rfl (World.news_of_block (cs := #[.int .i64 ((i : Int) + 1 - ((n : Int) + 1))]) (t := 3) (fr := (0, 0)) (heap_alloc_new wp _)) (by simp [Value.oneCell']) (by unfold maxLen; omega) (by omega) (by have := HR.out.below.size; simp; omega) ?_); intro v' w3 own3 grow3 _; (have HR3 : Hid (FdAt p.data.toList s.data.toList W1 v' (i + 1) w3) := hide (HR.out.full hA (by rw [HRf.out, hRn, hAl]; exact hfull) (by rw [hAl]; omega) own3 grow3)); (have c1 := (HW.out.1.later HR3.out.below).c (j := n) (by omega)); (rw [bF_lt (by omega), hfull, hm] at c1); (clear own3 grow3 HR))
              exact ⟨⟨i + 1, by omega, by go_num, ⟨m, rfl, HP2⟩, ⟨k + 1, by go_num, hide (by rw [HMf.out, hMk.out])⟩, _, rfl, HR3⟩, by simp [intOf]; omega⟩
          · have hz : (((n : Int) + 1) == (p.size : Int)) = false := by simp; omega
            have HR2 : Hid (FdAt p.data.toList s.data.toList W1 v (i + 1) wr) := hide (HR.out.on hA (by rw [HRf.out, hRn, hAl]; omega))
            have HP2 : Hid (n + 1 = pos p.data.toList s.data.toList (i + 1)) := hide (by rw [pos_on hA (by rw [HRf.out, hRn, hAl]; omega), HRf.out, hRn])
            clear HR
            replace hRn := hide hRn
            by_cases hn0 : n = 0
            · subst hn0
              go_wp2
              go_quiet (fail)
              go_wp2
              go_quiet (fail)
              go_wp2
              exact ⟨⟨i + 1, by omega, by go_num, ⟨0 + 1, by go_num, HP2⟩, ⟨k + 1, by go_num, hide (by rw [HMf.out, hMk.out])⟩, _, rfl, hide (HR2.out.drewN _)⟩, by simp [intOf]; omega⟩
            · have hn1 : 0 < n := by omega
              go_wp2
              go_quiet (fail)
              go_wp2
              go_quiet (fail)
              go_wp2
              exact ⟨⟨i + 1, by omega, by go_num, ⟨n + 1, by go_num, HP2⟩, ⟨k + 1, by go_num, hide (by rw [HMf.out, hMk.out])⟩, _, rfl, hide (HR2.out.drewN _)⟩, by simp [intOf]; omega⟩
        · have q1 := u8_bne he
          have q2 := u8_ne2 he
          have hne : ¬ p.data.toList.getD n 0 = s[i] := by rw [gd_at p n hnp]; exact fun e => he e.symm
          by_cases hn0 : n = 0
          · subst hn0
            have hRn : R = 0 := by rw [← HF.out, kfl_no hne]
            have hMk : M = k + 1 := by rw [← HL.out, kfs_no hne]
            replace hMk := hide hMk
            replace hRn := hide hRn
            have HR2 : Hid (FdAt p.data.toList s.data.toList W1 v (i + 1) wr) := hide (HR.out.on hA (by rw [HRf.out, hRn.out]; omega))
            have HP2 : Hid (0 = pos p.data.toList s.data.toList (i + 1)) := hide (by rw [pos_on hA (by rw [HRf.out, hRn.out]; omega), HRf.out, hRn.out])
            have hz : (((0 : Int)) == (p.size : Int)) = false := by simp; omega
            clear he hne HF HL HR
            go_wp2
            go_quiet (fail)
            go_wp2
            go_quiet (fail)
            go_wp2
            exact ⟨⟨i + 1, by omega, by go_num, ⟨0, rfl, HP2⟩, ⟨k + 1, by go_num, hide (by rw [HMf.out, hMk.out])⟩, _, rfl, hide (HR2.out.drewN _)⟩, by simp [intOf]; omega⟩
          · have hn1 : 0 < n := by omega
            have c1 := (HW.out.1.later HR.out.below).c (j := n - 1) (by omega)
            rw [bF_lt (by omega), show n - 1 + 1 = n by omega] at c1
            have hbl := brd_lt p.data.toList (k := n) (by omega)
            have ew : IntKind.i64.wrap ((n : Int) - 1) = ((n - 1 : Nat) : Int) := by rw [IntKind.wrap_i64]; omega
            have HF2 : Hid (kfl p.data.toList s[i] (brd p.data.toList n) = R) := hide (by rw [← HF.out, kfl_back hne (by omega)])
            have HL2 : Hid (k + 1 + kfs p.data.toList s[i] (brd p.data.toList n) = M) := hide (by rw [← HL.out, kfs_back hne (by omega)]; omega)
            obtain ⟨m, hm⟩ : ∃ m, brd p.data.toList n = m := ⟨_, rfl⟩
            rw [hm] at c1 hbl HF2 HL2
            clear he hne HF HL hm
            go_wp2
            go_quiet (fail)
            go_wp2
            exact ⟨⟨m, k + 1, rfl, by go_num, by omega, HF2, HL2, hide (HR.out.drewN _)⟩, by simp [intOf]; omega⟩
    · obtain rfl : i = s.size := by omega
      have HB := hide HW.out.2
      have HO : Hid (FdPost p s w (.returned (.tuple #[v, .int .i64 (k : Int)])) wr) := hide ⟨v, by rw [HK.out], own_mono HR.out.own HB.out.size, HB.out.trans (HR.out.below.mono HB.out.size)⟩
      clear HR
      go_wp2
      go_ret2
      exact HO.out
end Go.Proofs.YtfiefklhhchebaaDoor

set_option linter.unusedVariables false
namespace Go.Proofs.YtfiefklhhchebaaDoor
open Go.RowKit
open Doc1

set_option maxRecDepth 100000 in
set_option maxHeartbeats 8000000 in
theorem lookThrough_any (p s : ByteArray) (gp gs cp cs : Nat) (w : World) (hbp : BtAt w gp p) (hbs : BtAt w gs s) (h0 : 0 < p.size) (hp : p.size ≤ 300) (hs : s.size ≤ 300) (hcp : p.size ≤ cp) (hcs : s.size ≤ cs) :
    Calls Tryd.prog 32 #[.slice (some ⟨gp, 0, none⟩) p.size cp, .slice (some ⟨gs, 0, none⟩) s.size cs] w (FdPost p s w) := by
  obtain ⟨i0, hi0, hz0, hz1, hz2⟩ := info_parts Tryd.info3
  have HP := hide (bordersIn_any p gp cp w hbp h0 hp hcp)
  have HBP := hide hbp
  have HBS := hide hbs
  have hA : 0 < p.data.toList.length := by simpa using h0
  have hAl : p.data.toList.length = p.size := by simp
  clear hbp hbs
  go_enter Tryd.func32, Tryd.ntmps32
  go_wp2_with fail
  go_step3
  go_wp2_with fail
  refine HP.out.mono ?_
  rintro e W1 ⟨rfl, hbr, hb1⟩
  have HW := hide (And.intro hbr hb1)
  have hs1 := HW.out.1.lt.2
  have HF0 : Hid (FdAt p.data.toList s.data.toList W1 (.slice none 0 0) 0 W1) := hide ⟨World.ownsRow_nil _ _ _ _, Below.refl _ _⟩
  replace HBP := hide (HBP.out.later hb1)
  replace HBS := hide (HBS.out.later hb1)
  clear hbr hb1 HP
  go_wp2
  go_step3
  go_wp2
  go_loopg [7, 8, 9, 16] s.size (fun gh v vn vk vi wr => ∃ i : Nat, i + gh = s.size ∧ vi = .int .i64 (i : Int) ∧ (∃ n : Nat, vn = .int .i64 (n : Int) ∧ Hid (n = pos p.data.toList s.data.toList i)) ∧ (∃ k : Nat, vk = .int .i64 (k : Int) ∧ Hid (k = lks p.data.toList s.data.toList i)) ∧ ∃ v0, v0 = v ∧ Hid (FdAt p.data.toList s.data.toList W1 v0 i wr))
  case atStart => exact ⟨0, by omega, rfl, ⟨0, rfl, hide (pos_0 _ _ hA).symm⟩, ⟨0, rfl, hide rfl⟩, _, rfl, HF0⟩
  case round =>
    obtain ⟨i, hig, rfl, ⟨n, rfl, HN⟩, ⟨k, rfl, HK⟩, v, hv0, HR⟩ := hrel
    subst hv0
    clear HF0
    obtain ⟨go, rfl⟩ : ∃ go, go = gk := ⟨_, rfl⟩
    by_cases hlt : i < s.size
    · have hbd := lks_bd p.data.toList s.data.toList hA (i + 1)
      have hfp := kfl_pos_le (S := s.data.toList) (m := i) hA
      have HG : Hid (s.data.toList.getD i 0 = s[i]) := hide (gd_at s i hlt)
      obtain ⟨R, hR⟩ : ∃ R, kfl p.data.toList (s.data.toList.getD i 0) (pos p.data.toList s.data.toList i) = R := ⟨_, rfl⟩
      obtain ⟨M, hM⟩ : ∃ M, lks p.data.toList s.data.toList (i + 1) = M := ⟨_, rfl⟩
      have HF : Hid (kfl p.data.toList s[i] n = R) := hide (by rw [← hR, HG.out, HN.out])
      have HL : Hid (k + 1 + kfs p.data.toList s[i] n = M + 1) := hide (by rw [← hM, lks, HG.out, HN.out, HK.out]; omega)
      have hnp : n < p.size := by rw [HN.out, ← hAl]; exact (pos_mx _ _ _ hA).lt
      have HRf := hide hR
      have HMf := hide hM
      rw [hM] at hbd
      rw [hR, hAl] at hfp
      have hM6 : M ≤ 600 := by omega
      have hk6 : k ≤ 600 := by have := HL.out; omega
      have d1 := (HBS.out.later HR.out.below).c i hlt
      clear hR hM HN HK HG hbd
      obtain ⟨wo, rfl⟩ : ∃ wo, wo = wr := ⟨_, rfl⟩
      go_wp2
      clear d1
      go_loopg [8, 9] n (fun gh vn vk wy => ∃ k : Nat, vn = .int .i64 (gh : Int) ∧ vk = .int .i64 (k : Int) ∧ gh < p.size ∧ Hid (kfl p.data.toList s[i] gh = R) ∧ Hid (k + kfs p.data.toList s[i] gh = M + 1) ∧ Hid (FdAt p.data.toList s.data.toList W1 v i wy))
      case atStart => exact ⟨k + 1, rfl, by go_num, hnp, HF, HL, HR⟩
      case round =>
        clear HR HF HL hnp hk6
        obtain ⟨k, rfl, rfl, hnp, HF, HL, HR⟩ := hrel
        obtain ⟨n, rfl⟩ : ∃ n, n = gk := ⟨_, rfl⟩
        have hkM : k ≤ M + 1 := by have := HL.out; omega
        have d2 := (HBP.out.later HR.out.below).c n hnp
        by_cases he : s[i] = p[n]
        · have q2 := u8_ne1 he
          have hRn : R = n + 1 := by rw [← HF.out, kfl_yes (by rw [gd_at p n hnp, he])]
          have hMk : M = k := by have := HL.out; rw [kfs_yes (by rw [gd_at p n hnp, he])] at this; omega
          replace hMk := hide hMk
          clear he HF HL
          by_cases hfull : n + 1 = p.size
          · have hz : (((n : Int) + 1) == (p.size : Int)) = true := by simp; omega
            have hln := fI_len p.data.toList s.data.toList i
            obtain ⟨m, hm⟩ : ∃ m, brd p.data.toList p.size = m := ⟨_, rfl⟩
            have HP2 : Hid (m = pos p.data.toList s.data.toList (i + 1)) := hide (by rw [pos_full hA (by rw [HRf.out, hRn, hAl]; exact hfull), hAl, hm])
            have hple : p.size ≤ i + 1 := by
              have := (suf_iff.1 ((full_iff (m := i) (S := s.data.toList) hA).1 (by rw [HRf.out, hRn, hAl]; exact hfull))).1
              omega
            go_wp2_with (at_builtin; (refine wpList_append_own _ rfl _ _ 25 rfl W1.heap.size 3 i0 (.int .i64 0) 1 8 Tryd.underlying25 hi0 hz0 hz1 hz2 rfl (by decide) _ _ _ rfl (World.ownsRow.alloc HR.out.own _) ⟨wr.heap.size, 0, none⟩ 1 1 [.int .i64 ((i : Int) + 1 - ((n : Int) + 1))] rfl rfl (World.news_of_block (cs := #[.int .i64 ((i : Int) + 1 - ((n : Int) + 1))]) (t := 3) (fr := (0, 0)) (heap_alloc_new wr _)) (by simp [Value.oneCell']) (by unfold maxLen; omega) (by omega) (by have := HR.out.below.size; simp; omega) ?_); intro v' w3 own3 grow3 _; (have HR3 : Hid (FdAt p.data.toList s.data.toList W1 v' (i + 1) w3) := hide (HR.out.full hA (by rw [HRf.out, hRn, hAl]; exact hfull) (by rw [hAl]; omega) own3 grow3)); (have c1 := (HW.out.1.later HR3.out.below).c (j := n) (by omega)); (rw [bF_lt (by omega), hfull, hm] at c1); (clear own3 grow3 HR))
            go_roundg (go - 1)
            case measure => omega
            case rel => exact ⟨i + 1, by omega, by go_num, ⟨m, rfl, HP2⟩, ⟨k, rfl, hide (by rw [HMf.out, hMk.out])⟩, _, rfl, HR3⟩
          · have hz : (((n : Int) + 1) == (p.size : Int)) = false := by simp; omega
            have HR2 : Hid (FdAt p.data.toList s.data.toList W1 v (i + 1) wr) := hide (HR.out.on hA (by rw [HRf.out, hRn, hAl]; omega))
            have HP2 : Hid (n + 1 = pos p.data.toList s.data.toList (i + 1)) := hide (by rw [pos_on hA (by rw [HRf.out, hRn, hAl]; omega), HRf.out, hRn])
            clear HR
            replace hRn := hide hRn
            go_wp2
            go_roundg (go - 1)
            case measure => omega
            case rel => exact ⟨i + 1, by omega, by go_num, ⟨n + 1, by go_num, HP2⟩, ⟨k, rfl, hide (by rw [HMf.out, hMk.out])⟩, _, rfl, HR2⟩
        · have q2 := u8_ne2 he
          have hne : ¬ p.data.toList.getD n 0 = s[i] := by rw [gd_at p n hnp]; exact fun e => he e.symm
          by_cases hn0 : n = 0
          · have hRn : R = 0 := by rw [← HF.out, hn0, kfl_no (by rw [← hn0]; exact hne)]
            have hMk : M = k := by have := HL.out; rw [hn0, kfs_no (by rw [← hn0]; exact hne)] at this; omega
            replace hMk := hide hMk
            replace hRn := hide hRn
            have HR2 : Hid (FdAt p.data.toList s.data.toList W1 v (i + 1) wr) := hide (HR.out.on hA (by rw [HRf.out, hRn.out]; omega))
            have HP2 : Hid (0 = pos p.data.toList s.data.toList (i + 1)) := hide (by rw [pos_on hA (by rw [HRf.out, hRn.out]; omega), HRf.out, hRn.out])
            clear he hne HF HL HR
            subst hn0
            go_wp2
            go_roundg (go - 1)
            case measure => omega
            case rel => exact ⟨i + 1, by omega, by go_num, ⟨0, rfl, HP2⟩, ⟨k, rfl, hide (by rw [HMf.out, hMk.out])⟩, _, rfl, HR2⟩
          · have hn1 : 0 < n := by omega
            have c1 := (HW.out.1.later HR.out.below).c (j := n - 1) (by omega)
            rw [bF_lt (by omega), show n - 1 + 1 = n by omega] at c1
            have hbl := brd_lt p.data.toList (k := n) (by omega)
            have ew : IntKind.i64.wrap ((n : Int) - 1) = ((n - 1 : Nat) : Int) := by rw [IntKind.wrap_i64]; omega
            have HF2 : Hid (kfl p.data.toList s[i] (brd p.data.toList n) = R) := hide (by rw [← HF.out, kfl_back hne (by omega)])
            have HL2 : Hid (k + 1 + kfs p.data.toList s[i] (brd p.data.toList n) = M + 1) := hide (by rw [← HL.out, kfs_back hne (by omega)]; omega)
            have hz : ((n : Int) == 0) = false := by simp; omega
            obtain ⟨m, hm⟩ : ∃ m, brd p.data.toList n = m := ⟨_, rfl⟩
            rw [hm] at c1 hbl HF2 HL2
            clear he hne HF HL hm
            go_wp2
            go_roundg m
            case measure => omega
            case rel => exact ⟨k + 1, rfl, by go_num, by omega, HF2, HL2, HR⟩
    · obtain rfl : i = s.size := by omega
      have HB := hide HW.out.2
      have HO : Hid (FdPost p s w (.returned (.tuple #[v, .int .i64 (k : Int)])) wr) := hide ⟨v, by rw [HK.out], own_mono HR.out.own HB.out.size, HB.out.trans (HR.out.below.mono HB.out.size)⟩
      clear HR
      go_wp2
      try rw [Exit.noGoto_ret]
      go_ret2
      exact HO.out
end Go.Proofs.YtfiefklhhchebaaDoor

set_option linter.unusedVariables false
namespace Go.Proofs.YtfiefklhhchebaaDoor
open Go.RowKit
open Doc1

/-- p may be sought in s. -/
def said (p s : ByteArray) : Bool := sgt p && good s.data.toList
theorem said_yes {p s : ByteArray} (h : said p s = true) : sgt p = true ∧ 0 < p.size ∧ p.size ≤ 300 ∧ s.size ≤ 300 ∧ good p.data.toList = true ∧ good s.data.toList = true := by
  unfold said at h
  rw [Bool.and_eq_true] at h
  have := sgt_yes h.1
  exact ⟨h.1, this.1, this.2.1, good_le' h.2, this.2.2, h.2⟩

set_option maxHeartbeats 1000000 in
theorem l11Said_any (p s : ByteArray) (w : World) (hp : p.size ≤ 1048576) (hs : s.size ≤ 1048576) :
    Calls Tryd.prog 33 #[.string p, .string s] w fun e w' => e = .returned (.bool (said p s)) ∧ w' = w := by
  have H := l9Texts_any p s w hp hs
  have hx : said p s = (decide (0 < p.size) && (good p.data.toList && good s.data.toList)) := by unfold said sgt; rw [Bool.and_assoc]
  rw [hx]
  by_cases h0 : 0 < p.size
  · have he := emp_not h0
    rw [decide_eq_true h0, Bool.true_and]
    obtain ⟨x, hx⟩ : ∃ x, (good p.data.toList && good s.data.toList) = x := ⟨_, rfl⟩
    rw [hx] at H ⊢
    replace H := hide H
    clear hx
    go_enter Tryd.func33, Tryd.ntmps33
    go_wp2_with fail
    refine H.out.mono ?_
    rintro e w' ⟨rfl, hw⟩
    replace hw := hw.symm
    subst hw
    go_wp2
    go_ret
    exact ⟨rfl, rfl⟩
  · have he := emp_yes (s := p) (by omega)
    rw [decide_eq_false h0, Bool.false_and]
    clear H
    go_enter Tryd.func33, Tryd.ntmps33
    go_wp2
    go_ret
    exact ⟨rfl, rfl⟩

def fndO (p s : ByteArray) : List Int := if said p s then fI p.data.toList s.data.toList s.size else []
def stpO (p s : ByteArray) : Int := if said p s then (lks p.data.toList s.data.toList s.size : Int) else 0
theorem fndO_len (p s : ByteArray) : (fndO p s).length ≤ 300 := by
  unfold fndO
  split
  · rename_i h; have := fI_len p.data.toList s.data.toList s.size; have := (said_yes h).2.2.2.1; omega
  · simp
def FaPost (p s : ByteArray) (w : World) (e : Ending) (w' : World) : Prop := ∃ v, e = .returned (.tuple #[v, .bool (said p s)]) ∧ IOwn w' w.heap.size v (fndO p s) ∧ Below w.heap.size w w'
def SoPost (p s : ByteArray) (w : World) (e : Ending) (w' : World) : Prop := e = .returned (.tuple #[.int .i64 (stpO p s), .bool (said p s)]) ∧ Below w.heap.size w w'
theorem fa_of {p s : ByteArray} {w w0 w' : World} {v : Value} (h : said p s = true) (ho : IOwn w' w0.heap.size v (fI p.data.toList s.data.toList s.size)) (hb0 : Below w.heap.size w w0) (hb : Below w0.heap.size w0 w') : FaPost p s w (.returned (.tuple #[v, .bool true])) w' :=
  ⟨v, by rw [h], by unfold fndO; rw [if_pos h]; exact own_mono ho hb0.size, hb0.trans (hb.mono hb0.size)⟩
theorem fa_no {p s : ByteArray} (w : World) (h : said p s = false) : FaPost p s w (.returned (.tuple #[.slice none 0 0, .bool false])) w :=
  ⟨_, by rw [h], by unfold fndO; rw [h, if_neg (by simp)]; exact World.ownsRow_nil _ _ _ _, Below.refl _ _⟩
theorem so_of {p s : ByteArray} {w w0 w' : World} (h : said p s = true) (hb0 : Below w.heap.size w w0) (hb : Below w0.heap.size w0 w') : SoPost p s w (.returned (.tuple #[.int .i64 (lks p.data.toList s.data.toList s.size : Int), .bool true])) w' :=
  ⟨by unfold stpO; rw [h, if_pos rfl], hb0.trans (hb.mono hb0.size)⟩
theorem so_no {p s : ByteArray} (w : World) (h : said p s = false) : SoPost p s w (.returned (.tuple #[.int .i64 0, .bool false])) w :=
  ⟨by unfold stpO; rw [h, if_neg (by simp)], Below.refl _ _⟩

set_option maxHeartbeats 1000000 in
theorem findS_any (p s : ByteArray) (w : World) (hp : p.size ≤ 1048576) (hs : s.size ≤ 1048576) :
    Calls Tryd.prog 11 #[.string p, .string s] w (FaPost p s w) := by
  have H := l11Said_any p s w hp hs
  by_cases h : said p s = true
  · obtain ⟨-, h0, h1, h2, -, -⟩ := said_yes h
    have HF := hide (l11Find_any p s w h0 h1 h2)
    have HO := hide (fun v w' ho hb => fa_of (v := v) (w' := w') h ho (Below.refl w.heap.size w) hb)
    rw [h] at H
    replace H := hide H
    clear h
    go_enter Tryd.func11, Tryd.ntmps11
    go_wp2_with fail
    refine H.out.mono ?_
    rintro e w' ⟨rfl, hw⟩
    replace hw := hw.symm
    subst hw
    go_wp2_with fail
    refine HF.out.mono ?_
    rintro e w1 ⟨v, rfl, ho, hb1⟩
    have HO1 := hide (HO.out v w1 ho hb1)
    clear ho hb1
    go_wp2
    go_ret2
    exact HO1.out
  · rw [Bool.not_eq_true] at h
    have HO := hide (fa_no w h)
    rw [h] at H
    replace H := hide H
    clear h
    go_enter Tryd.func11, Tryd.ntmps11
    go_wp2_with fail
    refine H.out.mono ?_
    rintro e w' ⟨rfl, hw⟩
    replace hw := hw.symm
    subst hw
    go_wp2
    go_ret2
    exact HO.out

set_option maxHeartbeats 1000000 in
theorem stepS_any (p s : ByteArray) (w : World) (hp : p.size ≤ 1048576) (hs : s.size ≤ 1048576) :
    Calls Tryd.prog 13 #[.string p, .string s] w (SoPost p s w) := by
  have H := l11Said_any p s w hp hs
  by_cases h : said p s = true
  · obtain ⟨-, h0, h1, h2, -, -⟩ := said_yes h
    have HF := hide (l11Find_any p s w h0 h1 h2)
    have HO := hide (fun w' hb => so_of (w' := w') h (Below.refl w.heap.size w) hb)
    rw [h] at H
    replace H := hide H
    clear h
    go_enter Tryd.func13, Tryd.ntmps13
    go_wp2_with fail
    refine H.out.mono ?_
    rintro e w' ⟨rfl, hw⟩
    replace hw := hw.symm
    subst hw
    go_wp2_with fail
    refine HF.out.mono ?_
    rintro e w1 ⟨v, rfl, ho, hb1⟩
    have HO1 := hide (HO.out w1 hb1)
    clear ho hb1
    go_wp2
    go_ret2
    exact HO1.out
  · rw [Bool.not_eq_true] at h
    have HO := hide (so_no w h)
    rw [h] at H
    replace H := hide H
    clear h
    go_enter Tryd.func13, Tryd.ntmps13
    go_wp2_with fail
    refine H.out.mono ?_
    rintro e w' ⟨rfl, hw⟩
    replace hw := hw.symm
    subst hw
    go_wp2
    go_ret2
    exact HO.out

/-- Both texts as rows of bytes, and the search over them. -/
theorem two_conv (p s : ByteArray) (w : World) : ∃ W cap W2 cap2, (convert 9 22 (.string p)).run Tryd.prog w = .ok (.slice (some ⟨w.heap.size, 0, none⟩) p.size cap) W ∧ (convert 9 22 (.string s)).run Tryd.prog W = .ok (.slice (some ⟨w.heap.size + 1, 0, none⟩) s.size cap2) W2 ∧ BtAt W2 w.heap.size p ∧ BtAt W2 (w.heap.size + 1) s ∧ p.size ≤ cap ∧ s.size ≤ cap2 ∧ Below w.heap.size w W2 := by
  obtain ⟨W, cap, h1, h2, h3, h4, h5⟩ := bytes_conv p w
  obtain ⟨W2, cap2, g1, g2, g3, g4, g5⟩ := bytes_conv s W
  rw [h5] at g1 g2
  exact ⟨W, cap, W2, cap2, h1, g1, h2.later g4, g2, h3, g3, h4.trans (g4.mono h4.size)⟩

set_option maxHeartbeats 1000000 in
theorem findI_any (p s : ByteArray) (w : World) (hp : p.size ≤ 1048576) (hs : s.size ≤ 1048576) (hT : Tab w) :
    Calls Tryd.prog 10 #[.string p, .string s] w (FaPost p s w) := by
  have H := isSought_any p w hp hT
  have H2 := goodTextI_any s w hs hT
  by_cases h : said p s = true
  · obtain ⟨h5, h0, h1, h2, -, h4⟩ := said_yes h
    obtain ⟨W, cap, W2, cap2, hc1, hc2, hb1, hb2, hcap, hcap2, hbw⟩ := two_conv p s w
    have HF := hide (lookThrough_any p s w.heap.size (w.heap.size + 1) cap cap2 W2 hb1 hb2 h0 h1 h2 hcap hcap2)
    have HO := hide (fun v w' ho hb => fa_of (v := v) (w' := w') h ho hbw hb)
    rw [h5] at H
    rw [h4] at H2
    replace H := hide H
    replace H2 := hide H2
    clear h hb1 hb2 hbw
    go_enter Tryd.func10, Tryd.ntmps10
    go_wp2_with fail
    refine H.out.mono ?_
    rintro e w' ⟨rfl, hw⟩
    replace hw := hw.symm
    subst hw
    go_wp2_with fail
    refine H2.out.mono ?_
    rintro e w' ⟨rfl, hw⟩
    replace hw := hw.symm
    subst hw
    go_wp2_with fail
    refine HF.out.mono ?_
    rintro e w1 ⟨v, rfl, ho, hb1⟩
    have HO1 := hide (HO.out v w1 ho hb1)
    clear ho hb1
    go_wp2
    go_ret2
    exact HO1.out
  · rw [Bool.not_eq_true] at h
    have HO := hide (fa_no w h)
    by_cases h5 : sgt p = true
    · have h4 : good s.data.toList = false := by unfold said at h; rw [h5, Bool.true_and] at h; exact h
      rw [h5] at H
      rw [h4] at H2
      replace H := hide H
      replace H2 := hide H2
      clear h h5 h4
      go_enter Tryd.func10, Tryd.ntmps10
      go_wp2_with fail
      refine H.out.mono ?_
      rintro e w' ⟨rfl, hw⟩
      replace hw := hw.symm
      subst hw
      go_wp2_with fail
      refine H2.out.mono ?_
      rintro e w' ⟨rfl, hw⟩
      replace hw := hw.symm
      subst hw
      go_wp2
      go_ret2
      exact HO.out
    · rw [Bool.not_eq_true] at h5
      rw [h5] at H
      replace H := hide H
      clear h h5 H2
      go_enter Tryd.func10, Tryd.ntmps10
      go_wp2_with fail
      refine H.out.mono ?_
      rintro e w' ⟨rfl, hw⟩
      replace hw := hw.symm
      subst hw
      go_wp2
      go_ret2
      exact HO.out

set_option maxHeartbeats 1000000 in
theorem stepI_any (p s : ByteArray) (w : World) (hp : p.size ≤ 1048576) (hs : s.size ≤ 1048576) (hT : Tab w) :
    Calls Tryd.prog 12 #[.string p, .string s] w (SoPost p s w) := by
  have H := isSought_any p w hp hT
  have H2 := goodTextI_any s w hs hT
  by_cases h : said p s = true
  · obtain ⟨h5, h0, h1, h2, -, h4⟩ := said_yes h
    obtain ⟨W, cap, W2, cap2, hc1, hc2, hb1, hb2, hcap, hcap2, hbw⟩ := two_conv p s w
    have HF := hide (lookThrough_any p s w.heap.size (w.heap.size + 1) cap cap2 W2 hb1 hb2 h0 h1 h2 hcap hcap2)
    have HO := hide (fun w' hb => so_of (w' := w') h hbw hb)
    rw [h5] at H
    rw [h4] at H2
    replace H := hide H
    replace H2 := hide H2
    clear h hb1 hb2 hbw
    go_enter Tryd.func12, Tryd.ntmps12
    go_wp2_with fail
    refine H.out.mono ?_
    rintro e w' ⟨rfl, hw⟩
    replace hw := hw.symm
    subst hw
    go_wp2_with fail
    refine H2.out.mono ?_
    rintro e w' ⟨rfl, hw⟩
    replace hw := hw.symm
    subst hw
    go_wp2_with fail
    refine HF.out.mono ?_
    rintro e w1 ⟨v, rfl, ho, hb1⟩
    have HO1 := hide (HO.out w1 hb1)
    clear ho hb1
    go_wp2
    go_ret2
    exact HO1.out
  · rw [Bool.not_eq_true] at h
    have HO := hide (so_no w h)
    by_cases h5 : sgt p = true
    · have h4 : good s.data.toList = false := by unfold said at h; rw [h5, Bool.true_and] at h; exact h
      rw [h5] at H
      rw [h4] at H2
      replace H := hide H
      replace H2 := hide H2
      clear h h5 h4
      go_enter Tryd.func12, Tryd.ntmps12
      go_wp2_with fail
      refine H.out.mono ?_
      rintro e w' ⟨rfl, hw⟩
      replace hw := hw.symm
      subst hw
      go_wp2_with fail
      refine H2.out.mono ?_
      rintro e w' ⟨rfl, hw⟩
      replace hw := hw.symm
      subst hw
      go_wp2
      go_ret2
      exact HO.out
    · rw [Bool.not_eq_true] at h5
      rw [h5] at H
      replace H := hide H
      clear h h5 H2
      go_enter Tryd.func12, Tryd.ntmps12
      go_wp2_with fail
      refine H.out.mono ?_
      rintro e w' ⟨rfl, hw⟩
      replace hw := hw.symm
      subst hw
      go_wp2
      go_ret2
      exact HO.out
end Go.Proofs.YtfiefklhhchebaaDoor
