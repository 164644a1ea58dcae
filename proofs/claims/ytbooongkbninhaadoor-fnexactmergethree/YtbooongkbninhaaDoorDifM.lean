/- The least change: the program's DiffOps. The least change: the program's DiffOps, whole. The least change: the model's DiffOps. The least change: the model's DiffOps, whole, and what both answer. -/
import Derived.Test.YtbooongkbninhaaDoorLcM
import Derived.BigQuiet
import Derived.Deep.QuietTactic
import Derived.Test.YtbooongkbninhaaDoorDif1
import Derived.Test.YtbooongkbninhaaDoorOpW78
import Derived.Test.YtbooongkbninhaaDoorRwM
import Derived.Test.YtbooongkbninhaaDoorOpSM
set_option linter.unusedVariables false
namespace Go.Proofs.YtbooongkbninhaaDoor
open Go.RowKit
open Doc1

theorem edF_lcD {A B : List UInt8} {j : Nat} (hj : j ≤ B.length) : edF 2 A B j = (A.length : Int) + ((B.length : Int) - j) - 2 * (lc A (B.drop j) : Int) := by
  unfold edF
  rw [if_pos hj]
  have := ed_lc A (B.drop j)
  rw [List.length_drop] at this
  omega
theorem dst_keep {a b : ByteArray} {i j : Nat} (hi : i < a.size) (hj : j < b.size) (h : a[i] = b[j]) : dst (a.data.toList.drop i) (b.data.toList.drop j) = ⟨1, 0⟩ :: dst (a.data.toList.drop (i + 1)) (b.data.toList.drop (j + 1)) := by
  rw [bdrop_at a i hi, bdrop_at b j hj, dst_cc, if_pos h]
theorem dst_drop {a b : ByteArray} {i j : Nat} (hi : i < a.size) (hn : ∀ hj : j < b.size, ¬ a[i] = b[j]) (h : lc (a.data.toList.drop (i + 1)) (b.data.toList.drop j) = lc (a.data.toList.drop i) (b.data.toList.drop j)) : dst (a.data.toList.drop i) (b.data.toList.drop j) = ⟨3, a[i]⟩ :: dst (a.data.toList.drop (i + 1)) (b.data.toList.drop j) := by
  by_cases hj : j < b.size
  · rw [bdrop_at a i hi, bdrop_at b j hj, dst_cc, if_neg (hn hj), ← bdrop_at b j hj, ← bdrop_at a i hi, if_pos h]
  · rw [drop_end b j (by omega), bdrop_at a i hi, dst_cn]
theorem dst_put {a b : ByteArray} {i j : Nat} (hj : j < b.size) (hn : ∀ hi : i < a.size, ¬ a[i] = b[j]) (h : i < a.size → ¬ lc (a.data.toList.drop (i + 1)) (b.data.toList.drop j) = lc (a.data.toList.drop i) (b.data.toList.drop j)) : dst (a.data.toList.drop i) (b.data.toList.drop j) = ⟨2, b[j]⟩ :: dst (a.data.toList.drop i) (b.data.toList.drop (j + 1)) := by
  by_cases hi : i < a.size
  · rw [bdrop_at a i hi, bdrop_at b j hj, dst_cc, if_neg (hn hi), ← bdrop_at b j hj, ← bdrop_at a i hi, if_neg (h hi)]
  · rw [drop_end a i (by omega), bdrop_at b j hj, dst_nc]
theorem rows_drop {a b : ByteArray} {i j : Nat} (hi : i < a.size) (hj : j ≤ b.size) : (edF 2 (a.data.toList.drop (i + 1)) b.data.toList j = edF 2 (a.data.toList.drop i) b.data.toList j - 1) ↔ lc (a.data.toList.drop (i + 1)) (b.data.toList.drop j) = lc (a.data.toList.drop i) (b.data.toList.drop j) := by
  rw [edF_lcD (by simpa using hj), edF_lcD (by simpa using hj), List.length_drop, List.length_drop]
  simp only [Array.length_toList, ByteArray.size_data]
  omega

def kpN (a b : ByteArray) (i j : Nat) : Bool := if h : i < a.size ∧ j < b.size then a[i]'h.1 == b[j]'h.2 else false
set_option maxRecDepth 100000 in
set_option maxHeartbeats 4000000 in
theorem keepsNext_any (a b : ByteArray) (G i j : Nat) (w : World) (ha : a.size ≤ 300) (hb : b.size ≤ 300) (hi : i ≤ a.size) (hj : j ≤ b.size) :
    Calls Tryd.prog 92 #[.agg #[.string a, .string b, .slice (some ⟨G, 0, none⟩) (a.size + 1) (a.size + 1)], .int .i64 (i : Int), .int .i64 (j : Int)] w fun e w' => e = .returned (.bool (kpN a b i j)) ∧ Below w.heap.size w w' := by
  have hh := heap_alloc_new w (.cells #[.string a, .string b, .slice (some ⟨G, 0, none⟩) (a.size + 1) (a.size + 1)] 129)
  have c0 := cell_of_row _ w.heap.size 0 _ _ _ hh
  have c1 := cell_of_row _ w.heap.size 1 _ _ _ hh
  simp only [List.getElem?_toArray, List.getElem?_cons_zero, List.getElem?_cons_succ] at c0 c1
  have HB : Hid (Below w.heap.size w (w.alloc (.cells #[.string a, .string b, .slice (some ⟨G, 0, none⟩) (a.size + 1) (a.size + 1)] 129))) := hide ((Below.refl _ _).alloc (Nat.le_refl _) _)
  clear hh
  by_cases hia : i < a.size
  · have hd1 : decide ((i : Int) < (a.size : Int)) = true := decide_eq_true (by omega)
    by_cases hjb : j < b.size
    · have hd2 : decide ((j : Int) < (b.size : Int)) = true := decide_eq_true (by omega)
      by_cases he : a[i] = b[j]
      · have hq : ((a[i].toNat : Int) == (b[j].toNat : Int)) = true := u8_beq he
        have hr : kpN a b i j = true := by unfold kpN; rw [dif_pos ⟨hia, hjb⟩]; simpa using he
        rw [hr]
        clear he hr
        go_enter Tryd.func92, Tryd.ntmps92
        go_wp2
        go_quiet (fail)
        go_wp2
        go_ret
        exact ⟨rfl, below_dN HB.out _⟩
      · have hq : ((a[i].toNat : Int) == (b[j].toNat : Int)) = false := u8_bne he
        have hr : kpN a b i j = false := by unfold kpN; rw [dif_pos ⟨hia, hjb⟩]; simpa using he
        rw [hr]
        clear he hr
        go_enter Tryd.func92, Tryd.ntmps92
        go_wp2
        go_quiet (fail)
        go_wp2
        go_ret
        exact ⟨rfl, below_dN HB.out _⟩
    · have hd2 : decide ((j : Int) < (b.size : Int)) = false := decide_eq_false (by omega)
      have hr : kpN a b i j = false := by unfold kpN; rw [dif_neg (by omega)]
      rw [hr]
      clear hr
      go_enter Tryd.func92, Tryd.ntmps92
      go_wp2
      go_quiet (fail)
      go_wp2
      go_ret
      exact ⟨rfl, below_dN HB.out _⟩
  · have hd1 : decide ((i : Int) < (a.size : Int)) = false := decide_eq_false (by omega)
    have hr : kpN a b i j = false := by unfold kpN; rw [dif_neg (by omega)]
    rw [hr]
    clear hr
    go_enter Tryd.func92, Tryd.ntmps92
    go_wp2
    go_quiet (fail)
    go_wp2
    go_ret
    exact ⟨rfl, below_dN HB.out _⟩

def drN (a b : ByteArray) (i j : Nat) : Bool := decide (i < a.size) && decide (lc (a.data.toList.drop (i + 1)) (b.data.toList.drop j) = lc (a.data.toList.drop i) (b.data.toList.drop j))
set_option maxRecDepth 100000 in
set_option maxHeartbeats 4000000 in
theorem dropsNext_any (a b : ByteArray) (G i j : Nat) (w : World) (hr : TbAt w G 2 a b 0) (ha : a.size ≤ 300) (hb : b.size ≤ 300) (hi : i ≤ a.size) (hj : j ≤ b.size) :
    Calls Tryd.prog 94 #[.agg #[.string a, .string b, .slice (some ⟨G, 0, none⟩) (a.size + 1) (a.size + 1)], .int .i64 (i : Int), .int .i64 (j : Int)] w fun e w' => e = .returned (.bool (drN a b i j)) ∧ Below w.heap.size w w' := by
  have hh := heap_alloc_new w (.cells #[.string a, .string b, .slice (some ⟨G, 0, none⟩) (a.size + 1) (a.size + 1)] 129)
  have c0 := cell_of_row _ w.heap.size 0 _ _ _ hh
  have c2 := cell_of_row _ w.heap.size 2 _ _ _ hh
  simp only [List.getElem?_toArray, List.getElem?_cons_zero, List.getElem?_cons_succ] at c0 c2
  have HB : Hid (Below w.heap.size w (w.alloc (.cells #[.string a, .string b, .slice (some ⟨G, 0, none⟩) (a.size + 1) (a.size + 1)] 129))) := hide ((Below.refl _ _).alloc (Nat.le_refl _) _)
  have hT := hr.later ((Below.refl _ _).alloc (Nat.le_refl _) (.cells #[.string a, .string b, .slice (some ⟨G, 0, none⟩) (a.size + 1) (a.size + 1)] 129))
  clear hh hr
  by_cases hia : i < a.size
  · have hd1 : decide ((i : Int) < (a.size : Int)) = true := decide_eq_true (by omega)
    have r1 := (hT.r (i + 1) (Nat.zero_le _) (by omega)).c j (by omega)
    have r2 := (hT.r i (Nat.zero_le _) hi).c j (by omega)
    have b1 := edF_bd 2 (A := a.data.toList.drop (i + 1)) (B := b.data.toList) (by rw [List.length_drop]; simp; omega) (by simpa using hb) j
    have b2 := edF_bd 2 (A := a.data.toList.drop i) (B := b.data.toList) (by rw [List.length_drop]; simp; omega) (by simpa using hb) j
    have hrd := rows_drop (a := a) (b := b) hia hj
    obtain ⟨z1, hz1⟩ : ∃ z, edF 2 (a.data.toList.drop (i + 1)) b.data.toList j = z := ⟨_, rfl⟩
    obtain ⟨z2, hz2⟩ : ∃ z, edF 2 (a.data.toList.drop i) b.data.toList j = z := ⟨_, rfl⟩
    rw [hz1] at r1 b1 hrd
    rw [hz2] at r2 b2 hrd
    clear hz1 hz2 hT
    by_cases he : z1 = z2 - 1
    · have hq : (z1 == z2 - 1) = true := by simpa using he
      have hr : drN a b i j = true := by unfold drN; rw [decide_eq_true hia, decide_eq_true (hrd.1 he)]; rfl
      rw [hr]
      clear he hr hrd
      go_enter Tryd.func94, Tryd.ntmps94
      go_wp2
      go_quiet (fail)
      go_wp2
      go_ret
      exact ⟨rfl, below_dN HB.out _⟩
    · have hq : (z1 == z2 - 1) = false := by simpa using he
      have hr : drN a b i j = false := by unfold drN; rw [decide_eq_true hia, decide_eq_false (fun c => he (hrd.2 c))]; rfl
      rw [hr]
      clear he hr hrd
      go_enter Tryd.func94, Tryd.ntmps94
      go_wp2
      go_quiet (fail)
      go_wp2
      go_ret
      exact ⟨rfl, below_dN HB.out _⟩
  · have hd1 : decide ((i : Int) < (a.size : Int)) = false := decide_eq_false (by omega)
    have hr : drN a b i j = false := by unfold drN; rw [decide_eq_false hia]; rfl
    rw [hr]
    clear hr hT
    go_enter Tryd.func94, Tryd.ntmps94
    go_wp2
    go_quiet (fail)
    go_wp2
    go_ret
    exact ⟨rfl, below_dN HB.out _⟩
end Go.Proofs.YtbooongkbninhaaDoor

set_option linter.unusedVariables false
namespace Go.Proofs.YtbooongkbninhaaDoor
open Go.RowKit
open Doc1

theorem RwAt.low {w w1 : World} {g o B : Nat} {f : Nat → Int} (h : RwAt w g o f) (hb : Below B w w1) (hg : g < B) : RwAt w1 g o f := by
  refine ⟨fun j hj => (World.cell?_of_block (hb.block g hg)).trans (h.c j hj), fun j hj => ?_⟩
  have := h.z j hj
  unfold World.frozen? at this ⊢
  rw [hb.block g hg]
  exact this
theorem TbAt.low {w w1 : World} {G t k B : Nat} {a b : ByteArray} (h : TbAt w G t a b k) (hb : Below B w w1) (hg : G < B) : TbAt w1 G t a b k :=
  ⟨fun i hi => by obtain ⟨f, hf⟩ := h.z i hi; exact ⟨f, hf.low hb hg⟩, fun i h1 h2 => (h.r i h1 h2).low hb hg⟩
/-- The gathering stands, and of what lay only it has changed. -/
def GM (W2 : World) (gb : Nat) (pre : List St) (wr : World) : Prop := ∃ V, Gt gb V (gath g0 pre) wr ∧ Moves (OB gb (fun j => if j = 1 then .int .i64 0 else .slice none 0 0)) W2 (OB gb V) wr
theorem GM.up {W2 wr w1 : World} {gb : Nat} {pre : List St} (h : GM W2 gb pre wr) (hb : Below wr.heap.size wr w1) : GM W2 gb pre w1 := by
  obtain ⟨V, h1, h2⟩ := h
  exact ⟨V, h1.up hb, h2.trans (moves_up hb)⟩
theorem GM.below {W2 wr : World} {gb : Nat} {pre : List St} (h : GM W2 gb pre wr) (hg : gb ≤ W2.heap.size) : Below gb W2 wr := by
  obtain ⟨V, h1, h2⟩ := h
  exact h2.below hg (fun k hk c => by have := ob_new c; omega)
theorem GM.add {W2 wr : World} {gb : Nat} {pre : List St} (h : GM W2 gb pre wr) (x : St) (hx : sk x) (hl : pre.length ≤ 600) :
    Calls Tryd.prog 93 #[.pointer (some ⟨gb, 0, none⟩), stV x] wr fun e w' => e = .returned (.tuple #[]) ∧ GM W2 gb (pre ++ [x]) w' := by
  obtain ⟨V, h1, h2⟩ := h
  have hgb := gb_gath pre g0 0 gb0
  refine (add_any x hx h1 hgb (by omega)).mono ?_
  rintro e w' ⟨rfl, V', hV, hm⟩
  refine ⟨rfl, V', ?_, h2.trans hm⟩
  have := gath_snoc id pre x
  simp only [List.map_id, id] at this
  rw [this]
  exact hV
theorem GM.whole {w W2 wr : World} {gb : Nat} {S : List St} (h : GM W2 gb S wr) (hl : S.length ≤ 600) (hT : Tab w) (hb : Below w.heap.size w W2) (hgb : w.heap.size ≤ gb) (hg2 : gb ≤ W2.heap.size) :
    Calls Tryd.prog 95 #[.pointer (some ⟨gb, 0, none⟩)] wr fun e w' => ∃ v, e = .returned (.tuple #[v, .bool (goodO (gath g0 S).out)]) ∧
      POwn w' w.heap.size v (if goodO (gath g0 S).out then (gath g0 S).out else []) ∧ Below w.heap.size w w' := by
  have hbl := h.below hg2
  obtain ⟨V, hV, mv⟩ := h
  have lt0 := hT.lt
  have hsz := hb.size
  have no : ∀ k, k < w.heap.size → ¬ OB gb V k := fun k hk c => by
    have := ob_new (mv.own k (by omega) c)
    omega
  have hbW : Below w.heap.size w wr := hb.trans (hbl.mono hgb)
  have hTW := hT.block (hbW.block _ lt0)
  have hgb0 := gb_gath S g0 0 gb0
  have hgs0 := gs_gath S g0 0 gb0 (fun p hp => by simp [g0] at hp)
  refine (whole_any hV hgb0 hgs0 (by omega) hTW (no _ lt0)).mono ?_
  rintro e w' ⟨v, rfl, ⟨O', mv'⟩, ho, hin⟩
  have hszW := hbW.size
  refine ⟨v, rfl, own_raise ho (fun x hx => ?_), hbW.trans (mv'.below hszW no)⟩
  by_cases hlt : x < wr.heap.size
  · exact Nat.le_of_not_lt (fun c => no x c (hin x hx hlt))
  · omega

/-- What both answer of good texts. -/
def dfG (a b : List UInt8) : Bool := goodO (gath g0 (dst a b)).out
def dfO (a b : List UInt8) : List Pt := if dfG a b then (gath g0 (dst a b)).out else []

set_option maxRecDepth 100000 in
set_option maxHeartbeats 4000000 in
theorem diffI_good (a b : ByteArray) (w : World) (hT : Tab w) (h1 : good a.data.toList = true) (h2 : good b.data.toList = true) (ha : a.size ≤ 300) (hb : b.size ≤ 300) :
    Calls Tryd.prog 67 #[.string a, .string b] w fun e w' => ∃ v, e = .returned (.tuple #[v, .bool (dfG a.data.toList b.data.toList)]) ∧ POwn w' w.heap.size v (dfO a.data.toList b.data.toList) ∧ Below w.heap.size w w' := by
  have M := hide (measure_good 2 a b w hT h1 h2 ha hb (by omega))
  have KN := hide (fun G i j w1 hi hj => keepsNext_any a b G i j w1 ha hb hi hj)
  have DN := hide (fun G i j w1 h hi hj => dropsNext_any a b G i j w1 h ha hb hi hj)
  have hSl : (dst a.data.toList b.data.toList).length ≤ 600 := by
    have := dst_len _ a.data.toList b.data.toList (Nat.le_refl _)
    simp at this
    omega
  obtain ⟨S, hS⟩ : ∃ S, dst a.data.toList b.data.toList = S := ⟨_, rfl⟩
  rw [hS] at hSl
  obtain ⟨gd, hgd⟩ : ∃ g, dfG a.data.toList b.data.toList = g := ⟨_, rfl⟩
  obtain ⟨O, hO⟩ : ∃ o, dfO a.data.toList b.data.toList = o := ⟨_, rfl⟩
  rw [hgd, hO]
  have HGO : Hid (goodO (gath g0 S).out = gd ∧ (if goodO (gath g0 S).out then (gath g0 S).out else []) = O) := hide (by rw [← hS]; exact ⟨hgd, hO⟩)
  clear hgd hO
  have HS := hide hS
  have HT := hide hT
  clear h1 h2 hT hS
  go_enter Tryd.func67, Tryd.ntmps67
  go_wp2_with fail
  refine M.out.mono ?_
  rintro e w1 ⟨G, rfl, hG, hTb, hb1⟩
  have hh := heap_alloc_new w1 (.cells #[.string a, .string b, .slice (some ⟨G, 0, none⟩) (a.size + 1) (a.size + 1)] 129)
  have hT1 := hTb.later ((Below.refl _ _).alloc (Nat.le_refl _) (.cells #[.string a, .string b, .slice (some ⟨G, 0, none⟩) (a.size + 1) (a.size + 1)] 129))
  have hB1 := hb1.alloc hb1.size (.cells #[.string a, .string b, .slice (some ⟨G, 0, none⟩) (a.size + 1) (a.size + 1)] 129)
  have hs1 : (w1.alloc (.cells #[.string a, .string b, .slice (some ⟨G, 0, none⟩) (a.size + 1) (a.size + 1)] 129)).heap.size = w1.heap.size + 1 := by simp
  have hlG := hTb.lt
  have hs0 := hb1.size
  clear hTb hb1 M
  go_wp2
  generalize w1.alloc (.cells #[.string a, .string b, .slice (some ⟨G, 0, none⟩) (a.size + 1) (a.size + 1)] 129) = W1 at *
  have hgt := gt_new W1 133
  have hbW := (Below.refl W1.heap.size W1).alloc (Nat.le_refl _) (.cells #[.slice none 0 0, .int .i64 0, .slice none 0 0, .slice none 0 0] 133)
  have hs2 : (W1.alloc (.cells #[.slice none 0 0, .int .i64 0, .slice none 0 0, .slice none 0 0] 133)).heap.size = w1.heap.size + 2 := by simp [hs1]
  have hh2 := (hbW.block w1.heap.size (by omega)).trans hh
  have hT2 := hT1.later hbW
  have hB2 := hB1.trans (hbW.mono hB1.size)
  have HG : Hid (GM (W1.alloc (.cells #[.slice none 0 0, .int .i64 0, .slice none 0 0, .slice none 0 0] 133)) (w1.heap.size + 1) [] (W1.alloc (.cells #[.slice none 0 0, .int .i64 0, .slice none 0 0, .slice none 0 0] 133))) := hide ⟨_, by rw [hs1] at hgt; exact hgt, Moves.refl _ _⟩
  generalize W1.alloc (.cells #[.slice none 0 0, .int .i64 0, .slice none 0 0, .slice none 0 0] 133) = W2 at *
  have HW := hide (And.intro hh2 (And.intro hT2 hB2))
  clear hh hT1 hB1 hgt hbW hh2 hT2 hB2
  go_loopw [9, 10] (fun vi vj wr => ∃ i j pre, i ≤ a.size ∧ j ≤ b.size ∧ vi = .int .i64 ((i : Nat) : Int) ∧ vj = .int .i64 ((j : Nat) : Int) ∧ Hid (pre ++ dst (a.data.toList.drop i) (b.data.toList.drop j) = S ∧ GM W2 (w1.heap.size + 1) pre wr)) (fun vi vj _ => a.size - (intOf vi).toNat + (b.size - (intOf vj).toNat))
  case atStart => exact ⟨0, 0, [], Nat.zero_le _, Nat.zero_le _, rfl, rfl, hide ⟨HS.out, HG.out⟩⟩
  case round =>
    obtain ⟨i, j, pre, hi, hj, rfl, rfl, HR⟩ := hrel
    clear HG
    have hbl := HR.out.2.below (by omega)
    have c0 := (World.cell?_of_block (hbl.block w1.heap.size (by omega))).trans (cell_of_row W2 w1.heap.size 0 _ _ _ HW.out.1)
    have c1 := (World.cell?_of_block (hbl.block w1.heap.size (by omega))).trans (cell_of_row W2 w1.heap.size 1 _ _ _ HW.out.1)
    have c2 := (World.cell?_of_block (hbl.block w1.heap.size (by omega))).trans (cell_of_row W2 w1.heap.size 2 _ _ _ HW.out.1)
    simp only [List.getElem?_toArray, List.getElem?_cons_zero, List.getElem?_cons_succ] at c0 c1 c2
    have hrs : wr.heap.size ≥ W2.heap.size := hbl.size
    have hpl : pre.length ≤ 600 := by
      have := HR.out.1
      rw [← this, List.length_append] at hSl
      omega
    by_cases hia : i < a.size
    · have hd1 : decide ((i : Int) < (a.size : Int)) = true := decide_eq_true (by omega)
      by_cases hkn : kpN a b i j = true
      · have hjb : j < b.size := by
          by_cases h : j < b.size
          · exact h
          · unfold kpN at hkn; rw [dif_neg (by omega)] at hkn; cases hkn
        have he : a[i] = b[j] := by unfold kpN at hkn; rw [dif_pos ⟨hia, hjb⟩] at hkn; simpa using hkn
        have HE := hide (dst_keep hia hjb he)
        have KN' := KN.out G i j wr hi hj
        rw [hkn] at KN'
        replace KN' := hide KN'
        clear hkn he
        go_wp2_with fail
        refine KN'.out.mono ?_
        rintro e w3 ⟨rfl, hb3⟩
        have hG3 := HR.out.2.up hb3
        have AD := hide (hG3.add ⟨1, 0⟩ (by first | exact .inl rfl | exact .inr (.inl rfl) | exact .inr (.inr rfl)) hpl)
        unfold stV at AD
        go_wp2_with fail
        refine AD.out.mono ?_
        rintro e w5 ⟨rfl, hG5⟩
        have HN : Hid ((pre ++ [⟨1, 0⟩]) ++ dst (a.data.toList.drop (i + 1)) (b.data.toList.drop (j + 1)) = S ∧ GM W2 (w1.heap.size + 1) (pre ++ [⟨1, 0⟩]) w5) := hide ⟨by rw [List.append_assoc, List.singleton_append, ← HE.out]; exact HR.out.1, hG5⟩
        clear AD hG5
        go_wp2
        exact ⟨⟨i + 1, j + 1, _, by omega, by omega, by go_num, by go_num, HN⟩, by simp [intOf]; omega⟩
      · rw [Bool.not_eq_true] at hkn
        have hne : ∀ hj : j < b.size, ¬ a[i] = b[j] := fun hjb c => by
          unfold kpN at hkn
          rw [dif_pos ⟨hia, hjb⟩] at hkn
          simp [c] at hkn
        by_cases hdn : drN a b i j = true
        · have hl : lc (a.data.toList.drop (i + 1)) (b.data.toList.drop j) = lc (a.data.toList.drop i) (b.data.toList.drop j) := by
            unfold drN at hdn
            simp only [Bool.and_eq_true, decide_eq_true_eq] at hdn
            exact hdn.2
          have HE := hide (dst_drop hia hne hl)
          have KN' := KN.out G i j wr hi hj
          rw [hkn] at KN'
          replace KN' := hide KN'
          go_wp2_with fail
          refine KN'.out.mono ?_
          rintro e w3 ⟨rfl, hb3⟩
          have hG3 := HR.out.2.up hb3
          have hbl3 := hG3.below (by omega)
          have d0 := (World.cell?_of_block (hb3.block w1.heap.size (by omega))).trans c0
          have d1 := (World.cell?_of_block (hb3.block w1.heap.size (by omega))).trans c1
          have d2 := (World.cell?_of_block (hb3.block w1.heap.size (by omega))).trans c2
          have DN' := DN.out G i j w3 (HW.out.2.1.low hbl3 (by omega)) hi hj
          rw [hdn] at DN'
          replace DN' := hide DN'
          clear c0 c1 c2
          go_wp2_with fail
          refine DN'.out.mono ?_
          rintro e w4 ⟨rfl, hb4⟩
          have hG4 := hG3.up hb4
          clear d0 d1 d2
          clear hkn hdn hl hne
          have AD := hide (hG4.add ⟨3, a[i]⟩ (by first | exact .inl rfl | exact .inr (.inl rfl) | exact .inr (.inr rfl)) hpl)
          unfold stV at AD
          go_wp2_with fail
          refine AD.out.mono ?_
          rintro e w5 ⟨rfl, hG5⟩
          have HN : Hid ((pre ++ [⟨3, a[i]⟩]) ++ dst (a.data.toList.drop (i + 1)) (b.data.toList.drop (j)) = S ∧ GM W2 (w1.heap.size + 1) (pre ++ [⟨3, a[i]⟩]) w5) := hide ⟨by rw [List.append_assoc, List.singleton_append, ← HE.out]; exact HR.out.1, hG5⟩
          clear AD hG5
          go_wp2
          exact ⟨⟨i + 1, j, _, by omega, by omega, by go_num, by go_num, HN⟩, by simp [intOf]; omega⟩
        · rw [Bool.not_eq_true] at hdn
          have hl : ¬ lc (a.data.toList.drop (i + 1)) (b.data.toList.drop j) = lc (a.data.toList.drop i) (b.data.toList.drop j) := fun c => by
            unfold drN at hdn
            rw [decide_eq_true hia, decide_eq_true c] at hdn
            cases hdn
          have hjb : j < b.size := by
            by_cases h : j < b.size
            · exact h
            · rw [drop_end b j (by omega), lc_nr, lc_nr] at hl; exact absurd rfl hl
          have HE := hide (dst_put (i := i) hjb (fun _ => hne hjb) (fun _ => hl))
          have KN' := KN.out G i j wr hi hj
          rw [hkn] at KN'
          replace KN' := hide KN'
          go_wp2_with fail
          refine KN'.out.mono ?_
          rintro e w3 ⟨rfl, hb3⟩
          have hG3 := HR.out.2.up hb3
          have hbl3 := hG3.below (by omega)
          have d0 := (World.cell?_of_block (hb3.block w1.heap.size (by omega))).trans c0
          have d1 := (World.cell?_of_block (hb3.block w1.heap.size (by omega))).trans c1
          have d2 := (World.cell?_of_block (hb3.block w1.heap.size (by omega))).trans c2
          have DN' := DN.out G i j w3 (HW.out.2.1.low hbl3 (by omega)) hi hj
          rw [hdn] at DN'
          replace DN' := hide DN'
          clear c0 c1 c2
          go_wp2_with fail
          refine DN'.out.mono ?_
          rintro e w4 ⟨rfl, hb4⟩
          have hG4 := hG3.up hb4
          clear d0 d1 d2
          clear hkn hdn hl hne
          have AD := hide (hG4.add ⟨2, b[j]⟩ (by first | exact .inl rfl | exact .inr (.inl rfl) | exact .inr (.inr rfl)) hpl)
          unfold stV at AD
          go_wp2_with fail
          refine AD.out.mono ?_
          rintro e w5 ⟨rfl, hG5⟩
          have HN : Hid ((pre ++ [⟨2, b[j]⟩]) ++ dst (a.data.toList.drop (i)) (b.data.toList.drop (j + 1)) = S ∧ GM W2 (w1.heap.size + 1) (pre ++ [⟨2, b[j]⟩]) w5) := hide ⟨by rw [List.append_assoc, List.singleton_append, ← HE.out]; exact HR.out.1, hG5⟩
          clear AD hG5
          go_wp2
          exact ⟨⟨i, j + 1, _, by omega, by omega, by go_num, by go_num, HN⟩, by simp [intOf]; omega⟩
    · have hd1 : decide ((i : Int) < (a.size : Int)) = false := decide_eq_false (by omega)
      by_cases hjb : j < b.size
      · have hd2 : decide ((j : Int) < (b.size : Int)) = true := decide_eq_true (by omega)
        have hkn : kpN a b i j = false := by unfold kpN; rw [dif_neg (by omega)]
        have hdn : drN a b i j = false := by unfold drN; rw [decide_eq_false hia]; rfl
        have HE := hide (dst_put (i := i) hjb (fun h => absurd h hia) (fun h => absurd h hia))
        have KN' := KN.out G i j wr hi hj
        rw [hkn] at KN'
        replace KN' := hide KN'
        go_wp2_with fail
        refine KN'.out.mono ?_
        rintro e w3 ⟨rfl, hb3⟩
        have hG3 := HR.out.2.up hb3
        have hbl3 := hG3.below (by omega)
        have d0 := (World.cell?_of_block (hb3.block w1.heap.size (by omega))).trans c0
        have d1 := (World.cell?_of_block (hb3.block w1.heap.size (by omega))).trans c1
        have d2 := (World.cell?_of_block (hb3.block w1.heap.size (by omega))).trans c2
        have DN' := DN.out G i j w3 (HW.out.2.1.low hbl3 (by omega)) hi hj
        rw [hdn] at DN'
        replace DN' := hide DN'
        clear c0 c1 c2
        go_wp2_with fail
        refine DN'.out.mono ?_
        rintro e w4 ⟨rfl, hb4⟩
        have hG4 := hG3.up hb4
        clear d0 d1 d2
        clear hkn hdn
        have AD := hide (hG4.add ⟨2, b[j]⟩ (by first | exact .inl rfl | exact .inr (.inl rfl) | exact .inr (.inr rfl)) hpl)
        unfold stV at AD
        go_wp2_with fail
        refine AD.out.mono ?_
        rintro e w5 ⟨rfl, hG5⟩
        have HN : Hid ((pre ++ [⟨2, b[j]⟩]) ++ dst (a.data.toList.drop (i)) (b.data.toList.drop (j + 1)) = S ∧ GM W2 (w1.heap.size + 1) (pre ++ [⟨2, b[j]⟩]) w5) := hide ⟨by rw [List.append_assoc, List.singleton_append, ← HE.out]; exact HR.out.1, hG5⟩
        clear AD hG5
        go_wp2
        exact ⟨⟨i, j + 1, _, by omega, by omega, by go_num, by go_num, HN⟩, by simp [intOf]; omega⟩
      · have hd2 : decide ((j : Int) < (b.size : Int)) = false := decide_eq_false (by omega)
        have hpS : pre = S := by
          have := HR.out.1
          rw [drop_end a i (by omega), drop_end b j (by omega), dst_nn, List.append_nil] at this
          exact this
        have hGM := HR.out.2
        rw [hpS] at hGM
        have WH := hide (hGM.whole hSl HT.out HW.out.2.2 (by omega) (by omega))
        clear hpS hGM HR hbl c0 c1 c2
        go_wp2_with fail
        refine WH.out.mono ?_
        rintro e w5 ⟨v, rfl, ho, hbf⟩
        rw [HGO.out.2] at ho
        rw [HGO.out.1]
        have HF := hide (And.intro ho hbf)
        clear ho hbf WH HGO
        go_wp2
        go_ret2
        exact ⟨v, rfl, HF.out.1, HF.out.2⟩
end Go.Proofs.YtbooongkbninhaaDoor

set_option linter.unusedVariables false
namespace Go.Proofs.YtbooongkbninhaaDoor
open Go.RowKit
open Doc1

theorem own_pinD {w : World} {B : Nat} {v : Value} {l : List Pt} (h : POwn w B v l) (h0w : 0 < w.heap.size) (hs : ∀ p ∈ l, p.put.size ≤ 1048576 ∧ p.drop.size ≤ 1048576) (hl : l.length ≤ 1048576) :
    ∃ aw g cap, v = .slice aw l.length cap ∧ Pin w aw g cap l := by
  have hsi : ∀ i (hi : i < l.length), l[i].put.size ≤ 1048576 ∧ l[i].drop.size ≤ 1048576 := fun i hi => hs _ (List.getElem_mem hi)
  rcases h.2 with ⟨rfl, h0⟩ | ⟨g, cap, cur, rfl, hb, hh, hle, hm, hz, ht⟩
  · obtain rfl := List.eq_nil_of_length_eq_zero h0
    exact ⟨none, 0, 0, rfl, ⟨by simp, by unfold maxLen; omega⟩, hsi, hl, (fun j u hu => by simp [encP] at hu), h0w, fun c => absurd rfl c⟩
  · refine ⟨_, g, cap, rfl, ⟨hle, hm⟩, hsi, hl, fun j u hu => ?_, (Array.getElem?_eq_some_iff.1 hh).1, fun _ => rfl⟩
    have := h.cells (g := g) rfl j u hu
    have hadd : (⟨g, 0, none⟩ : Addr).add j = ⟨g, j, none⟩ := by unfold Addr.add; split <;> simp_all
    rwa [hadd] at this
theorem one_at (s : ByteArray) (k : Nat) (h : k < s.size) : s.extract k (k + 1) = ba [s[k]] := by
  apply ByteArray.ext
  apply Array.ext'
  simp only [ByteArray.data_extract, Array.toList_extract, List.extract_eq_take_drop, ba]
  rw [bdrop_at s k h, show k + 1 - k = 1 by omega]
  rfl
theorem ptV_keep : ptV (stP ⟨1, 0⟩) = .agg #[.int .i64 1, .string ⟨#[]⟩, .string ⟨#[]⟩] := rfl
theorem ptV_put (c : UInt8) : ptV (stP ⟨2, c⟩) = .agg #[.int .i64 0, .string (ba [c]), .string ⟨#[]⟩] := rfl
theorem ptV_drop (c : UInt8) : ptV (stP ⟨3, c⟩) = .agg #[.int .i64 0, .string ⟨#[]⟩, .string (ba [c])] := rfl
/-- One step more. -/
theorem addS {w : World} {B : Nat} {v : Value} {pre : List St} (x : St) (h : POwn w B v (normL (pre.map stP))) (hB : B ≤ w.heap.size) (hl : pre.length ≤ 600) (hp : ∀ y ∈ pre, so y) (hx : so x) :
    Calls Tryd.prog 83 #[v, ptV (stP x)] w fun e w' => ∃ v', e = .returned v' ∧ POwn w' B v' (normL ((pre ++ [x]).map stP)) ∧ Below B w w' := by
  have hpk : ∀ p ∈ pre.map stP, pk p ≠ 0 := fun p hh => by
    obtain ⟨y, hy, rfl⟩ := List.mem_map.1 hh
    exact pk_P (hp y hy)
  have hn := norm_bd (pre.map stP) hpk (pre.map stP).length (Nat.le_refl _)
  rw [List.take_length, List.length_map] at hn
  refine (l3Add_any (stP x) h hB (by omega) (fun q hq => (hn.2 q hq).mono (by omega)) (pk_P hx)).mono ?_
  rintro e w' ⟨v', rfl, h1, h2⟩
  refine ⟨v', rfl, ?_, h2⟩
  have : normL ((pre ++ [x]).map stP) = addP (normL (pre.map stP)) (stP x) := by simp [normL]
  rw [this]
  exact h1
theorem lcF_drop (a b : ByteArray) {i k : Nat} : (lcF a.data.toList b.data.toList (i + 1) k = lcF a.data.toList b.data.toList i k) ↔ lc (a.data.toList.drop (i + 1)) (b.data.toList.drop k) = lc (a.data.toList.drop i) (b.data.toList.drop k) := by
  unfold lcF; omega

set_option maxRecDepth 100000 in
set_option maxHeartbeats 8000000 in
theorem l9Diff_any (a b : ByteArray) (w : World) (ha : a.size ≤ 300) (hb : b.size ≤ 300) (hso : ∀ x ∈ dst a.data.toList b.data.toList, so x) :
    Calls Tryd.prog 87 #[.string a, .string b] w fun e w' => ∃ v, e = .returned v ∧ POwn w' w.heap.size v (normL ((dst a.data.toList b.data.toList).map stP)) ∧ Below w.heap.size w w' ∧ w.heap.size < w'.heap.size := by
  have T := hide (l9Table_any a b w ha hb)
  have hSl : (dst a.data.toList b.data.toList).length ≤ 600 := by
    have := dst_len _ a.data.toList b.data.toList (Nat.le_refl _)
    simp at this
    omega
  obtain ⟨S, hS⟩ : ∃ S, dst a.data.toList b.data.toList = S := ⟨_, rfl⟩
  rw [hS] at hSl hso ⊢
  have HS := hide hS
  have HSO := hide hso
  clear hS hso
  go_enter Tryd.func87, Tryd.ntmps87
  go_wp2_with fail
  refine T.out.mono ?_
  rintro e W1 ⟨rfl, hLt, hb1⟩
  have HW := hide (And.intro hLt hb1)
  have hBW := hLt.lt
  clear hLt hb1 T
  go_wp2
  go_loopw [6, 7, 8] (fun v vi vk wr => ∃ i k pre, i ≤ a.size ∧ k ≤ b.size ∧ vi = .int .i64 ((i : Nat) : Int) ∧ vk = .int .i64 ((k : Nat) : Int) ∧ ∃ v0, v0 = v ∧ Hid (pre ++ dst (a.data.toList.drop i) (b.data.toList.drop k) = S ∧ POwn wr W1.heap.size v0 (normL (pre.map stP)) ∧ Below W1.heap.size W1 wr)) (fun _ vi vk _ => a.size - (intOf vi).toNat + (b.size - (intOf vk).toNat))
  case atStart => exact ⟨0, 0, [], Nat.zero_le _, Nat.zero_le _, rfl, rfl, _, rfl, hide ⟨HS.out, World.ownsRow_nil _ _ _ _, Below.refl _ _⟩⟩
  case round =>
    obtain ⟨i, k, pre, hia0, hkb0, rfl, rfl, v, hv0, HR⟩ := hrel
    subst hv0
    have hLt := HW.out.1.later HR.out.2.2
    have hpl : pre.length ≤ 600 := by
      have := HR.out.1
      rw [← this, List.length_append] at hSl
      omega
    have hbs := HR.out.2.2.size
    have HPS : Hid (∀ y ∈ pre, so y) := hide (fun y hy => HSO.out y (by rw [← HR.out.1]; simp [hy]))
    have HNX : ∀ x L, dst (a.data.toList.drop i) (b.data.toList.drop k) = x :: L → so x := fun x L e => HSO.out x (by rw [← HR.out.1, e]; simp)
    have s0 := hLt.c i hia0
    have c0 := (hLt.r i hia0).c k (by omega)
    have b0 := lcF_bd (a := a.data.toList) (b := b.data.toList) (by simpa using ha) i k
    obtain ⟨y0, hy0⟩ : ∃ y, lcF a.data.toList b.data.toList i k = y := ⟨_, rfl⟩
    by_cases hia : i < a.size
    · have hd1 : decide ((i : Int) < (a.size : Int)) = true := decide_eq_true (by omega)
      have s1 := hLt.c (i + 1) (by omega)
      have c1 := (hLt.r (i + 1) (by omega)).c k (by omega)
      have b1 := lcF_bd (a := a.data.toList) (b := b.data.toList) (by simpa using ha) (i + 1) k
      have hld := lcF_drop a b (i := i) (k := k)
      obtain ⟨y1, hy1⟩ : ∃ y, lcF a.data.toList b.data.toList (i + 1) k = y := ⟨_, rfl⟩
      rw [hy1] at c1 b1 hld
      rw [hy0] at c0 b0 hld
      have hw1 : IntKind.i64.wrap ((i : Int) + 1) = (i : Int) + 1 := by rw [IntKind.wrap_i64]; omega
      clear hy1 hLt
      by_cases hkb : k < b.size
      · have hd2 : decide ((k : Int) < (b.size : Int)) = true := decide_eq_true (by omega)
        have hw2 : IntKind.i64.wrap ((k : Int) + 1) = (k : Int) + 1 := by rw [IntKind.wrap_i64]; omega
        have hd3 : ((k : Int) == (b.size : Int)) = false := by rw [beq_eq_false_iff_ne]; omega
        by_cases he : a[i] = b[k]
        · have hq : ((a[i].toNat : Int) == (b[k].toNat : Int)) = true := u8_beq he
          have HE := hide (dst_keep hia hkb he)
          have AD : Hid (∀ wx, Below wr.heap.size wr wx → Calls Tryd.prog 83 #[v, ptV (stP (⟨1, 0⟩ : St))] wx fun e w' => ∃ v', e = .returned v' ∧ POwn w' W1.heap.size v' (normL ((pre ++ [(⟨1, 0⟩ : St)]).map stP)) ∧ Below W1.heap.size wx w') := hide (fun wx hbx => addS (⟨1, 0⟩ : St) (own_below HR.out.2.1 hbx) (Nat.le_trans hbs hbx.size) hpl HPS.out (HNX _ _ HE.out))
          rw [ptV_keep] at AD
          clear HNX hy0
          clear he hld c1 s1 b1
          go_wp2
          go_quiet (fail)
          go_wp2_with fail
          refine (AD.out _ (below_dN (Below.refl _ _) _)).mono ?_
          rintro e w5 ⟨v', rfl, ho5, hb5⟩
          have HN : Hid ((pre ++ [(⟨1, 0⟩ : St)]) ++ dst (a.data.toList.drop (i + 1)) (b.data.toList.drop (k + 1)) = S ∧ POwn w5 W1.heap.size v' (normL ((pre ++ [(⟨1, 0⟩ : St)]).map stP)) ∧ Below W1.heap.size W1 w5) := hide ⟨by rw [List.append_assoc, List.singleton_append, ← HE.out]; exact HR.out.1, ho5, (HR.out.2.2.trans ((below_dN (Below.refl _ _) _).mono hbs)).trans hb5⟩
          clear AD ho5 hb5
          go_wp2
          go_roundw
          case rel => exact ⟨i + 1, k + 1, _, by omega, by omega, by go_num, by go_num, _, rfl, HN⟩
          case measure => simp [intOf]; omega
        · have hq : ((a[i].toNat : Int) == (b[k].toNat : Int)) = false := u8_bne he
          by_cases hdr : y1 = y0
          · have hq2 : (y1 == y0) = true := by simpa using hdr
            have HE := hide (dst_drop hia (fun _ => he) (hld.1 hdr))
            have AD : Hid (∀ wx, Below wr.heap.size wr wx → Calls Tryd.prog 83 #[v, ptV (stP (⟨3, a[i]⟩ : St))] wx fun e w' => ∃ v', e = .returned v' ∧ POwn w' W1.heap.size v' (normL ((pre ++ [(⟨3, a[i]⟩ : St)]).map stP)) ∧ Below W1.heap.size wx w') := hide (fun wx hbx => addS (⟨3, a[i]⟩ : St) (own_below HR.out.2.1 hbx) (Nat.le_trans hbs hbx.size) hpl HPS.out (HNX _ _ HE.out))
            rw [ptV_drop, ← one_at a i hia] at AD
            clear HNX hy0
            clear he hld hdr
            go_wp2
            go_quiet (fail)
            go_wp2
            go_quiet (fail)
            go_wp2_with fail
            refine (AD.out _ (below_dN (Below.refl _ _) _)).mono ?_
            rintro e w5 ⟨v', rfl, ho5, hb5⟩
            have HN : Hid ((pre ++ [(⟨3, a[i]⟩ : St)]) ++ dst (a.data.toList.drop (i + 1)) (b.data.toList.drop (k)) = S ∧ POwn w5 W1.heap.size v' (normL ((pre ++ [(⟨3, a[i]⟩ : St)]).map stP)) ∧ Below W1.heap.size W1 w5) := hide ⟨by rw [List.append_assoc, List.singleton_append, ← HE.out]; exact HR.out.1, ho5, (HR.out.2.2.trans ((below_dN (Below.refl _ _) _).mono hbs)).trans hb5⟩
            clear AD ho5 hb5
            go_wp2
            go_roundw
            case rel => exact ⟨i + 1, k, _, by omega, by omega, by go_num, by go_num, _, rfl, HN⟩
            case measure => simp [intOf]; omega
          · have hq2 : (y1 == y0) = false := by simpa using hdr
            have HE := hide (dst_put (i := i) hkb (fun _ => he) (fun _ c => hdr (hld.2 c)))
            have AD : Hid (∀ wx, Below wr.heap.size wr wx → Calls Tryd.prog 83 #[v, ptV (stP (⟨2, b[k]⟩ : St))] wx fun e w' => ∃ v', e = .returned v' ∧ POwn w' W1.heap.size v' (normL ((pre ++ [(⟨2, b[k]⟩ : St)]).map stP)) ∧ Below W1.heap.size wx w') := hide (fun wx hbx => addS (⟨2, b[k]⟩ : St) (own_below HR.out.2.1 hbx) (Nat.le_trans hbs hbx.size) hpl HPS.out (HNX _ _ HE.out))
            rw [ptV_put, ← one_at b k hkb] at AD
            clear HNX hy0
            clear he hld hdr
            go_wp2
            go_quiet (fail)
            go_wp2
            go_quiet (fail)
            go_wp2_with fail
            refine (AD.out _ (below_dN (Below.refl _ _) _)).mono ?_
            rintro e w5 ⟨v', rfl, ho5, hb5⟩
            have HN : Hid ((pre ++ [(⟨2, b[k]⟩ : St)]) ++ dst (a.data.toList.drop (i)) (b.data.toList.drop (k + 1)) = S ∧ POwn w5 W1.heap.size v' (normL ((pre ++ [(⟨2, b[k]⟩ : St)]).map stP)) ∧ Below W1.heap.size W1 w5) := hide ⟨by rw [List.append_assoc, List.singleton_append, ← HE.out]; exact HR.out.1, ho5, (HR.out.2.2.trans ((below_dN (Below.refl _ _) _).mono hbs)).trans hb5⟩
            clear AD ho5 hb5
            go_wp2
            go_roundw
            case rel => exact ⟨i, k + 1, _, by omega, by omega, by go_num, by go_num, _, rfl, HN⟩
            case measure => simp [intOf]; omega
      · have hd2 : decide ((k : Int) < (b.size : Int)) = false := decide_eq_false (by omega)
        have hd3 : ((k : Int) == (b.size : Int)) = true := by rw [beq_iff_eq]; omega
        have HE := hide (dst_drop (j := k) hia (fun h => absurd h hkb) (by rw [drop_end b k (by omega), lc_nr, lc_nr]))
        have AD : Hid (∀ wx, Below wr.heap.size wr wx → Calls Tryd.prog 83 #[v, ptV (stP (⟨3, a[i]⟩ : St))] wx fun e w' => ∃ v', e = .returned v' ∧ POwn w' W1.heap.size v' (normL ((pre ++ [(⟨3, a[i]⟩ : St)]).map stP)) ∧ Below W1.heap.size wx w') := hide (fun wx hbx => addS (⟨3, a[i]⟩ : St) (own_below HR.out.2.1 hbx) (Nat.le_trans hbs hbx.size) hpl HPS.out (HNX _ _ HE.out))
        rw [ptV_drop, ← one_at a i hia] at AD
        clear HNX hy0
        clear hld c1 s1 b1
        go_wp2
        go_quiet (fail)
        go_wp2
        go_quiet (fail)
        go_wp2_with fail
        refine (AD.out _ (below_dN (Below.refl _ _) _)).mono ?_
        rintro e w5 ⟨v', rfl, ho5, hb5⟩
        have HN : Hid ((pre ++ [(⟨3, a[i]⟩ : St)]) ++ dst (a.data.toList.drop (i + 1)) (b.data.toList.drop (k)) = S ∧ POwn w5 W1.heap.size v' (normL ((pre ++ [(⟨3, a[i]⟩ : St)]).map stP)) ∧ Below W1.heap.size W1 w5) := hide ⟨by rw [List.append_assoc, List.singleton_append, ← HE.out]; exact HR.out.1, ho5, (HR.out.2.2.trans ((below_dN (Below.refl _ _) _).mono hbs)).trans hb5⟩
        clear AD ho5 hb5
        go_wp2
        go_roundw
        case rel => exact ⟨i + 1, k, _, by omega, by omega, by go_num, by go_num, _, rfl, HN⟩
        case measure => simp [intOf]; omega
    · have hd1 : decide ((i : Int) < (a.size : Int)) = false := decide_eq_false (by omega)
      clear hLt
      rw [hy0] at c0 b0
      by_cases hkb : k < b.size
      · have hd2 : decide ((k : Int) < (b.size : Int)) = true := decide_eq_true (by omega)
        have hw2 : IntKind.i64.wrap ((k : Int) + 1) = (k : Int) + 1 := by rw [IntKind.wrap_i64]; omega
        have hd3 : ((k : Int) == (b.size : Int)) = false := by rw [beq_eq_false_iff_ne]; omega
        have HE := hide (dst_put (i := i) hkb (fun h => absurd h hia) (fun h => absurd h hia))
        have AD : Hid (∀ wx, Below wr.heap.size wr wx → Calls Tryd.prog 83 #[v, ptV (stP (⟨2, b[k]⟩ : St))] wx fun e w' => ∃ v', e = .returned v' ∧ POwn w' W1.heap.size v' (normL ((pre ++ [(⟨2, b[k]⟩ : St)]).map stP)) ∧ Below W1.heap.size wx w') := hide (fun wx hbx => addS (⟨2, b[k]⟩ : St) (own_below HR.out.2.1 hbx) (Nat.le_trans hbs hbx.size) hpl HPS.out (HNX _ _ HE.out))
        rw [ptV_put, ← one_at b k hkb] at AD
        clear HNX hy0
        go_wp2
        go_quiet (fail)
        go_wp2
        go_quiet (fail)
        go_wp2_with fail
        refine (AD.out _ (below_dN (Below.refl _ _) _)).mono ?_
        rintro e w5 ⟨v', rfl, ho5, hb5⟩
        have HN : Hid ((pre ++ [(⟨2, b[k]⟩ : St)]) ++ dst (a.data.toList.drop (i)) (b.data.toList.drop (k + 1)) = S ∧ POwn w5 W1.heap.size v' (normL ((pre ++ [(⟨2, b[k]⟩ : St)]).map stP)) ∧ Below W1.heap.size W1 w5) := hide ⟨by rw [List.append_assoc, List.singleton_append, ← HE.out]; exact HR.out.1, ho5, (HR.out.2.2.trans ((below_dN (Below.refl _ _) _).mono hbs)).trans hb5⟩
        clear AD ho5 hb5
        go_wp2
        go_roundw
        case rel => exact ⟨i, k + 1, _, by omega, by omega, by go_num, by go_num, _, rfl, HN⟩
        case measure => simp [intOf]; omega
      · have hd2 : decide ((k : Int) < (b.size : Int)) = false := decide_eq_false (by omega)
        have hpS : pre = S := by
          have := HR.out.1
          rw [drop_end a i (by omega), drop_end b k (by omega), dst_nn, List.append_nil] at this
          exact this
        have ho := HR.out.2.1
        rw [hpS] at ho
        have HF := hide (And.intro (ho.mono HW.out.2.size) (And.intro (HW.out.2.trans (HR.out.2.2.mono HW.out.2.size)) (Nat.lt_of_lt_of_le hBW hbs)))
        clear ho hpS HR HNX hy0 c0 b0 s0
        go_wp2
        go_ret
        exact ⟨v, rfl, HF.out.1, HF.out.2.1, HF.out.2.2⟩
end Go.Proofs.YtbooongkbninhaaDoor

set_option linter.unusedVariables false
namespace Go.Proofs.YtbooongkbninhaaDoor
open Go.RowKit
open Doc1

theorem good_all {s : List UInt8} (h : good s = true) : ∀ c ∈ s, okC c = true := by
  unfold good allOk at h
  simp only [Bool.and_eq_true] at h
  exact List.all_eq_true.1 h.1
theorem dst_good {a b : List UInt8} (h1 : good a = true) (h2 : good b = true) : ∀ x ∈ dst a b, so x ∧ (x.k = 1 → x.c = 0) := dst_so _ a b (Nat.le_refl _) (good_all h1) (good_all h2)
theorem dst_600 {a b : ByteArray} (ha : a.size ≤ 300) (hb : b.size ≤ 300) : (dst a.data.toList b.data.toList).length ≤ 600 := by
  have := dst_len _ a.data.toList b.data.toList (Nat.le_refl _)
  simp at this
  omega

set_option maxRecDepth 100000 in
set_option maxHeartbeats 4000000 in
theorem diffS_good (a b : ByteArray) (w : World) (h1 : good a.data.toList = true) (h2 : good b.data.toList = true) (ha : a.size ≤ 300) (hb : b.size ≤ 300) :
    Calls Tryd.prog 62 #[.string a, .string b] w fun e w' => ∃ v, e = .returned (.tuple #[v, .bool (dfG a.data.toList b.data.toList)]) ∧ POwn w' w.heap.size v (dfO a.data.toList b.data.toList) ∧ Below w.heap.size w w' := by
  have H1 := l9Texts_any a b w (by omega) (by omega)
  rw [h1, h2] at H1
  replace H1 := hide H1
  have hd := dst_good h1 h2
  have hl := dst_600 ha hb
  have T := hide (l9Diff_any a b w ha hb (fun x hx => (hd x hx).1))
  rw [norm_P _ hd] at T
  have hpk : ∀ p ∈ (dst a.data.toList b.data.toList).map stP, pk p ≠ 0 := fun p hh => by
    obtain ⟨y, hy, rfl⟩ := List.mem_map.1 hh
    exact pk_P (hd y hy).1
  have hn := norm_bd _ hpk _ (Nat.le_refl _)
  rw [List.take_length, List.length_map, norm_P _ hd] at hn
  unfold dfO dfG
  generalize (gath g0 (dst a.data.toList b.data.toList)).out = O at *
  have GO : Hid (∀ w1 v, 0 < w1.heap.size → POwn w1 w.heap.size v O → Calls Tryd.prog 29 #[v] w1 fun e w' => e = .returned (.bool (goodO O)) ∧ Below w1.heap.size w1 w') := hide (fun w1 v h0 ho => by
    obtain ⟨aw, g, cap, rfl, hp⟩ := own_pinD ho h0 (fun p hp => by have := (hn.2 p hp).2; have h6 : 300 * (dst a.data.toList b.data.toList).length ≤ 180000 := (by omega); omega) (by omega)
    exact goodOpS hp)
  clear h1 h2 hd hpk hn hl
  cases hg : goodO O with
  | true =>
    rw [hg] at GO
    simp only [if_true]
    clear hg
    go_enter Tryd.func62, Tryd.ntmps62
    go_wp2_with fail
    refine H1.out.mono ?_
    rintro e w' ⟨rfl, hw⟩
    replace hw := hw.symm
    subst hw
    go_wp2_with fail
    refine T.out.mono ?_
    rintro e w2 ⟨v, rfl, ho, hb2, hlt⟩
    have GO' := hide (GO.out w2 v (by omega) ho)
    have HO := hide (And.intro ho hb2)
    clear ho hb2 T GO
    go_wp2_with fail
    refine GO'.out.mono ?_
    rintro e w3 ⟨rfl, hb3⟩
    have HF := hide (And.intro (own_below HO.out.1 hb3) (HO.out.2.trans (hb3.mono HO.out.2.size)))
    clear hb3 HO GO'
    go_wp2
    go_ret2
    exact ⟨v, rfl, HF.out.1, HF.out.2⟩
  | false =>
    rw [hg] at GO
    simp only [Bool.false_eq_true, if_false]
    clear hg
    go_enter Tryd.func62, Tryd.ntmps62
    go_wp2_with fail
    refine H1.out.mono ?_
    rintro e w' ⟨rfl, hw⟩
    replace hw := hw.symm
    subst hw
    go_wp2_with fail
    refine T.out.mono ?_
    rintro e w2 ⟨v, rfl, ho, hb2, hlt⟩
    have GO' := hide (GO.out w2 v (by omega) ho)
    have HO := hide (And.intro ho hb2)
    clear ho hb2 T GO
    go_wp2_with fail
    refine GO'.out.mono ?_
    rintro e w3 ⟨rfl, hb3⟩
    have HF := hide (And.intro (own_below HO.out.1 hb3) (HO.out.2.trans (hb3.mono HO.out.2.size)))
    clear hb3 HO GO'
    go_wp2
    go_ret2
    exact ⟨_, rfl, World.ownsRow_nil _ _ _ _, HF.out.2⟩

set_option maxRecDepth 100000 in
theorem diffI_bad {a b : ByteArray} (w : World) (hT : Tab w) (ha : a.size ≤ 1048576) (hb : b.size ≤ 1048576) (h : (good a.data.toList && good b.data.toList) = false) :
    Calls Tryd.prog 67 #[.string a, .string b] w fun e w' => ∃ v, e = .returned (.tuple #[v, .bool false]) ∧ POwn w' w.heap.size v [] ∧ Below w.heap.size w w' := by
  have M := hide (measure_bad 2 a b w hT ha hb h)
  clear h hT
  go_enter Tryd.func67, Tryd.ntmps67
  go_wp2_with fail
  refine M.out.mono ?_
  rintro e w1 ⟨rfl, hb1⟩
  go_wp2
  go_ret2
  exact ⟨_, rfl, World.ownsRow_nil _ _ _ _, hb1.alloc hb1.size _⟩
theorem diffS_bad {a b : ByteArray} (w : World) (ha : a.size ≤ 1048576) (hb : b.size ≤ 1048576) (h : (good a.data.toList && good b.data.toList) = false) :
    Calls Tryd.prog 62 #[.string a, .string b] w fun e w' => ∃ v, e = .returned (.tuple #[v, .bool false]) ∧ POwn w' w.heap.size v [] ∧ Below w.heap.size w w' := by
  have H1 := l9Texts_any a b w ha hb
  rw [h] at H1
  replace H1 := hide H1
  clear h
  go_enter Tryd.func62, Tryd.ntmps62
  go_wp2_with fail
  refine H1.out.mono ?_
  rintro e w' ⟨rfl, hw⟩
  replace hw := hw.symm
  subst hw
  go_wp2
  go_ret2
  exact ⟨_, rfl, World.ownsRow_nil _ _ _ _, Below.refl _ _⟩
/-- What both answer. -/
def dfT (a b : List UInt8) : List Pt := if good a && good b then dfO a b else []
def dfB (a b : List UInt8) : Bool := (good a && good b) && dfG a b
theorem diffI_any (a b : ByteArray) (w : World) (ha : a.size ≤ 1048576) (hb : b.size ≤ 1048576) (hT : Tab w) :
    Calls Tryd.prog 67 #[.string a, .string b] w fun e w' => ∃ v, e = .returned (.tuple #[v, .bool (dfB a.data.toList b.data.toList)]) ∧ POwn w' w.heap.size v (dfT a.data.toList b.data.toList) ∧ Below w.heap.size w w' := by
  unfold dfB dfT
  by_cases h : (good a.data.toList && good b.data.toList) = true
  · rw [h, if_pos rfl]
    rw [Bool.and_eq_true] at h
    exact diffI_good a b w hT h.1 h.2 (good_len' h.1) (good_len' h.2)
  · rw [Bool.not_eq_true] at h
    rw [h]
    exact diffI_bad w hT ha hb h
theorem diffS_any (a b : ByteArray) (w : World) (ha : a.size ≤ 1048576) (hb : b.size ≤ 1048576) :
    Calls Tryd.prog 62 #[.string a, .string b] w fun e w' => ∃ v, e = .returned (.tuple #[v, .bool (dfB a.data.toList b.data.toList)]) ∧ POwn w' w.heap.size v (dfT a.data.toList b.data.toList) ∧ Below w.heap.size w w' := by
  unfold dfB dfT
  by_cases h : (good a.data.toList && good b.data.toList) = true
  · rw [h, if_pos rfl]
    rw [Bool.and_eq_true] at h
    exact diffS_good a b w h.1 h.2 (good_len' h.1) (good_len' h.2)
  · rw [Bool.not_eq_true] at h
    rw [h]
    exact diffS_bad w ha hb h
theorem dfT_len (a b : List UInt8) : (dfT a b).length ≤ 60 := by
  unfold dfT dfO dfG
  split
  · split
    · rename_i h; exact (goodO_le h).1
    · simp
  · simp
theorem diffOps_both (a b : ByteArray) (ha : a.size ≤ 1048576) (hb : b.size ≤ 1048576) :
    ∃ (T : List Pt) (y : Bool), T.length ≤ 10000000 ∧ (∀ (w : World), Calls Tryd.prog 62 #[.string a, .string b] w fun e w' => ∃ v, e = .returned (.tuple #[v, .bool y]) ∧ POwn w' w.heap.size v T ∧ Below w.heap.size w w') ∧
      (∀ (w : World), Tab w → Calls Tryd.prog 67 #[.string a, .string b] w fun e w' => ∃ v, e = .returned (.tuple #[v, .bool y]) ∧ POwn w' w.heap.size v T ∧ Below w.heap.size w w') :=
  ⟨dfT a.data.toList b.data.toList, dfB a.data.toList b.data.toList, by have := dfT_len a.data.toList b.data.toList; omega, fun w => diffS_any a b w ha hb, fun w hT => diffI_any a b w ha hb hT⟩
end Go.Proofs.YtbooongkbninhaaDoor
