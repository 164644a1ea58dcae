/- The least change: the program's DiffOps. -/
import Derived.Test.YtinciandgfngjaaDoorCom2
import Derived.Test.YtinciandgfngjaaDoorDif1
import Derived.Test.YtinciandgfngjaaDoorOpW7
set_option linter.unusedVariables false
namespace Go.Proofs.YtinciandgfngjaaDoor
open Go.RowKit
open Doc1

theorem dst_keep {a b : ByteArray} {i j : Nat} (hi : i < a.size) (hj : j < b.size) (h : a[i] = b[j]) : dst (a.data.toList.drop i) (b.data.toList.drop j) = ⟨1, 0⟩ :: dst (a.data.toList.drop (i + 1)) (b.data.toList.drop (j + 1)) := by
  rw [drop_at a i hi, drop_at b j hj, dst_cc, if_pos h]
theorem dst_drop {a b : ByteArray} {i j : Nat} (hi : i < a.size) (hn : ∀ hj : j < b.size, ¬ a[i] = b[j]) (h : lc (a.data.toList.drop (i + 1)) (b.data.toList.drop j) = lc (a.data.toList.drop i) (b.data.toList.drop j)) : dst (a.data.toList.drop i) (b.data.toList.drop j) = ⟨3, a[i]⟩ :: dst (a.data.toList.drop (i + 1)) (b.data.toList.drop j) := by
  by_cases hj : j < b.size
  · rw [drop_at a i hi, drop_at b j hj, dst_cc, if_neg (hn hj), ← drop_at b j hj, ← drop_at a i hi, if_pos h]
  · rw [drop_end b j (by omega), drop_at a i hi, dst_cn]
theorem dst_put {a b : ByteArray} {i j : Nat} (hj : j < b.size) (hn : ∀ hi : i < a.size, ¬ a[i] = b[j]) (h : i < a.size → ¬ lc (a.data.toList.drop (i + 1)) (b.data.toList.drop j) = lc (a.data.toList.drop i) (b.data.toList.drop j)) : dst (a.data.toList.drop i) (b.data.toList.drop j) = ⟨2, b[j]⟩ :: dst (a.data.toList.drop i) (b.data.toList.drop (j + 1)) := by
  by_cases hi : i < a.size
  · rw [drop_at a i hi, drop_at b j hj, dst_cc, if_neg (hn hi), ← drop_at b j hj, ← drop_at a i hi, if_neg (h hi)]
  · rw [drop_end a i (by omega), drop_at b j hj, dst_nc]
theorem rows_drop {a b : ByteArray} {i j : Nat} (hi : i < a.size) (hj : j ≤ b.size) : (edF 2 (a.data.toList.drop (i + 1)) b.data.toList j = edF 2 (a.data.toList.drop i) b.data.toList j - 1) ↔ lc (a.data.toList.drop (i + 1)) (b.data.toList.drop j) = lc (a.data.toList.drop i) (b.data.toList.drop j) := by
  rw [edF_lc (by simpa using hj), edF_lc (by simpa using hj), List.length_drop, List.length_drop]
  simp only [Array.length_toList, ByteArray.size_data]
  omega

def kpN (a b : ByteArray) (i j : Nat) : Bool := if h : i < a.size ∧ j < b.size then a[i]'h.1 == b[j]'h.2 else false
set_option maxRecDepth 100000 in
set_option maxHeartbeats 4000000 in
theorem keepsNext_any (a b : ByteArray) (G i j : Nat) (w : World) (ha : a.size ≤ 300) (hb : b.size ≤ 300) (hi : i ≤ a.size) (hj : j ≤ b.size) :
    Calls Tryd.prog 34 #[.agg #[.string a, .string b, .slice (some ⟨G, 0, none⟩) (a.size + 1) (a.size + 1)], .int .i64 (i : Int), .int .i64 (j : Int)] w fun e w' => e = .returned (.bool (kpN a b i j)) ∧ Below w.heap.size w w' := by
  have hh := heap_alloc_new w (.cells #[.string a, .string b, .slice (some ⟨G, 0, none⟩) (a.size + 1) (a.size + 1)] 42)
  have c0 := cell_of_row _ w.heap.size 0 _ _ _ hh
  have c1 := cell_of_row _ w.heap.size 1 _ _ _ hh
  simp only [List.getElem?_toArray, List.getElem?_cons_zero, List.getElem?_cons_succ] at c0 c1
  have HB : Hid (Below w.heap.size w (w.alloc (.cells #[.string a, .string b, .slice (some ⟨G, 0, none⟩) (a.size + 1) (a.size + 1)] 42))) := hide ((Below.refl _ _).alloc (Nat.le_refl _) _)
  clear hh
  by_cases hia : i < a.size
  · have hd1 : decide ((i : Int) < (a.size : Int)) = true := decide_eq_true (by omega)
    by_cases hjb : j < b.size
    · have hd2 : decide ((j : Int) < (b.size : Int)) = true := decide_eq_true (by omega)
      by_cases he : a[i] = b[j]
      · have hq : ((a[i].toNat : Int) == (b[j].toNat : Int)) = true := u8_beq he
        have hr : kpN a b i j = true := by unfold kpN; rw [dif_pos ⟨hia, hjb⟩]; simpa using he
        rw [hr]
        clear he hr
        go_enter Tryd.func34, Tryd.ntmps34
        go_wp2
        go_quiet (fail)
        go_wp2
        go_ret
        exact ⟨rfl, below_dN HB.out _⟩
      · have hq : ((a[i].toNat : Int) == (b[j].toNat : Int)) = false := u8_bne he
        have hr : kpN a b i j = false := by unfold kpN; rw [dif_pos ⟨hia, hjb⟩]; simpa using he
        rw [hr]
        clear he hr
        go_enter Tryd.func34, Tryd.ntmps34
        go_wp2
        go_quiet (fail)
        go_wp2
        go_ret
        exact ⟨rfl, below_dN HB.out _⟩
    · have hd2 : decide ((j : Int) < (b.size : Int)) = false := decide_eq_false (by omega)
      have hr : kpN a b i j = false := by unfold kpN; rw [dif_neg (by omega)]
      rw [hr]
      clear hr
      go_enter Tryd.func34, Tryd.ntmps34
      go_wp2
      go_quiet (fail)
      go_wp2
      go_ret
      exact ⟨rfl, below_dN HB.out _⟩
  · have hd1 : decide ((i : Int) < (a.size : Int)) = false := decide_eq_false (by omega)
    have hr : kpN a b i j = false := by unfold kpN; rw [dif_neg (by omega)]
    rw [hr]
    clear hr
    go_enter Tryd.func34, Tryd.ntmps34
    go_wp2
    go_quiet (fail)
    go_wp2
    go_ret
    exact ⟨rfl, below_dN HB.out _⟩

def drN (a b : ByteArray) (i j : Nat) : Bool := decide (i < a.size) && decide (lc (a.data.toList.drop (i + 1)) (b.data.toList.drop j) = lc (a.data.toList.drop i) (b.data.toList.drop j))
set_option maxRecDepth 100000 in
set_option maxHeartbeats 4000000 in
theorem dropsNext_any (a b : ByteArray) (G i j : Nat) (w : World) (hr : TbAt w G 2 a b 0) (ha : a.size ≤ 300) (hb : b.size ≤ 300) (hi : i ≤ a.size) (hj : j ≤ b.size) :
    Calls Tryd.prog 36 #[.agg #[.string a, .string b, .slice (some ⟨G, 0, none⟩) (a.size + 1) (a.size + 1)], .int .i64 (i : Int), .int .i64 (j : Int)] w fun e w' => e = .returned (.bool (drN a b i j)) ∧ Below w.heap.size w w' := by
  have hh := heap_alloc_new w (.cells #[.string a, .string b, .slice (some ⟨G, 0, none⟩) (a.size + 1) (a.size + 1)] 42)
  have c0 := cell_of_row _ w.heap.size 0 _ _ _ hh
  have c2 := cell_of_row _ w.heap.size 2 _ _ _ hh
  simp only [List.getElem?_toArray, List.getElem?_cons_zero, List.getElem?_cons_succ] at c0 c2
  have HB : Hid (Below w.heap.size w (w.alloc (.cells #[.string a, .string b, .slice (some ⟨G, 0, none⟩) (a.size + 1) (a.size + 1)] 42))) := hide ((Below.refl _ _).alloc (Nat.le_refl _) _)
  have hT := hr.later ((Below.refl _ _).alloc (Nat.le_refl _) (.cells #[.string a, .string b, .slice (some ⟨G, 0, none⟩) (a.size + 1) (a.size + 1)] 42))
  clear hh hr
  by_cases hia : i < a.size
  · have hd1 : decide ((i : Int) < (a.size : Int)) = true := decide_eq_true (by omega)
    have r1 := (hT.r (i + 1) (Nat.zero_le _) (by omega)).c j (by omega)
    have r2 := (hT.r i (Nat.zero_le _) hi).c j (by omega)
    have b1 := edF_bd 2 (A := a.data.toList.drop (i + 1)) (B := b.data.toList) (by rw [List.length_drop]; simp; omega) (by simpa using hb) j
    have b2 := edF_bd 2 (A := a.data.toList.drop i) (B := b.data.toList) (by rw [List.length_drop]; simp; omega) (by simpa using hb) j
    have hrd := rows_drop (a := a) (b := b) hia hj
    obtain ⟨z1, hz1⟩ : ∃ z, edF 2 (a.data.toList.drop (i + 1)) b.data.toList j = z := ⟨_, rfl⟩
    obtain ⟨z2, hz2⟩ : ∃ z, edF 2 (a.data.toList.drop i) b.data.toList j = z := ⟨_, rfl⟩
    rw [hz1] at r1 b1 hrd
    rw [hz2] at r2 b2 hrd
    clear hz1 hz2 hT
    by_cases he : z1 = z2 - 1
    · have hq : (z1 == z2 - 1) = true := by simpa using he
      have hr : drN a b i j = true := by unfold drN; rw [decide_eq_true hia, decide_eq_true (hrd.1 he)]; rfl
      rw [hr]
      clear he hr hrd
      go_enter Tryd.func36, Tryd.ntmps36
      go_wp2
      go_quiet (fail)
      go_wp2
      go_ret
      exact ⟨rfl, below_dN HB.out _⟩
    · have hq : (z1 == z2 - 1) = false := by simpa using he
      have hr : drN a b i j = false := by unfold drN; rw [decide_eq_true hia, decide_eq_false (fun c => he (hrd.2 c))]; rfl
      rw [hr]
      clear he hr hrd
      go_enter Tryd.func36, Tryd.ntmps36
      go_wp2
      go_quiet (fail)
      go_wp2
      go_ret
      exact ⟨rfl, below_dN HB.out _⟩
  · have hd1 : decide ((i : Int) < (a.size : Int)) = false := decide_eq_false (by omega)
    have hr : drN a b i j = false := by unfold drN; rw [decide_eq_false hia]; rfl
    rw [hr]
    clear hr hT
    go_enter Tryd.func36, Tryd.ntmps36
    go_wp2
    go_quiet (fail)
    go_wp2
    go_ret
    exact ⟨rfl, below_dN HB.out _⟩
end Go.Proofs.YtinciandgfngjaaDoor
