/- A longest text in common: the program's CommonOf. -/
import Derived.Test.YtojlnnlcbpjdlaaDoorCom2
import Derived.Test.YtojlnnlcbpjdlaaDoorWalks6
set_option linter.unusedVariables false
namespace Go.Proofs.YtojlnnlcbpjdlaaDoor
open Go.RowKit
open Doc1

/-- What is still to come, the next byte's places being told. -/
def St9 (A B : List UInt8) (p : Option (Nat × Nat)) (rest : List UInt8) : Prop := match p with
  | none => rest = []
  | some q => ∃ L', rest = A.getD q.1 0 :: L' ∧ Cmn A B (q.1 + 1) (q.2 + 1) L' ∧ q.1 < A.length ∧ q.2 < B.length
theorem st9_of {A B : List UInt8} {i k : Nat} {L : List UInt8} (h : Cmn A B i k L) : St9 A B (nxt A B i k (A.length - i)) L := by
  cases hq : nxt A B i k (A.length - i) with
  | none => exact h.none hq
  | some p =>
    obtain ⟨L', h1, h2⟩ := h.some hq
    have := cnd_is (nxt_is hq).2.2
    exact ⟨L', h1, h2, this.1, this.2.2.1⟩
/-- What is known in the rounds of CommonOf. -/
structure C9 (a b : ByteArray) (L : List UInt8) (W1 : World) (v : Value) (p : Option (Nat × Nat)) (wr : World) : Prop where
  ex : ∃ out rest, out ++ rest = L ∧ St9 a.data.toList b.data.toList p rest ∧ wr.ownsRow W1.heap.size 5 1 v out.length (byt out)
  below : Below W1.heap.size W1 wr
def len9 (a : ByteArray) (vf vi : Value) : Nat := match vf with
  | .bool true => a.size + 1 - (intOf vi).toNat
  | _ => 0

theorem own_bl {w w1 : World} {B n : Nat} {v : Value} {xs : List Value} (h : w.ownsRow B 5 1 v n xs) (hb : Below w.heap.size w w1) : w1.ownsRow B 5 1 v n xs := by
  refine ⟨h.1, ?_⟩
  rcases h.2 with ⟨h1, h2⟩ | ⟨g, cap, cur, h1, h2, h3, h4⟩
  · exact .inl ⟨h1, h2⟩
  · refine .inr ⟨g, cap, cur, h1, h2, ?_, h4⟩
    have hlt : g < w.heap.size := by
      by_cases hlt : g < w.heap.size
      · exact hlt
      · rw [Array.getElem?_eq_none (by omega)] at h3; cases h3
    rw [hb.block g hlt]
    exact h3

set_option maxRecDepth 100000 in
set_option maxHeartbeats 4000000 in
theorem commonI_good (a b : ByteArray) (w : World) (L : List UInt8) (hL : Cmn a.data.toList b.data.toList 0 0 L) (hT : Tab w) (h1 : good a.data.toList = true) (h2 : good b.data.toList = true) (ha : a.size ≤ 300) (hb : b.size ≤ 300) :
    Calls Tryd.prog 49 #[.string a, .string b] w fun e w' => e = .returned (.tuple #[.string ⟨L.toArray⟩, .bool true]) ∧ Below w.heap.size w w' := by
  obtain ⟨i0, hi, hz0, hz1, hz2⟩ := info_parts Tryd.info5
  have M := hide (measure_good 2 a b w hT h1 h2 ha hb (by omega))
  have NC : Hid (∀ G i j w1, TbAt w1 G 2 a b 0 → i ≤ a.size → j ≤ b.size → Calls Tryd.prog 97 #[.agg #[.string a, .string b, .slice (some ⟨G, 0, none⟩) (a.size + 1) (a.size + 1)], .int .i64 ((i : Nat) : Int), .int .i64 ((j : Nat) : Int)] w1 fun e w' => ∃ p, p = nxt a.data.toList b.data.toList i j (a.data.toList.length - i) ∧ e = .returned (.tuple #[.int .i64 (nX p : Int), .int .i64 (nY p : Int), .bool p.isSome]) ∧ Below w1.heap.size w1 w') := hide (fun G i j w1 h hi hj => (nextCommon_any a b G i j w1 h ha hb hi hj).mono (fun e w' hh => ⟨_, rfl, by simpa using hh.1, hh.2⟩))
  have hLl : L.length ≤ 300 := by
    rw [cmn_len hL]
    have := lc_bd' a.data.toList b.data.toList
    simp at this ⊢
    omega
  have HL := hide hL
  clear h1 h2 hT hL
  go_enter Tryd.func49, Tryd.ntmps49
  go_wp2_with fail
  refine M.out.mono ?_
  rintro e w1 ⟨G, rfl, hG, hTb, hb1⟩
  have hh := heap_alloc_new w1 (.cells #[.string a, .string b, .slice (some ⟨G, 0, none⟩) (a.size + 1) (a.size + 1)] 123)
  have hT1 := hTb.later ((Below.refl _ _).alloc (Nat.le_refl _) (.cells #[.string a, .string b, .slice (some ⟨G, 0, none⟩) (a.size + 1) (a.size + 1)] 123))
  have hB1 := hb1.alloc hb1.size (.cells #[.string a, .string b, .slice (some ⟨G, 0, none⟩) (a.size + 1) (a.size + 1)] 123)
  have hs1 : (w1.alloc (.cells #[.string a, .string b, .slice (some ⟨G, 0, none⟩) (a.size + 1) (a.size + 1)] 123)).heap.size = w1.heap.size + 1 := by simp
  have HW := hide (And.intro hh (And.intro hT1 hB1))
  clear hh hT1 hB1 hTb hb1 M
  go_wp2_with fail
  refine (NC.out G 0 0 _ HW.out.2.1 (Nat.zero_le _) (Nat.zero_le _)).mono ?_
  rintro e w2 ⟨p, hp, rfl, hb2⟩
  have HC : Hid (C9 a b L (w1.alloc (.cells #[.string a, .string b, .slice (some ⟨G, 0, none⟩) (a.size + 1) (a.size + 1)] 123)) (.slice none 0 0) p w2) := hide ⟨⟨[], L, rfl, by rw [hp]; exact st9_of HL.out, World.ownsRow_nil _ _ _ _⟩, hb2⟩
  clear hp hb2 HL
  generalize w1.alloc (.cells #[.string a, .string b, .slice (some ⟨G, 0, none⟩) (a.size + 1) (a.size + 1)] 123) = W1 at *
  go_wp2
  go_loopw [8, 9, 10, 11] (fun v vi vj vf wr => ∃ p, vi = .int .i64 (nX p : Int) ∧ vj = .int .i64 (nY p : Int) ∧ vf = .bool p.isSome ∧ ∃ v0, v0 = v ∧ Hid (C9 a b L W1 v0 p wr)) (fun _ vi _ vf _ => len9 a vf vi)
  case atStart => exact ⟨p, rfl, rfl, rfl, _, rfl, HC⟩
  case round =>
    obtain ⟨p, rfl, rfl, rfl, v, hv0, HR⟩ := hrel
    subst hv0
    clear HC
    cases p with
    | none =>
      obtain ⟨out, rest, e1, e2, ow⟩ := HR.out.ex
      have e3 : rest = [] := e2
      rw [e3, List.append_nil] at e1
      subst e1
      have hcv := conv_own ow
      have HB := hide HR.out.below
      clear HR ow e2 e3
      go_wp2
      go_ret2
      exact ⟨rfl, HW.out.2.2.trans (HB.out.mono HW.out.2.2.size)⟩
    | some q =>
      obtain ⟨x, y⟩ := q
      obtain ⟨out, rest, e1, ⟨L', e2, e3, hx, hy⟩, ow⟩ := HR.out.ex
      simp only at hx hy
      have hxa : x < a.size := by simpa using hx
      have hya : y < b.size := by simpa using hy
      have hol : out.length + 1 ≤ 300 := by
        rw [← e1, e2, List.length_append, List.length_cons] at hLl
        omega
      have hel := byt_len out
      have hbs := HR.out.below.size
      have HE := hide (And.intro e1 (And.intro e2 e3))
      have HB := hide HR.out.below
      have HO : Hid (a.data.toList.getD x 0 = a[x]) := hide (getD_at a x hxa)
      clear e1 e2 e3 hx hy HR
      simp only [nX, nY, Option.isSome_some]
      go_wp2_with (first | (at_builtin; (refine wpList_append_own _ rfl _ _ 22 rfl W1.heap.size 5 i0 (.int .u8 0) 1 1 Tryd.underlying22 hi hz0 hz1 hz2 rfl (by decide) _ _ _ rfl (ow.alloc _) ⟨wr.heap.size, 0, none⟩ 1 1 [.int .u8 (a[x].toNat : Int)] rfl rfl (cell_one_new _ _ _) (by intro u hu; simp at hu; subst hu; rfl) (by unfold maxLen; omega) (by omega) (by simp <;> omega) ?_); intro v' w3 own3 grow3 _; (have hB3 : Below W1.heap.size W1 w3 := below_append HB.out ow HB.out.size grow3); (have c0 := (World.cell?_of_block (hB3.block w1.heap.size (by omega))).trans (cell_of_row W1 w1.heap.size 0 _ _ _ HW.out.1)); (have c1 := (World.cell?_of_block (hB3.block w1.heap.size (by omega))).trans (cell_of_row W1 w1.heap.size 1 _ _ _ HW.out.1)); (have c2 := (World.cell?_of_block (hB3.block w1.heap.size (by omega))).trans (cell_of_row W1 w1.heap.size 2 _ _ _ HW.out.1)); (simp only [List.getElem?_toArray, List.getElem?_cons_zero, List.getElem?_cons_succ] at c0 c1 c2); (have ex1 : ((x : Int) + 1) = ((x + 1 : Nat) : Int) := by omega); (have ey1 : ((y : Int) + 1) = ((y + 1 : Nat) : Int) := by omega); (have NC3 := NC.out G (x + 1) (y + 1) w3 (HW.out.2.1.later hB3) (by omega) (by omega)); (rw [← ex1, ← ey1] at NC3); (replace NC3 := hide NC3); (have HN : Hid (w3.ownsRow W1.heap.size 5 1 v' (out ++ [a[x]]).length (byt (out ++ [a[x]]))) := hide (by rw [byt_snoc, List.length_append]; exact own3)); (have HB3 := hide hB3); (clear ex1 ey1 own3 grow3 ow NC hB3 HB)) | (go_at_call 97; refine NC3.out.mono ?_; rintro e w4 ⟨p', hp', rfl, hb4⟩; have HP' := hide (And.intro hp' hb4); clear hp' hb4))
      obtain ⟨hp', hb4⟩ := HP'.out
      have hpx : p'.isSome = true → x < nX p' := by
        intro hs
        cases p' with
        | none => cases hs
        | some q' => have := (nxt_is hp'.symm).1; exact this
      have HC : Hid (C9 a b L W1 v' p' w4) := hide ⟨⟨out ++ [a[x]], _, by rw [← HE.out.1, HE.out.2.1, ← HO.out, List.append_assoc]; rfl, by rw [hp']; exact st9_of HE.out.2.2, own_bl HN.out hb4⟩, HB3.out.trans (hb4.mono HB3.out.size)⟩
      clear hp' hb4 NC3
      go_wp2
      go_roundw
      case rel => exact ⟨p', rfl, rfl, rfl, _, rfl, HC⟩
      case measure =>
        cases hs : p'.isSome with
        | true => have := hpx hs; simp [len9, intOf]; omega
        | false => simp [len9, intOf]; omega
end Go.Proofs.YtojlnnlcbpjdlaaDoor
