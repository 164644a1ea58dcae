/- PeriodOf, and texts that are held against each other. -/
import Derived.Test.YtfiefklhhchebaaDoorKmpG
set_option linter.unusedVariables false
namespace Go.Proofs.YtfiefklhhchebaaDoor
open Go.RowKit
open Doc1

theorem suf_take {A : List UInt8} {m k : Nat} : suf (A.take m) (A.take m) m k = suf A A m k := by
  have key : ∀ j, j < m → (A.take m).getD j 0 = A.getD j 0 := fun j hj => by
    rw [List.getD_eq_getElem?_getD, List.getD_eq_getElem?_getD, List.getElem?_take, if_pos hj]
  rw [Bool.eq_iff_iff, suf_iff, suf_iff]
  constructor
  · rintro ⟨h1, h2⟩
    refine ⟨h1, fun j hj => ?_⟩
    rw [← key j (by omega), ← key (m - k + j) (by omega)]
    exact h2 j hj
  · rintro ⟨h1, h2⟩
    refine ⟨h1, fun j hj => ?_⟩
    rw [key j (by omega), key (m - k + j) (by omega)]
    exact h2 j hj
theorem list_eq_getD {a b : List UInt8} (hl : a.length = b.length) : a = b ↔ ∀ j, j < a.length → a.getD j 0 = b.getD j 0 := by
  constructor
  · rintro rfl j _; rfl
  · intro h
    apply List.ext_getElem hl
    intro j h1 h2
    have := h j h1
    rw [List.getD_eq_getElem?_getD, List.getD_eq_getElem?_getD, List.getElem?_eq_getElem h1, List.getElem?_eq_getElem h2] at this
    exact this
theorem exl_list (q : ByteArray) (a b : Nat) : (q.extract a b).toList = (q.data.toList.drop a).take (b - a) := by
  rw [Lib.toList_data]
  simp only [ByteArray.data_extract, Array.toList_extract, List.extract_eq_take_drop]
theorem getD_part (L : List UInt8) (a n j : Nat) (hj : j < n) : ((L.drop a).take n).getD j 0 = L.getD (a + j) 0 := by
  rw [List.getD_eq_getElem?_getD, List.getD_eq_getElem?_getD, List.getElem?_take, if_pos hj, List.getElem?_drop]
/-- Beginning and end are held against each other. -/
theorem ext_cmp {q : ByteArray} {m k : Nat} (hm : q.size = m) (hk : k ≤ m) : ((q.extract 0 k).toList == (q.extract (m - k) m).toList) = suf q.data.toList q.data.toList m k := by
  have hl : q.data.toList.length = m := by simpa using hm
  have e1 : (q.extract 0 k).toList.length = k := by rw [exl_list, List.length_take, List.length_drop]; omega
  have e2 : (q.extract (m - k) m).toList.length = k := by rw [exl_list, List.length_take, List.length_drop]; omega
  rw [Bool.eq_iff_iff, beq_iff_eq, list_eq_getD (by rw [e1, e2]), suf_iff, e1]
  constructor
  · intro h
    refine ⟨hk, fun j hj => ?_⟩
    have := h j hj
    rw [exl_list, exl_list, getD_part _ _ _ _ (by omega), getD_part _ _ _ _ (by omega), Nat.zero_add] at this
    exact this
  · rintro ⟨_, h⟩ j hj
    rw [exl_list, exl_list, getD_part _ _ _ _ (by omega), getD_part _ _ _ _ (by omega), Nat.zero_add]
    exact h j hj
theorem ext_data (p : ByteArray) (m : Nat) : (p.extract 0 m).data.toList = p.data.toList.take m := by
  simp only [ByteArray.data_extract, Array.toList_extract, List.extract_eq_take_drop, List.drop_zero, Nat.sub_zero]
theorem bord_cmp {p : ByteArray} {m k : Nat} (hm : m ≤ p.size) (hk : k ≤ m) : (((p.extract 0 m).extract 0 k).toList == ((p.extract 0 m).extract (m - k) m).toList) = suf p.data.toList p.data.toList m k := by
  rw [ext_cmp (by rw [ByteArray.size_extract]; omega) hk, ext_data, suf_take]

/-- What PeriodOf tells. -/
def perO (p : ByteArray) : Int := if sgt p then ((p.size - brd p.data.toList p.size : Nat) : Int) else 0

set_option maxRecDepth 100000 in
set_option maxHeartbeats 1000000 in
theorem periI_any (p : ByteArray) (w : World) (hs : p.size ≤ 1048576) (hT : Tab w) :
    Calls Tryd.prog 18 #[.string p] w fun e w' => e = .returned (.tuple #[.int .i64 (perO p), .bool (sgt p)]) ∧ Below w.heap.size w w' := by
  have H := bordI_any p w hs hT
  unfold perO
  by_cases h : sgt p = true
  · obtain ⟨h0, h1, h2⟩ := sgt_yes h
    rw [h, if_pos rfl]
    rw [h] at H
    replace H := hide H
    have HE : Hid (borO p = (List.range p.size).map (bF p.data.toList p.size)) := hide (by unfold borO; rw [if_pos h])
    have hbl := brd_lt p.data.toList (k := p.size) (by omega)
    obtain ⟨n, hn⟩ : ∃ n, brd p.data.toList p.size = n := ⟨_, rfl⟩
    rw [hn] at hbl ⊢
    replace hn := hide hn
    clear h h2
    go_enter Tryd.func18, Tryd.ntmps18
    go_wp2_with fail
    refine H.out.mono ?_
    rintro e w1 ⟨v, rfl, ho, hb1⟩
    unfold IOwn at ho
    rw [HE.out, List.length_map, List.length_range] at ho
    obtain ⟨g, cap, rfl, hc1, hc2, -⟩ := own_open ho h0
    have c1 := World.ownsRow.cellAt ho (p.size - 1) (by omega)
    have c2 : w1.cell? ⟨g, p.size - 1, none⟩ = some (.int .i64 (brd p.data.toList p.size : Int)) := by
      rw [c1]
      have hlt : p.size - 1 < p.size := by omega
      simp [ints, hlt]
      rw [bF_lt hlt, show p.size - 1 + 1 = p.size by omega]
    rw [hn.out] at c2
    have ew : IntKind.i64.wrap ((p.size : Int) - 1) = ((p.size - 1 : Nat) : Int) := by rw [IntKind.wrap_i64]; omega
    have ew2 : IntKind.i64.wrap ((p.size : Int) - (n : Int)) = ((p.size - n : Nat) : Int) := by rw [IntKind.wrap_i64]; omega
    clear ho c1 H HE hn
    go_wp2
    go_ret2
    exact ⟨rfl, hb1⟩
  · rw [Bool.not_eq_true] at h
    rw [h, if_neg (by simp)]
    rw [h] at H
    replace H := hide H
    clear h
    go_enter Tryd.func18, Tryd.ntmps18
    go_wp2_with fail
    refine H.out.mono ?_
    rintro e w1 ⟨v, rfl, ho, hb1⟩
    go_wp2
    go_ret2
    exact ⟨rfl, hb1⟩

end Go.Proofs.YtfiefklhhchebaaDoor
