/- The contract of the program's GoodMarks. The contracts of CoveredBy, the model's and the program's. The contracts of the laws' own helpers over rows of strings: held against one another, marked. The contracts of StylesAt, the model's and the program's. -/
import Derived.Test.YtbooongkbninhaaDoorMarkWA
import Derived.Deep.RegionHeld3
import Derived.Test.YtbooongkbninhaaDoorCells
import Derived.Test.YtbooongkbninhaaDoorOwnG
import Derived.Test.YtbooongkbninhaaDoorNodes2
import Derived.Deep.QuietTactic
import Derived.BigQuiet
import Derived.Deep.RegionWith
import Derived.Test.YtbooongkbninhaaDoorWalksQ
import Derived.Test.YtbooongkbninhaaDoorShelf
namespace Go.Proofs.YtbooongkbninhaaDoor
open Go.RowKit
open Doc1

set_option maxRecDepth 100000 in
set_option maxHeartbeats 4000000 in
theorem goodMarksI {w : World} {g cap : Nat} {l : List Mk} (size : Int) (h : MrIn w g cap l) :
    Calls Tryd.prog 11 #[.slice (some ⟨g, 0, none⟩) l.length cap, .int .i64 size] w fun e w' => e = .returned (.bool (goodM l size)) ∧ Below w.heap.size w w' := by
  have hcp := h.cap
  have hln := h.len
  have H := hide h
  clear h
  by_cases hz : 0 ≤ size ∧ size ≤ 300
  · by_cases h40 : l.length ≤ 40
    · obtain ⟨hz1, hz2⟩ := hz
      go_enter Tryd.func11, Tryd.ntmps11
      go_wp2
      go_loopw [20] (fun i wr => ∃ k : Nat, k ≤ l.length ∧ i = .int .i64 k ∧ Hid (mkTo l size k = true) ∧ Below w.heap.size w wr) (fun i _ => l.length - (intOf i).toNat)
      case atStart => exact ⟨0, by omega, rfl, hide rfl, Below.refl _ _⟩
      case round =>
        obtain ⟨k, hk, rfl, hall, hbel⟩ := hrel
        by_cases hlt : k < l.length
        · obtain ⟨c0, c1, c2⟩ := (H.out.later hbel).at'.mrat k hlt
          have hs := H.out.sz k hlt
          have P0 := fun w => isGood_any l[k] size w hs
          unfold mrV at P0
          have P := hide P0
          clear P0
          have ha := hide (hbel.alloc hbel.size (.cells #[.int .i64 l[k].frm, .int .i64 l[k].to, .string l[k].style] 34))
          obtain ⟨y0, y1, y2⟩ := box3 wr (.int .i64 l[k].frm) (.int .i64 l[k].to) (.string l[k].style)
          cases hg : mkOk size l[k] with
          | false =>
            rw [hg] at P
            have Hno : Hid (goodM l size = false) := hide (goodM_no hlt (by
              cases k with
              | zero => rw [mkAt_zero hlt, hg]
              | succ j => rw [mkAt_succ hlt, hg]; rfl))
            clear hg
            have hu : undef = Value.tuple #[] := rfl
            go_wp2_with fail
            first
              | go_region_with (go_at_call 33; refine (P.out _).mono ?_; rintro e w2 ⟨rfl, hb2⟩)
              | fail
            all_goals
              go_wp2
              go_ret
              exact ⟨ret_bool Hno.out.symm, below_box ha.out hb2⟩
          | true =>
            rw [hg] at P
            have Hg := hide hg
            clear hg
            have hu : undef = Value.tuple #[] := rfl
            cases k with
            | zero =>
              have Hy : Hid (mkTo l size (0 + 1) = true) := hide (by rw [mkTo_succ, mkTo_zero, mkAt_zero hlt, Hg.out]; rfl)
              go_wp2_with fail
              first
                | go_region_with (go_at_call 33; refine (P.out _).mono ?_; rintro e w2 ⟨rfl, hb2⟩)
                | fail
              all_goals
                go_wp2
                rw [← hu]
                clear hu
                go_roundw
                case rel => exact ⟨0 + 1, by omega, by go_num, Hy, below_box ha.out hb2⟩
                case measure => simp [intOf]; omega
            | succ j =>
              have jl : j < l.length := by omega
              have j0 : (0 : Int) ≤ (j : Int) := by omega
              have j1 : (j : Int) < (l.length : Int) := by omega
              have jw : IntKind.i64.wrap (j : Int) = (j : Int) := by rw [IntKind.wrap_i64] <;> omega
              have jw' : IntKind.i64.wrap ((j : Int) + 1 - 1) = (j : Int) := by rw [show (j : Int) + 1 - 1 = (j : Int) by omega]; exact jw
              have CC := hide (fun w2 (hb : Below w.heap.size w w2) => (H.out.later hb).at'.mrat j jl)
              have hlst := hide (mkAt_succ (size := size) hlt)
              have A0 := fun w => isAheadOf_any l[j] l[j + 1] w
              unfold mrV at A0
              have A1 := hide A0
              clear A0
              have KK := hide (fun (t : TypeId) (w' : World) (hw : Below (wr.alloc (.cells #[.int .i64 l[j + 1].frm, .int .i64 l[j + 1].to, .string l[j + 1].style] t)).drew.heap.size (wr.alloc (.cells #[.int .i64 l[j + 1].frm, .int .i64 l[j + 1].to, .string l[j + 1].style] t)).drew w') =>
                (⟨box_later hw (y0 t), box_later hw (y1 t), box_later hw (y2 t), CC.out w' (below_box (hbel.alloc hbel.size _) hw)⟩ : w'.cell? ⟨wr.heap.size, 0, none⟩ = some (.int .i64 l[j + 1].frm) ∧ w'.cell? ⟨wr.heap.size, 1, none⟩ = some (.int .i64 l[j + 1].to) ∧ w'.cell? ⟨wr.heap.size, 2, none⟩ = some (.string l[j + 1].style) ∧ w'.cell? ⟨g, j * 3, none⟩ = some (.int .i64 l[j].frm) ∧ w'.cell? ⟨g, j * 3 + 1, none⟩ = some (.int .i64 l[j].to) ∧ w'.cell? ⟨g, j * 3 + 2, none⟩ = some (.string l[j].style)))
              clear hu y0 y1 y2
              cases hA : mkLt l[j] l[j + 1] with
              | false =>
                rw [hA] at A1
                have Hn : Hid (goodM l size = false) := hide (goodM_no hlt (by rw [hlst.out, Hg.out, hA]; rfl))
                clear hA
                go_wp2_with fail
                go_region_held3 (fun w' => w'.cell? ⟨wr.heap.size, 0, none⟩ = some (.int .i64 l[j + 1].frm) ∧ w'.cell? ⟨wr.heap.size, 1, none⟩ = some (.int .i64 l[j + 1].to) ∧ w'.cell? ⟨wr.heap.size, 2, none⟩ = some (.string l[j + 1].style) ∧ w'.cell? ⟨g, j * 3, none⟩ = some (.int .i64 l[j].frm) ∧ w'.cell? ⟨g, j * 3 + 1, none⟩ = some (.int .i64 l[j].to) ∧ w'.cell? ⟨g, j * 3 + 2, none⟩ = some (.string l[j].style))
                  (first | assumption | exact KK.out _ _ (Below.refl _ _) | exact KK.out _ _ hb2 | exact KK.out _ _ (hb2.trans (hb3.mono hb2.size)))
                  (first | (go_at_call 33; refine (P.out _).mono ?_; rintro e w2 ⟨rfl, hb2⟩) | (go_at_call 34; refine (A1.out _).mono ?_; rintro e w3 ⟨rfl, hb3⟩))
                all_goals
                  go_wp2
                  go_ret
                  exact ⟨ret_bool Hn.out.symm, (below_box ha.out hb2).trans (hb3.mono (below_box ha.out hb2).size)⟩
              | true =>
                rw [hA] at A1
                have Hy : Hid (mkTo l size (j + 1 + 1) = true) := hide (by rw [mkTo_succ, hall.out, hlst.out, Hg.out, hA]; rfl)
                clear hA
                go_wp2_with fail
                go_region_held3 (fun w' => w'.cell? ⟨wr.heap.size, 0, none⟩ = some (.int .i64 l[j + 1].frm) ∧ w'.cell? ⟨wr.heap.size, 1, none⟩ = some (.int .i64 l[j + 1].to) ∧ w'.cell? ⟨wr.heap.size, 2, none⟩ = some (.string l[j + 1].style) ∧ w'.cell? ⟨g, j * 3, none⟩ = some (.int .i64 l[j].frm) ∧ w'.cell? ⟨g, j * 3 + 1, none⟩ = some (.int .i64 l[j].to) ∧ w'.cell? ⟨g, j * 3 + 2, none⟩ = some (.string l[j].style))
                  (first | assumption | exact KK.out _ _ (Below.refl _ _) | exact KK.out _ _ hb2 | exact KK.out _ _ (hb2.trans (hb3.mono hb2.size)))
                  (first | (go_at_call 33; refine (P.out _).mono ?_; rintro e w2 ⟨rfl, hb2⟩) | (go_at_call 34; refine (A1.out _).mono ?_; rintro e w3 ⟨rfl, hb3⟩))
                all_goals
                  go_wp2
                  go_roundw
                  case rel => exact ⟨j + 1 + 1, by omega, by go_num, Hy, (below_box ha.out hb2).trans (hb3.mono (below_box ha.out hb2).size)⟩
                  case measure => simp [intOf]; omega
        · obtain rfl : k = l.length := by omega
          have Hg : Hid (goodM l size = true) := hide (by rw [goodM_all hall.out, decide_eq_true ⟨hz1, hz2⟩, decide_eq_true h40]; rfl)
          go_wp2
          go_ret
          exact ⟨ret_bool Hg.out.symm, hbel⟩
    · obtain ⟨hz1, hz2⟩ := hz
      have Hg := hide (goodM_many (size := size) h40)
      go_enter Tryd.func11, Tryd.ntmps11
      go_wp2
      go_ret
      exact ⟨ret_bool Hg.out.symm, Below.refl _ _⟩
  · have Hg := hide (goodM_big (l := l) hz)
    by_cases h0 : size < 0
    · go_enter Tryd.func11, Tryd.ntmps11
      go_wp2
      go_ret
      exact ⟨ret_bool Hg.out.symm, Below.refl _ _⟩
    · have h3 : 300 < size := by omega
      go_enter Tryd.func11, Tryd.ntmps11
      go_wp2
      go_ret
      exact ⟨ret_bool Hg.out.symm, Below.refl _ _⟩
end Go.Proofs.YtbooongkbninhaaDoor

namespace Go.Proofs.YtbooongkbninhaaDoor
open Go.RowKit
open Doc1

/-- How many bytes the marks of a style cover. -/
def cov1 (st : ByteArray) (m : Mk) : Int := if m.style.toList == st.toList then m.to - m.frm else 0
def covL (st : ByteArray) (l : List Mk) : Int := (l.map (cov1 st)).sum
theorem covL_snoc (st : ByteArray) (l : List Mk) (m : Mk) : covL st (l ++ [m]) = covL st l + cov1 st m := by simp [covL]
theorem goodM_ok {l : List Mk} {size : Int} (h : goodM l size = true) : size ≤ 300 ∧ l.length ≤ 40 ∧ ∀ i (hi : i < l.length), mkOk size l[i] = true := by
  unfold goodM at h
  simp only [Bool.and_eq_true, decide_eq_true_eq] at h
  refine ⟨h.1.2, h.2.1, fun i hi => ?_⟩
  have := mkTo_le l size (i + 1) l.length hi h.2.2
  rw [mkTo_succ, Bool.and_eq_true] at this
  cases i with
  | zero => rw [mkAt_zero hi] at this; exact this.2
  | succ j => rw [mkAt_succ hi, Bool.and_eq_true] at this; exact this.2.1
theorem goodM_size {l : List Mk} {size : Int} (h : goodM l size = true) : 0 ≤ size ∧ size ≤ 300 := by
  unfold goodM at h
  simp only [Bool.and_eq_true, decide_eq_true_eq] at h
  exact h.1
theorem cov1_bd {st : ByteArray} {size : Int} {m : Mk} (hz : size ≤ 300) (h : mkOk size m = true) : 0 ≤ cov1 st m ∧ cov1 st m ≤ 300 := by
  unfold mkOk at h
  simp only [Bool.and_eq_true, decide_eq_true_eq] at h
  unfold cov1
  split <;> omega
theorem covL_bd {st : ByteArray} {size : Int} (hz : size ≤ 300) : ∀ (l : List Mk), (∀ m ∈ l, mkOk size m = true) → 0 ≤ covL st l ∧ covL st l ≤ 300 * (l.length : Int)
  | [], _ => by simp [covL]
  | m :: l, h => by
    have h1 := cov1_bd (st := st) hz (h m (by simp))
    have h2 := covL_bd (st := st) hz l (fun x hx => h x (by simp [hx]))
    simp only [covL, List.map_cons, List.sum_cons, List.length_cons] at h2 ⊢
    omega
/-- What CoveredBy answers. -/
def covT (l : List Mk) (size : Int) (st : ByteArray) : Int := if goodM l size && isSt st then covL st l else 0
theorem covT_no {l : List Mk} {size : Int} {st : ByteArray} (h : (goodM l size && isSt st) = false) : covT l size st = 0 := by unfold covT; rw [h]; rfl
theorem covT_yes {l : List Mk} {size : Int} {st : ByteArray} (h : (goodM l size && isSt st) = true) : covT l size st = covL st l := by unfold covT; rw [h]; rfl

set_option maxRecDepth 100000 in
set_option maxHeartbeats 4000000 in
theorem coveredI {w : World} {g cap : Nat} {l : List Mk} (size : Int) (st : ByteArray) (hst : st.size ≤ 1048576) (h : MrIn w g cap l) :
    Calls Tryd.prog 16 #[.slice (some ⟨g, 0, none⟩) l.length cap, .int .i64 size, .string st] w fun e w' => e = .returned (.tuple #[.int .i64 (covT l size st), .bool (goodM l size && isSt st)]) ∧ Below w.heap.size w w' := by
  have hcp := h.cap
  have hln := h.len
  have G := hide (goodMarksI size h)
  have S := hide (fun w => isStyle_any st w hst)
  have H := hide h
  clear h
  cases hg : goodM l size with
  | false =>
    rw [covT_no (by rw [hg]; rfl)]
    rw [hg] at G
    go_enter Tryd.func16, Tryd.ntmps16
    go_wp2_with (go_at_call 11; refine G.out.mono ?_; rintro e w1 ⟨rfl, hb1⟩)
    go_ret2
    exact ⟨rfl, hb1⟩
  | true =>
    rw [hg] at G
    cases hs : isSt st with
    | false =>
      rw [covT_no (by rw [hg, hs]; rfl)]
      rw [hs] at S
      go_enter Tryd.func16, Tryd.ntmps16
      go_wp2_with (first | (go_at_call 11; refine G.out.mono ?_; rintro e w1 ⟨rfl, hb1⟩) | (go_at_call 38; refine (S.out _).mono ?_; rintro e w' ⟨rfl, hw⟩; replace hw := hw.symm; subst hw))
      go_ret2
      exact ⟨rfl, hb1⟩
    | true =>
      rw [covT_yes (by rw [hg, hs]; rfl)]
      rw [hs] at S
      obtain ⟨hz, h40, hok⟩ := goodM_ok hg
      have HO := hide hok
      clear hok hg hs
      go_enter Tryd.func16, Tryd.ntmps16
      go_wp2_with (first | (go_at_call 11; refine G.out.mono ?_; rintro e w1 ⟨rfl, hb1⟩) | (go_at_call 38; refine (S.out _).mono ?_; rintro e w' ⟨rfl, hw⟩; replace hw := hw.symm; subst hw))
      go_loopw [8, 22] (fun n i wr => ∃ k : Nat, k ≤ l.length ∧ i = .int .i64 k ∧ n = .int .i64 (covL st (l.take k)) ∧ Below w.heap.size w wr) (fun _ i _ => l.length - (intOf i).toNat)
      case atStart => exact ⟨0, by omega, rfl, rfl, hb1⟩
      case round =>
        obtain ⟨k, hk, rfl, rfl, hbel⟩ := hrel
        by_cases hlt : k < l.length
        · obtain ⟨c0, c1, c2⟩ := (H.out.later hbel).at'.mrat k hlt
          have ha := hide (hbel.alloc hbel.size (.cells #[.int .i64 l[k].frm, .int .i64 l[k].to, .string l[k].style] 34))
          have b1 := covL_bd (st := st) hz (l.take k) (fun m hm => by obtain ⟨i, hi, rfl⟩ := List.mem_iff_getElem.1 (List.mem_of_mem_take hm); exact HO.out i hi)
          have b2 := cov1_bd (st := st) hz (HO.out k hlt)
          have hl1 : (l.take k).length ≤ 40 := by rw [List.length_take]; omega
          have hs := hide (covL_snoc st (l.take k) l[k])
          rw [← List.take_succ_eq_append_getElem hlt] at hs
          have ok : 0 ≤ l[k].frm ∧ l[k].frm < l[k].to ∧ l[k].to ≤ 300 := by
            have := HO.out k hlt
            unfold mkOk at this
            simp only [Bool.and_eq_true, decide_eq_true_eq] at this
            omega
          obtain ⟨ok1, ok2, ok3⟩ := ok
          generalize covL st (l.take k) = A at *
          cases he : l[k].style.toList == st.toList with
          | false =>
            have hs2 : Hid (covL st (l.take (k + 1)) = A) := hide (by rw [hs.out]; unfold cov1; rw [he]; simp)
            clear hs b2
            go_wp2
            refine ⟨⟨k + 1, by omega, by go_num, by rw [hs2.out], ha.out⟩, by simp [intOf]; omega⟩
          | true =>
            have hs2 : Hid (covL st (l.take (k + 1)) = A + (l[k].to - l[k].frm)) := hide (by rw [hs.out]; unfold cov1; rw [he]; simp)
            clear hs b2
            go_wp2
            refine ⟨⟨k + 1, by omega, by go_num, by rw [hs2.out], ha.out⟩, by simp [intOf]; omega⟩
        · obtain rfl : k = l.length := by omega
          rw [List.take_length]
          go_wp2
          go_ret2
          exact ⟨rfl, hbel⟩

end Go.Proofs.YtbooongkbninhaaDoor

namespace Go.Proofs.YtbooongkbninhaaDoor
open Go.RowKit
open Doc1

def encSt (l : List ByteArray) : List Value := l.map Value.string
theorem encSt_len (l : List ByteArray) : (encSt l).length = l.length := by simp [encSt]
theorem encSt_app (a b : List ByteArray) : encSt (a ++ b) = encSt a ++ encSt b := by simp [encSt]
theorem CLs.stat {w : World} {g : Nat} {l : List ByteArray} (h : CLs w g (encSt l)) (i : Nat) (hi : i < l.length) : w.cell? ⟨g, i, none⟩ = some (.string l[i]) :=
  h i _ (by simp [encSt, hi])
def ksSt (_ : Nat) : Bool := true

def SOwn (w : World) (B : Nat) (v : Value) (l : List ByteArray) : Prop := w.ownsRow B 9 1 v l.length (encSt l)
theorem SOwn.mono {w : World} {B B' : Nat} {v : Value} {l : List ByteArray} (h : SOwn w B v l) (hB : B' ≤ B) : SOwn w B' v l := own_mono h hB
def SMk (w : World) (v : Value) (n : Nat) : Prop := (n = 0 ∧ ∃ a cap, v = .slice a 0 cap) ∨ ∃ g cap, v = .slice (some ⟨g, 0, none⟩) n cap ∧ n ≤ cap ∧ cap ≤ maxLen ∧ g < w.heap.size ∧ CLs w g (mkAll ksSt n)
theorem SMk.later {w w1 : World} {v : Value} {n : Nat} (h : SMk w v n) (hb : Below w.heap.size w w1) : SMk w1 v n :=
  h.imp id (fun ⟨g, cap, e, h1, h2, h3, h4⟩ => ⟨g, cap, e, h1, h2, Nat.lt_of_lt_of_le h3 hb.size, h4.later hb h3⟩)

end Go.Proofs.YtbooongkbninhaaDoor

namespace Go.Proofs.YtbooongkbninhaaDoor
open Go.RowKit
open Doc1

/-- The styles of the marks in which a place lies. -/
def styIn (at' : Int) (m : Mk) : Bool := decide (m.frm ≤ at' ∧ at' < m.to)
def styL (at' : Int) (l : List Mk) : List ByteArray := (l.filter (styIn at')).map (fun m => m.style)
theorem styL_snoc (at' : Int) (l : List Mk) (m : Mk) : styL at' (l ++ [m]) = styL at' l ++ (if styIn at' m then [m.style] else []) := by
  unfold styL
  rw [List.filter_append, List.map_append]
  congr 1
  by_cases h : styIn at' m <;> simp [h]
theorem styL_len (at' : Int) (l : List Mk) : (styL at' l).length ≤ l.length := by
  unfold styL
  rw [List.length_map]
  exact List.length_filter_le _ _
def styOk (l : List Mk) (size at' : Int) : Bool := goodM l size && decide (0 ≤ at' ∧ at' < size)
/-- What StylesAt answers. -/
def styT (l : List Mk) (size at' : Int) : List ByteArray := if styOk l size at' then styL at' l else []
theorem styT_no {l : List Mk} {size at' : Int} (h : styOk l size at' = false) : styT l size at' = [] := by unfold styT; rw [h]; rfl
theorem styT_yes {l : List Mk} {size at' : Int} (h : styOk l size at' = true) : styT l size at' = styL at' l := by unfold styT; rw [h]; rfl
theorem styT_len (l : List Mk) (size at' : Int) : (styT l size at').length ≤ l.length := by
  unfold styT
  split
  · exact styL_len _ _
  · simp
theorem styT_sz {l : List Mk} {size at' : Int} (h : ∀ i (hi : i < l.length), l[i].style.size ≤ 1048576) : ∀ s ∈ styT l size at', s.size ≤ 1048576 := by
  intro s hs
  unfold styT at hs
  split at hs
  · unfold styL at hs
    obtain ⟨m, hm, rfl⟩ := List.mem_map.1 hs
    obtain ⟨i, hi, rfl⟩ := List.mem_iff_getElem.1 (List.mem_filter.1 hm).1
    exact h i hi
  · simp at hs
theorem Tryd.infoStr : (Tryd.prog.info? 9).map (fun i => (i.zero, i.size, i.bytes)) = some (some (.string ⟨#[]⟩), 1, 16) := by kernel_rfl
theorem encSt_snoc (l : List ByteArray) (s : ByteArray) : encSt (l ++ [s]) = encSt l ++ [.string s] := by simp [encSt]

theorem cloneM_any (s : ByteArray) (w : World) (hs : s.size ≤ 1048576) :
    Calls Tryd.prog 39 #[.string s] w fun e w' => e = .returned (.string s) ∧ Below w.heap.size w w' := by
  have H := hide (Tryd.stringslite_Clone s w (by omega))
  go_enter Tryd.func39, Tryd.ntmps39
  go_wp2_with (go_at_call 60; refine H.out.mono ?_; rintro e w' ⟨rfl, hb⟩)
  go_ret
  exact ⟨rfl, hb⟩

set_option maxRecDepth 100000 in
set_option maxHeartbeats 4000000 in
theorem stylesI {w : World} {g cap : Nat} {l : List Mk} (size at' : Int) (h : MrIn w g cap l) :
    Calls Tryd.prog 17 #[.slice (some ⟨g, 0, none⟩) l.length cap, .int .i64 size, .int .i64 at'] w fun e w' => ∃ v, e = .returned (.tuple #[v, .bool (styOk l size at')]) ∧ SOwn w' w.heap.size v (styT l size at') ∧ Below w.heap.size w w' := by
  obtain ⟨i0, hi0, hz0, hz1, hz2⟩ := info_parts Tryd.infoStr
  have hcp := h.cap
  have hln := h.len
  have G := hide (goodMarksI size h)
  have H := hide h
  clear h
  unfold SOwn
  cases hg : goodM l size with
  | false =>
    have e0 : styOk l size at' = false := by unfold styOk; rw [hg]; rfl
    rw [styT_no e0, e0]
    rw [hg] at G
    clear e0 hg
    go_enter Tryd.func17, Tryd.ntmps17
    go_wp2_with (go_at_call 11; refine G.out.mono ?_; rintro e w1 ⟨rfl, hb1⟩)
    go_ret2
    exact ⟨_, rfl, World.ownsRow_nil _ _ _ _, hb1⟩
  | true =>
    rw [hg] at G
    by_cases hin : 0 ≤ at' ∧ at' < size
    · have e0 : styOk l size at' = true := by unfold styOk; rw [hg, decide_eq_true hin]; rfl
      rw [styT_yes e0, e0]
      obtain ⟨hz, h40, hok⟩ := goodM_ok hg
      have hsz0 := (goodM_size hg).1
      obtain ⟨in1, in2⟩ := hin
      clear e0 hg hok
      go_enter Tryd.func17, Tryd.ntmps17
      go_wp2_with (go_at_call 11; refine G.out.mono ?_; rintro e w1 ⟨rfl, hb1⟩)
      go_loopw [8, 26] (fun v i wr => ∃ k : Nat, k ≤ l.length ∧ i = .int .i64 k ∧ Hid (wr.ownsRow w.heap.size 9 1 v (styL at' (l.take k)).length (encSt (styL at' (l.take k)))) ∧ Below w.heap.size w wr) (fun _ i _ => l.length - (intOf i).toNat)
      case atStart => exact ⟨0, by omega, rfl, hide (World.ownsRow_nil _ _ _ _), hb1⟩
      case round =>
        obtain ⟨k, hk, rfl, HO, hbel⟩ := hrel
        by_cases hlt : k < l.length
        · obtain ⟨c0, c1, c2⟩ := (H.out.later hbel).at'.mrat k hlt
          have ha := hide (hbel.alloc hbel.size (.cells #[.int .i64 l[k].frm, .int .i64 l[k].to, .string l[k].style] 34))
          have hs := hide (styL_snoc at' (l.take k) l[k])
          rw [← List.take_succ_eq_append_getElem hlt] at hs
          have hl := styL_len at' (l.take k)
          have hl2 : (l.take k).length ≤ k := by rw [List.length_take]; omega
          by_cases m1 : l[k].frm ≤ at'
          · by_cases m2 : at' < l[k].to
            · have hs2 : Hid (styL at' (l.take (k + 1)) = styL at' (l.take k) ++ [l[k].style]) := hide (by rw [hs.out, if_pos (by unfold styIn; exact decide_eq_true ⟨m1, m2⟩)])
              clear hs
              generalize styL at' (l.take k) = T at *
              have hel := encSt_len T
              have C := hide (fun w => cloneM_any l[k].style w (H.out.sz k hlt))
              go_wp2_with (first | (go_at_call 39; refine (C.out _).mono ?_; rintro e w2 ⟨rfl, hb2⟩; have hbel2 := ha.out.trans (hb2.mono ha.out.size); have hown2 := own_below (HO.out.alloc _) hb2; have hsz2 := hbel2.size) | (at_builtin; refine wpList_append_own _ rfl _ _ 41 rfl w.heap.size 9 i0 (.string ⟨#[]⟩) 1 16 Tryd.underlying41 hi0 hz0 hz1 hz2 rfl (by decide) _ _ _ rfl (hown2.alloc _) ⟨w2.heap.size, 0, none⟩ 1 1 [.string l[k].style] rfl rfl ?c1 ?c2 ?c3 ?c4 ?c5 ?_))
              all_goals try (first | exact cell_one_new _ _ _ | rfl | (intro u hu; simp at hu; subst hu; rfl) | (unfold maxLen; omega) | omega | (simp; omega))
              intro v' w3 hown' hgrow _
              have hb3 := below_append hbel2 hown2 hsz2 hgrow
              have A : Hid (w3.ownsRow w.heap.size 9 1 v' (styL at' (l.take (k + 1))).length (encSt (styL at' (l.take (k + 1))))) := hide (by rw [hs2.out, encSt_snoc, List.length_append]; exact hown')
              clear hown' hgrow hown2
              go_wp2
              refine ⟨⟨k + 1, by omega, by go_num, A, hb3⟩, by simp [intOf]; omega⟩
            · have hs2 : Hid (styL at' (l.take (k + 1)) = styL at' (l.take k)) := hide (by rw [hs.out, if_neg (by unfold styIn; simp; omega), List.append_nil])
              have A := hide (HO.out.alloc (.cells #[.int .i64 l[k].frm, .int .i64 l[k].to, .string l[k].style] 34))
              rw [← hs2.out] at A
              clear hs
              go_wp2
              refine ⟨⟨k + 1, by omega, by go_num, A, ha.out⟩, by simp [intOf]; omega⟩
          · have hs2 : Hid (styL at' (l.take (k + 1)) = styL at' (l.take k)) := hide (by rw [hs.out, if_neg (by unfold styIn; simp; omega), List.append_nil])
            have A := hide (HO.out.alloc (.cells #[.int .i64 l[k].frm, .int .i64 l[k].to, .string l[k].style] 34))
            rw [← hs2.out] at A
            clear hs
            go_wp2
            refine ⟨⟨k + 1, by omega, by go_num, A, ha.out⟩, by simp [intOf]; omega⟩
        · obtain rfl : k = l.length := by omega
          rw [List.take_length] at HO
          go_wp2
          go_ret2
          exact ⟨_, rfl, HO.out, hbel⟩
    · have e0 : styOk l size at' = false := by unfold styOk; rw [decide_eq_false hin, Bool.and_false]
      rw [styT_no e0, e0]
      obtain ⟨hsz0, hz⟩ := goodM_size hg
      clear e0 hg
      by_cases h0 : at' < 0
      · go_enter Tryd.func17, Tryd.ntmps17
        go_wp2_with (go_at_call 11; refine G.out.mono ?_; rintro e w1 ⟨rfl, hb1⟩)
        go_ret2
        exact ⟨_, rfl, World.ownsRow_nil _ _ _ _, hb1⟩
      · have h1 : size ≤ at' := by omega
        go_enter Tryd.func17, Tryd.ntmps17
        go_wp2_with (go_at_call 11; refine G.out.mono ?_; rintro e w1 ⟨rfl, hb1⟩)
        go_ret2
        exact ⟨_, rfl, World.ownsRow_nil _ _ _ _, hb1⟩

end Go.Proofs.YtbooongkbninhaaDoor
