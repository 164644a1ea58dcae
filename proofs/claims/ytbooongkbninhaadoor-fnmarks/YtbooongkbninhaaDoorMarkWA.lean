/- The contracts of impl.isStyle, (impl.Mark).isGood, (impl.Mark).isAheadOf, and of the model's own l5Style and l5Mark. The contracts of GoodMarks, the model's and the program's. -/
import Derived.Test.YtbooongkbninhaaDoorMark1
import Derived.Test.YtbooongkbninhaaDoorRowsMark
namespace Go.Proofs.YtbooongkbninhaaDoor
open Go.RowKit
open Doc1

theorem stB_iff (b : UInt8) : stB b = decide (97 ≤ (b.toNat : Int) ∧ (b.toNat : Int) ≤ 122) := by
  unfold stB; apply decide_eq_decide.2; omega

set_option maxRecDepth 100000 in
set_option maxHeartbeats 1000000 in
theorem isStyle_any (s : ByteArray) (w : World) (hs : s.size ≤ 1048576) :
    Calls Tryd.prog 38 #[.string s] w fun e w' => e = .returned (.bool (isSt s)) ∧ w' = w := by
  by_cases h8 : 1 ≤ s.size ∧ s.size ≤ 8
  · obtain ⟨h1, h2⟩ := h8
    go_enter Tryd.func38, Tryd.ntmps38
    go_wp2
    go_loop [14] (fun i => ∃ k : Nat, k ≤ s.size ∧ i = .int .i64 k ∧ Hid (stTo s k = true)) (fun i => s.size - (intOf i).toNat)
    case atStart => exact ⟨0, by omega, rfl, hide rfl⟩
    case round =>
      obtain ⟨k, hk, rfl, hst⟩ := hrel
      by_cases hlt : k < s.size
      · have HB := hide (stB_iff s[k])
        have HN := hide (fun h => isSt_no (s := s) hlt h)
        have HS := hide (stTo_succ s k hlt)
        by_cases b1 : 97 ≤ (s[k].toNat : Int)
        · by_cases b2 : (s[k].toNat : Int) ≤ 122
          · have HT : Hid (stTo s (k + 1) = true) := hide (by rw [HS.out, hst.out, HB.out, decide_eq_true ⟨b1, b2⟩]; rfl)
            go_wp2
            refine ⟨⟨k + 1, by omega, by go_num, HT⟩, by simp [intOf]; omega⟩
          · have HF : Hid (isSt s = false) := hide (HN.out (by rw [HB.out, decide_eq_false (fun c => b2 c.2)]))
            go_wp2
            go_ret
            exact ⟨ret_bool HF.out.symm, rfl⟩
        · have HF : Hid (isSt s = false) := hide (HN.out (by rw [HB.out, decide_eq_false (fun c => b1 c.1)]))
          go_wp2
          go_ret
          exact ⟨ret_bool HF.out.symm, rfl⟩
      · obtain rfl : k = s.size := by omega
        have HF : Hid (isSt s = true) := hide (by rw [isSt_all hst.out, decide_eq_true ⟨h1, h2⟩])
        go_wp2
        go_ret
        exact ⟨ret_bool HF.out.symm, rfl⟩
  · have HF : Hid (isSt s = false) := hide (by unfold isSt; rw [decide_eq_false h8]; rfl)
    by_cases h1 : s.size < 1
    · go_enter Tryd.func38, Tryd.ntmps38
      go_wp2
      go_ret
      exact ⟨ret_bool HF.out.symm, rfl⟩
    · have h2 : 8 < s.size := by omega
      go_enter Tryd.func38, Tryd.ntmps38
      go_wp2
      go_ret
      exact ⟨ret_bool HF.out.symm, rfl⟩

set_option maxRecDepth 100000 in
set_option maxHeartbeats 1000000 in
theorem l5Style_any (s : ByteArray) (w : World) (hs : s.size ≤ 1048576) :
    Calls Tryd.prog 59 #[.string s] w fun e w' => e = .returned (.bool (isSt s)) ∧ w' = w := by
  have I := hide (fun w => l1In_any s.size 1 8 w)
  go_enter Tryd.func59, Tryd.ntmps59
  go_wp2
  go_loop [3] (fun i => ∃ k : Nat, k ≤ s.size ∧ i = .int .i64 k ∧ Hid (stTo s k = true)) (fun i => s.size - (intOf i).toNat)
  case atStart => exact ⟨0, by omega, rfl, hide rfl⟩
  case round =>
    obtain ⟨k, hk, rfl, hst⟩ := hrel
    by_cases hlt : k < s.size
    · have HB := hide (stB_iff s[k])
      have HN := hide (fun h => isSt_no (s := s) hlt h)
      have HS := hide (stTo_succ s k hlt)
      by_cases b1 : 97 ≤ (s[k].toNat : Int)
      · by_cases b2 : (s[k].toNat : Int) ≤ 122
        · have HT : Hid (stTo s (k + 1) = true) := hide (by rw [HS.out, hst.out, HB.out, decide_eq_true ⟨b1, b2⟩]; rfl)
          go_wp2
          refine ⟨⟨k + 1, by omega, by go_num, HT⟩, by simp [intOf]; omega⟩
        · have HF : Hid (isSt s = false) := hide (HN.out (by rw [HB.out, decide_eq_false (fun c => b2 c.2)]))
          go_wp2
          go_ret
          exact ⟨ret_bool HF.out.symm, rfl⟩
      · have HF : Hid (isSt s = false) := hide (HN.out (by rw [HB.out, decide_eq_false (fun c => b1 c.1)]))
        go_wp2
        go_ret
        exact ⟨ret_bool HF.out.symm, rfl⟩
    · obtain rfl : k = s.size := by omega
      have HF : Hid (isSt s = decide (1 ≤ s.size ∧ s.size ≤ 8)) := hide (isSt_all hst.out)
      go_wp2_with (go_at_call 55; refine (I.out _).mono ?_; rintro e w' ⟨rfl, hw⟩; replace hw := hw.symm; subst hw)
      go_ret
      exact ⟨ret_bool (by rw [HF.out, Bool.eq_iff_iff]; simp; omega), rfl⟩

set_option maxRecDepth 100000 in
set_option maxHeartbeats 2000000 in
theorem isGood_any (m : Mk) (size : Int) (w : World) (hs : m.style.size ≤ 1048576) :
    Calls Tryd.prog 33 #[mrV m, .int .i64 size] w fun e w' => e = .returned (.bool (mkOk size m)) ∧ Below w.heap.size w w' := by
  have I := hide (fun w => isStyle_any m.style w hs)
  obtain ⟨R, hR⟩ : ∃ R, R = mkOk size m := ⟨_, rfl⟩
  rw [← hR]
  unfold mkOk at hR
  have HR := hide hR
  clear hR
  have hb := (Below.refl w.heap.size w).alloc (Nat.le_refl _) (.cells #[.int .i64 m.frm, .int .i64 m.to, .string m.style] 34)
  have no : ¬ (0 ≤ m.frm ∧ m.frm < m.to ∧ m.to ≤ size) → R = false := fun h => by rw [HR.out, decide_eq_false h, Bool.and_false]
  have HN := hide no
  clear no
  unfold mrV
  by_cases h1 : 0 ≤ m.frm
  · by_cases h2 : m.frm < m.to
    · by_cases h3 : m.to ≤ size
      · go_enter Tryd.func33, Tryd.ntmps33
        go_wp2_with (go_at_call 38; refine (I.out _).mono ?_; rintro e w' ⟨rfl, hw⟩; replace hw := hw.symm; subst hw)
        go_ret
        exact ⟨ret_bool (by rw [HR.out, decide_eq_true ⟨h1, h2, h3⟩, Bool.and_true]), hb⟩
      · rw [HN.out (fun c => h3 c.2.2)]
        go_enter Tryd.func33, Tryd.ntmps33
        go_wp2
        go_ret
        exact ⟨rfl, hb⟩
    · rw [HN.out (fun c => h2 c.2.1)]
      go_enter Tryd.func33, Tryd.ntmps33
      go_wp2
      go_ret
      exact ⟨rfl, hb⟩
  · rw [HN.out (fun c => h1 c.1)]
    go_enter Tryd.func33, Tryd.ntmps33
    go_wp2
    go_ret
    exact ⟨rfl, hb⟩

set_option maxRecDepth 100000 in
set_option maxHeartbeats 2000000 in
theorem l5Mark_any (m : Mk) (size : Int) (w : World) (hs : m.style.size ≤ 1048576) :
    Calls Tryd.prog 37 #[mrV m, .int .i64 size] w fun e w' => e = .returned (.bool (mkOk size m)) ∧ Below w.heap.size w w' := by
  have I := hide (fun w => l5Style_any m.style w hs)
  unfold mkOk
  have hb := (Below.refl w.heap.size w).alloc (Nat.le_refl _) (.cells #[.int .i64 m.frm, .int .i64 m.to, .string m.style] 34)
  unfold mrV
  cases hst : isSt m.style with
  | false =>
    rw [hst] at I
    go_enter Tryd.func37, Tryd.ntmps37
    go_wp2_with (go_at_call 59; refine (I.out _).mono ?_; rintro e w' ⟨rfl, hw⟩; replace hw := hw.symm; subst hw)
    go_ret
    exact ⟨ret_bool (by simp; try omega), hb⟩
  | true =>
    rw [hst] at I
    by_cases h1 : 0 ≤ m.frm
    · by_cases h2 : m.frm < m.to
      · by_cases h3 : m.to ≤ size
        · rw [decide_eq_true ⟨h1, h2, h3⟩]
          go_enter Tryd.func37, Tryd.ntmps37
          go_wp2_with (go_at_call 59; refine (I.out _).mono ?_; rintro e w' ⟨rfl, hw⟩; replace hw := hw.symm; subst hw)
          go_ret
          exact ⟨ret_bool (by simp; try omega), hb⟩
        · rw [decide_eq_false (fun c => h3 c.2.2)]
          go_enter Tryd.func37, Tryd.ntmps37
          go_wp2_with (go_at_call 59; refine (I.out _).mono ?_; rintro e w' ⟨rfl, hw⟩; replace hw := hw.symm; subst hw)
          go_ret
          exact ⟨ret_bool (by simp; try omega), hb⟩
      · rw [decide_eq_false (fun c => h2 c.2.1)]
        go_enter Tryd.func37, Tryd.ntmps37
        go_wp2_with (go_at_call 59; refine (I.out _).mono ?_; rintro e w' ⟨rfl, hw⟩; replace hw := hw.symm; subst hw)
        go_ret
        exact ⟨ret_bool (by simp; try omega), hb⟩
    · rw [decide_eq_false (fun c => h1 c.1)]
      go_enter Tryd.func37, Tryd.ntmps37
      go_wp2_with (go_at_call 59; refine (I.out _).mono ?_; rintro e w' ⟨rfl, hw⟩; replace hw := hw.symm; subst hw)
      go_ret
      exact ⟨ret_bool (by simp; try omega), hb⟩

set_option maxRecDepth 100000 in
set_option maxHeartbeats 2000000 in
theorem isAheadOf_any (a b : Mk) (w : World) :
    Calls Tryd.prog 34 #[mrV a, mrV b] w fun e w' => e = .returned (.bool (mkLt a b)) ∧ Below w.heap.size w w' := by
  have hb := ((Below.refl w.heap.size w).alloc (Nat.le_refl _) (.cells #[.int .i64 a.frm, .int .i64 a.to, .string a.style] 34)).alloc (by simp) (.cells #[.int .i64 b.frm, .int .i64 b.to, .string b.style] 34)
  unfold mkLt mrV
  cases he : a.style.toList == b.style.toList with
  | false =>
    rw [if_neg (by simp)]
    go_enter Tryd.func34, Tryd.ntmps34
    go_wp2
    go_ret
    exact ⟨rfl, hb⟩
  | true =>
    rw [if_pos rfl]
    go_enter Tryd.func34, Tryd.ntmps34
    go_wp2
    go_ret
    exact ⟨rfl, hb⟩
end Go.Proofs.YtbooongkbninhaaDoor

namespace Go.Proofs.YtbooongkbninhaaDoor
open Go.RowKit
open Doc1

/-- Marks in a block of the call's own. -/
structure MrIn (w : World) (g cap : Nat) (l : List Mk) : Prop where
  cap : l.length ≤ cap ∧ cap ≤ maxLen
  sz : ∀ i (hi : i < l.length), l[i].style.size ≤ 1048576
  len : l.length ≤ 1048576
  at' : CLs w g (encMr l)
  lt : g < w.heap.size
theorem MrIn.later {w w1 : World} {g cap : Nat} {l : List Mk} (h : MrIn w g cap l) (hb : Below w.heap.size w w1) : MrIn w1 g cap l := ⟨h.cap, h.sz, h.len, h.at'.later hb h.lt, Nat.lt_of_lt_of_le h.lt hb.size⟩
theorem MrCp.mrIn {w : World} {g : Nat} {l : List Mk} (h : MrCp w g l) (hf : szMrn l ≤ 1048576) : MrIn w g l.length l := by
  unfold szMrn at hf
  refine ⟨⟨Nat.le_refl _, by unfold maxLen; omega⟩, fun i hi => ?_, by omega, h.at', h.lt⟩
  have h1 := szMrU_succ l i hi
  have h2 := szMrU_mono l (i + 1) l.length hi
  omega
theorem box3 (w : World) (a b c : Value) : (∀ t, (w.alloc (.cells #[a, b, c] t)).cell? ⟨w.heap.size, 0, none⟩ = some a) ∧ (∀ t, (w.alloc (.cells #[a, b, c] t)).cell? ⟨w.heap.size, 1, none⟩ = some b) ∧ (∀ t, (w.alloc (.cells #[a, b, c] t)).cell? ⟨w.heap.size, 2, none⟩ = some c) := by
  refine ⟨fun t => ?_, fun t => ?_, fun t => ?_⟩ <;> (unfold World.cell?; rw [heap_alloc_new]; rfl)
theorem box_later {w w' : World} {o : Obj} {j : Nat} {v : Value} (h : Below (w.alloc o).drew.heap.size (w.alloc o).drew w') (hj : (w.alloc o).cell? ⟨w.heap.size, j, none⟩ = some v) : w'.cell? ⟨w.heap.size, j, none⟩ = some v :=
  (World.cell?_of_block (h.block w.heap.size (by show w.heap.size < (w.alloc _).heap.size; simp))).trans hj
theorem below_box {w wr w' : World} {o : Obj} (ha : Below w.heap.size w (wr.alloc o)) (h : Below (wr.alloc o).drew.heap.size (wr.alloc o).drew w') : Below w.heap.size w w' :=
  ha.trans ((Below.refl _ _).drew.trans (h.mono (show w.heap.size ≤ (wr.alloc o).drew.heap.size from ha.size)))
theorem mkLt_no {a b : Mk} : mkLt a b = false ↔ (!(Op.bytesLess a.style.toList b.style.toList || a.style.toList == b.style.toList) || (a.style.toList == b.style.toList && decide (b.frm ≤ a.to))) = true := by
  unfold mkLt
  cases h1 : a.style.toList == b.style.toList <;> cases h2 : Op.bytesLess a.style.toList b.style.toList <;> simp

set_option maxRecDepth 100000 in
set_option maxHeartbeats 4000000 in
theorem goodMarksS {w : World} {g cap : Nat} {l : List Mk} (size : Int) (h : MrIn w g cap l) :
    Calls Tryd.prog 30 #[.slice (some ⟨g, 0, none⟩) l.length cap, .int .i64 size] w fun e w' => e = .returned (.bool (goodM l size)) ∧ Below w.heap.size w w' := by
  have hcp := h.cap
  have hln := h.len
  have H := hide h
  clear h
  have I := hide (fun w => l1In_any size 0 300 w)
  go_enter Tryd.func30, Tryd.ntmps30
  go_wp2
  go_loopw [9] (fun i wr => ∃ k : Nat, k ≤ l.length ∧ i = .int .i64 k ∧ Hid (mkTo l size k = true) ∧ Below w.heap.size w wr) (fun i _ => l.length - (intOf i).toNat)
  case atStart => exact ⟨0, by omega, rfl, hide rfl, Below.refl _ _⟩
  case round =>
    obtain ⟨k, hk, rfl, hall, hbel⟩ := hrel
    by_cases hlt : k < l.length
    · obtain ⟨c0, c1, c2⟩ := (H.out.later hbel).at'.mrat k hlt
      have hs := H.out.sz k hlt
      have P := hide (l5Mark_any l[k] size (wr.alloc (.cells #[.int .i64 l[k].frm, .int .i64 l[k].to, .string l[k].style] 34)) hs)
      have ha := hide (hbel.alloc hbel.size (.cells #[.int .i64 l[k].frm, .int .i64 l[k].to, .string l[k].style] 34))
      cases hg : mkOk size l[k] with
      | false =>
        rw [hg] at P
        have Hno : Hid (goodM l size = false) := hide (goodM_no hlt (by
          cases k with
          | zero => rw [mkAt_zero hlt, hg]
          | succ j => rw [mkAt_succ hlt, hg]; rfl))
        clear hg
        go_wp2_with fail
        refine P.out.mono ?_
        rintro e w2 ⟨rfl, hb2⟩
        go_wp2
        go_ret
        exact ⟨ret_bool Hno.out.symm, ha.out.trans (hb2.mono ha.out.size)⟩
      | true =>
        rw [hg] at P
        obtain ⟨y0, y1, y2⟩ := box3 wr (.int .i64 l[k].frm) (.int .i64 l[k].to) (.string l[k].style)
        cases k with
        | zero =>
          have Hy : Hid (mkTo l size (0 + 1) = true) := hide (by rw [mkTo_succ, mkTo_zero, mkAt_zero hlt, hg]; rfl)
          clear hg
          go_wp2_with fail
          refine P.out.mono ?_
          rintro e w2 ⟨rfl, hb2⟩
          have hB := ha.out.trans (hb2.mono ha.out.size)
          go_wp2
          go_quiet (fail)
          go_wp2
          go_roundw
          case rel => exact ⟨0 + 1, by omega, by go_num, Hy, hB.trans ⟨rfl, rfl, rfl, Nat.le_refl _, fun _ _ => rfl⟩⟩
          case measure => simp [intOf]; omega
        | succ j =>
          have Hg := hide hg
          clear hg
          have jl : j < l.length := by omega
          have CC := hide (fun w2 (hb : Below w.heap.size w w2) => (H.out.later hb).at'.mrat j jl)
          have hlst := hide (mkAt_succ (size := size) hlt)
          go_wp2_with fail
          refine P.out.mono ?_
          rintro e w2 ⟨rfl, hb2⟩
          have hB := ha.out.trans (hb2.mono ha.out.size)
          have z0 := (World.cell?_of_block (a := ⟨wr.heap.size, 0, none⟩) (hb2.block _ (by simp))).trans (y0 _)
          have z1 := (World.cell?_of_block (a := ⟨wr.heap.size, 1, none⟩) (hb2.block _ (by simp))).trans (y1 _)
          have z2 := (World.cell?_of_block (a := ⟨wr.heap.size, 2, none⟩) (hb2.block _ (by simp))).trans (y2 _)
          obtain ⟨d0, d1, d2⟩ := CC.out w2 hB
          clear y0 y1 y2 c0 c1 c2 ha P hb2 hbel
          cases e2 : l[j].style.toList == l[j + 1].style.toList with
          | false =>
            cases e1 : Op.bytesLess l[j].style.toList l[j + 1].style.toList with
            | false =>
              have Hn : Hid (goodM l size = false) := hide (goodM_no hlt (by rw [hlst.out, Hg.out]; unfold mkLt; rw [e2]; simp [e1]))
              go_wp2
              go_quiet (fail)
              go_wp2
              go_ret
              exact ⟨ret_bool Hn.out.symm, hB.trans ⟨rfl, rfl, rfl, Nat.le_refl _, fun _ _ => rfl⟩⟩
            | true =>
              have Hy : Hid (mkTo l size (j + 1 + 1) = true) := hide (by rw [mkTo_succ, hall.out, hlst.out, Hg.out]; unfold mkLt; rw [e2]; simp [e1])
              go_wp2
              go_quiet (fail)
              go_wp2
              go_roundw
              case rel => exact ⟨j + 1 + 1, by omega, by go_num, Hy, hB.trans ⟨rfl, rfl, rfl, Nat.le_refl _, fun _ _ => rfl⟩⟩
              case measure => simp [intOf]; omega
          | true =>
            by_cases hle : l[j + 1].frm ≤ l[j].to
            · skip
              have Hn : Hid (goodM l size = false) := hide (goodM_no hlt (by rw [hlst.out, Hg.out]; unfold mkLt; rw [e2]; simp; omega))
              cases e1 : Op.bytesLess l[j].style.toList l[j + 1].style.toList
              all_goals
                go_wp2
                go_quiet (fail)
                go_wp2
                go_ret
                exact ⟨ret_bool Hn.out.symm, hB.trans ⟨rfl, rfl, rfl, Nat.le_refl _, fun _ _ => rfl⟩⟩
            · skip
              have Hy : Hid (mkTo l size (j + 1 + 1) = true) := hide (by rw [mkTo_succ, hall.out, hlst.out, Hg.out]; unfold mkLt; rw [e2]; simp; omega)
              cases e1 : Op.bytesLess l[j].style.toList l[j + 1].style.toList
              all_goals
                go_wp2
                go_quiet (fail)
                go_wp2
                go_roundw
                case rel => exact ⟨j + 1 + 1, by omega, by go_num, Hy, hB.trans ⟨rfl, rfl, rfl, Nat.le_refl _, fun _ _ => rfl⟩⟩
                case measure => simp [intOf]; omega
    · obtain rfl : k = l.length := by omega
      have Hg := hide (goodM_all hall.out)
      by_cases h40 : l.length ≤ 40
      · rw [decide_eq_true h40, Bool.and_true] at Hg
        go_wp2_with (go_at_call 55; refine (I.out _).mono ?_; rintro e w' ⟨rfl, hw⟩; replace hw := hw.symm; subst hw)
        go_ret
        exact ⟨ret_bool (by rw [Hg.out]; try simp), hbel⟩
      · rw [decide_eq_false h40, Bool.and_false] at Hg
        go_wp2
        go_ret
        exact ⟨ret_bool (by rw [Hg.out]; try simp), hbel⟩

end Go.Proofs.YtbooongkbninhaaDoor
