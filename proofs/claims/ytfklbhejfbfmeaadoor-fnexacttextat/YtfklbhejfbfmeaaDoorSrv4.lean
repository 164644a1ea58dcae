/- NewServer, LastSeq and TextAt, of both. -/
import Derived.Test.YtfklbhejfbfmeaaDoorSrvM
set_option linter.unusedVariables false
namespace Go.Proofs.YtfklbhejfbfmeaaDoor
open Go.RowKit
open Doc1

/-- The text of a new server. -/
def nsT (s : ByteArray) : ByteArray := if good s.data.toList = true then s else ⟨#[]⟩
def nsS (s : ByteArray) : ByteArray := nsT s
def nsL (_ : ByteArray) : List En := []

set_option maxRecDepth 100000 in
set_option maxHeartbeats 2000000 in
theorem newSvS (s : ByteArray) (w : World) (hs : s.size ≤ 1048576) :
    Calls Tryd.prog 9 #[.string s] w fun e w' => SPost w (nsS s) (nsT s) (nsL s) (good s.data.toList) e w' := by
  have G := hide (fun w' => goodTextS_any s w' hs)
  have HC : Hid (CB (w.alloc (.cells #[.string ⟨#[]⟩, .string ⟨#[]⟩, .slice none 0 0] 24)) w.heap.size #[.string ⟨#[]⟩, .string ⟨#[]⟩, .slice none 0 0]) := hide (CB.new _ _ _)
  have HB : Hid (Below w.heap.size w (w.alloc (.cells #[.string ⟨#[]⟩, .string ⟨#[]⟩, .slice none 0 0] 24))) := hide ((Below.refl _ _).alloc (Nat.le_refl _) _)
  unfold nsS nsT
  cases hg : good s.data.toList with
  | true =>
    rw [hg] at G
    obtain ⟨w1, hw1⟩ : ∃ w1, w1 = w.alloc (.cells #[.string ⟨#[]⟩, .string ⟨#[]⟩, .slice none 0 0] 24) := ⟨_, rfl⟩
    rw [← hw1] at HC HB
    go_enter Tryd.func9, Tryd.ntmps9
    go_wp2_with fail
    rw [← hw1]
    refine (G.out _).mono ?_
    rintro e w2 ⟨rfl, hw2⟩
    obtain rfl := hw2.symm
    clear G hw1
    have c0 := HC.out.cell 0 rfl
    have f0 := HC.out.fz 0
    have d1 := HC.out.set 0 (.string s) rfl
    have c1 := d1.cell 1 rfl
    have f1 := d1.fz 1
    have d2 := d1.set 1 (.string s) rfl
    have c2 := d2.cell 2 rfl
    have f2 := d2.fz 2
    have d3 := hide (d2.set 2 (.slice none 0 0) rfl)
    have HB3 := hide (((HB.out.setCell (p := ⟨w.heap.size, 0, none⟩) (Nat.le_refl _) (.string s)).setCell (p := ⟨w.heap.size, 1, none⟩) (Nat.le_refl _) (.string s)).setCell (p := ⟨w.heap.size, 2, none⟩) (Nat.le_refl _) (.slice none 0 0))
    simp only [List.getElem_toArray, List.getElem_cons_zero] at c0 c1 c2
    clear d1 d2
    go_wp2
    obtain ⟨tt, htt⟩ := d3.out
    refine bodyPost_ret (results_cell_tmp rfl _ _ w.heap.size _ _ (0, 0) _ (.bool true) rfl rfl htt Tryd.underlying24 rfl Tryd.sizeServer) rfl ?_
    exact ⟨_, rfl, sx_nil _ _ _ _ _, HB3.out⟩
  | false =>
    rw [hg] at G
    obtain ⟨w1, hw1⟩ : ∃ w1, w1 = w.alloc (.cells #[.string ⟨#[]⟩, .string ⟨#[]⟩, .slice none 0 0] 24) := ⟨_, rfl⟩
    rw [← hw1] at HC HB
    go_enter Tryd.func9, Tryd.ntmps9
    go_wp2_with fail
    rw [← hw1]
    refine (G.out _).mono ?_
    rintro e w2 ⟨rfl, hw2⟩
    obtain rfl := hw2.symm
    clear G hw1
    have c0 := HC.out.cell 0 rfl
    have f0 := HC.out.fz 0
    have d1 := HC.out.set 0 (.string ⟨#[]⟩) rfl
    have c1 := d1.cell 1 rfl
    have f1 := d1.fz 1
    have d2 := d1.set 1 (.string ⟨#[]⟩) rfl
    have c2 := d2.cell 2 rfl
    have f2 := d2.fz 2
    have d3 := hide (d2.set 2 (.slice none 0 0) rfl)
    have HB3 := hide (((HB.out.setCell (p := ⟨w.heap.size, 0, none⟩) (Nat.le_refl _) (.string ⟨#[]⟩)).setCell (p := ⟨w.heap.size, 1, none⟩) (Nat.le_refl _) (.string ⟨#[]⟩)).setCell (p := ⟨w.heap.size, 2, none⟩) (Nat.le_refl _) (.slice none 0 0))
    simp only [List.getElem_toArray, List.getElem_cons_zero] at c0 c1 c2
    clear d1 d2
    go_wp2
    obtain ⟨tt, htt⟩ := d3.out
    refine bodyPost_ret (results_cell_tmp rfl _ _ w.heap.size _ _ (0, 0) _ (.bool false) rfl rfl htt Tryd.underlying24 rfl Tryd.sizeServer) rfl ?_
    exact ⟨_, rfl, sx_nil _ _ _ _ _, HB3.out⟩

set_option maxRecDepth 100000 in
set_option maxHeartbeats 2000000 in
theorem newSvI (s : ByteArray) (w : World) (hs : s.size ≤ 1048576) (hT : Tab w) :
    Calls Tryd.prog 10 #[.string s] w fun e w' => SPost w (nsS s) (nsT s) (nsL s) (good s.data.toList) e w' := by
  have G : Hid (∀ w', Below w.heap.size w w' → _) := hide (fun w' hb => goodTextI_any s w' hs (hT.below hb))
  have HCl := hide (fun w' => strClone_any s w' hs)
  have HC : Hid (CB (w.alloc (.cells #[.string ⟨#[]⟩, .string ⟨#[]⟩, .slice none 0 0] 24)) w.heap.size #[.string ⟨#[]⟩, .string ⟨#[]⟩, .slice none 0 0]) := hide (CB.new _ _ _)
  have HB : Hid (Below w.heap.size w (w.alloc (.cells #[.string ⟨#[]⟩, .string ⟨#[]⟩, .slice none 0 0] 24))) := hide ((Below.refl _ _).alloc (Nat.le_refl _) _)
  unfold nsS nsT
  cases hg : good s.data.toList with
  | true =>
    rw [hg] at G
    obtain ⟨w1, hw1⟩ : ∃ w1, w1 = w.alloc (.cells #[.string ⟨#[]⟩, .string ⟨#[]⟩, .slice none 0 0] 24) := ⟨_, rfl⟩
    rw [← hw1] at HC HB
    go_enter Tryd.func10, Tryd.ntmps10
    go_wp2_with fail
    rw [← hw1]
    refine (G.out _ HB.out).mono ?_
    rintro e w2 ⟨rfl, hw2⟩
    obtain rfl := hw2.symm
    clear G hw1
    go_wp2_with fail
    refine (HCl.out _).mono ?_
    rintro e w3 ⟨rfl, hb3⟩
    have HC3 := hide (HC.out.later hb3)
    have HBx := hide (HB.out.trans (hb3.mono HB.out.size))
    clear hb3
    go_wp2_with fail
    refine (HCl.out _).mono ?_
    rintro e w4 ⟨rfl, hb4⟩
    have HC4 := hide (HC3.out.later hb4)
    have HBy := hide (HBx.out.trans (hb4.mono HBx.out.size))
    clear hb4 HCl
    have c0 := HC4.out.cell 0 rfl
    have f0 := HC4.out.fz 0
    have d1 := HC4.out.set 0 (.string s) rfl
    have c1 := d1.cell 1 rfl
    have f1 := d1.fz 1
    have d2 := d1.set 1 (.string s) rfl
    have c2 := d2.cell 2 rfl
    have f2 := d2.fz 2
    have d3 := hide (d2.set 2 (.slice none 0 0) rfl)
    have HB3 := hide (((HBy.out.setCell (p := ⟨w.heap.size, 0, none⟩) (Nat.le_refl _) (.string s)).setCell (p := ⟨w.heap.size, 1, none⟩) (Nat.le_refl _) (.string s)).setCell (p := ⟨w.heap.size, 2, none⟩) (Nat.le_refl _) (.slice none 0 0))
    simp only [List.getElem_toArray, List.getElem_cons_zero] at c0 c1 c2
    clear d1 d2
    go_wp2
    obtain ⟨tt, htt⟩ := d3.out
    refine bodyPost_ret (results_cell_tmp rfl _ _ w.heap.size _ _ (0, 0) _ (.bool true) rfl rfl htt Tryd.underlying24 rfl Tryd.sizeServer) rfl ?_
    exact ⟨_, rfl, sx_nil _ _ _ _ _, HB3.out⟩
  | false =>
    rw [hg] at G
    obtain ⟨w1, hw1⟩ : ∃ w1, w1 = w.alloc (.cells #[.string ⟨#[]⟩, .string ⟨#[]⟩, .slice none 0 0] 24) := ⟨_, rfl⟩
    rw [← hw1] at HC HB
    go_enter Tryd.func10, Tryd.ntmps10
    go_wp2_with fail
    rw [← hw1]
    refine (G.out _ HB.out).mono ?_
    rintro e w2 ⟨rfl, hw2⟩
    obtain rfl := hw2.symm
    clear G hw1
    have c0 := HC.out.cell 0 rfl
    have f0 := HC.out.fz 0
    have d1 := HC.out.set 0 (.string ⟨#[]⟩) rfl
    have c1 := d1.cell 1 rfl
    have f1 := d1.fz 1
    have d2 := d1.set 1 (.string ⟨#[]⟩) rfl
    have c2 := d2.cell 2 rfl
    have f2 := d2.fz 2
    have d3 := hide (d2.set 2 (.slice none 0 0) rfl)
    have HB3 := hide (((HB.out.setCell (p := ⟨w.heap.size, 0, none⟩) (Nat.le_refl _) (.string ⟨#[]⟩)).setCell (p := ⟨w.heap.size, 1, none⟩) (Nat.le_refl _) (.string ⟨#[]⟩)).setCell (p := ⟨w.heap.size, 2, none⟩) (Nat.le_refl _) (.slice none 0 0))
    simp only [List.getElem_toArray, List.getElem_cons_zero] at c0 c1 c2
    clear d1 d2
    go_wp2
    obtain ⟨tt, htt⟩ := d3.out
    refine bodyPost_ret (results_cell_tmp rfl _ _ w.heap.size _ _ (0, 0) _ (.bool false) rfl rfl htt Tryd.underlying24 rfl Tryd.sizeServer) rfl ?_
    exact ⟨_, rfl, sx_nil _ _ _ _ _, HB3.out⟩

/-- LastSeq's answer. -/
noncomputable def lsB (s t : ByteArray) (l : List En) (c : Int) : Bool := goodSv s t l && decide (0 ≤ c ∧ c ≤ 9)
noncomputable def lsN (s t : ByteArray) (l : List En) (c : Int) : Int := if lsB s t l c = true then lastS l c l.length else 0
/-- TextAt's answer. -/
noncomputable def taB (s t : ByteArray) (l : List En) (v : Int) : Bool := goodSv s t l && decide (0 ≤ v ∧ v ≤ (l.length : Int))
noncomputable def taT (s t : ByteArray) (l : List En) (v : Int) : ByteArray := if taB s t l v = true then tx s l v.toNat else ⟨#[]⟩

set_option maxRecDepth 100000 in
set_option maxHeartbeats 4000000 in
theorem l15Last_any {S : Nat → Prop} {w : World} {v : Value} {s t : ByteArray} {l : List En} (c : Int) (h : ER S w v l) (hl : l.length ≤ 1048576) :
    Calls Tryd.prog 44 #[.agg #[.string s, .string t, v], .int .i64 c] w fun e w' => e = .returned (.int .i64 (lastS l c l.length)) ∧ Below w.heap.size w w' := by
  obtain ⟨a, cap, g, off, vs, rfl, hE⟩ := h.ein
  obtain ⟨w1, hw1⟩ : ∃ w1, w1 = w.alloc (.cells #[.string s, .string t, .slice a l.length cap] 24) := ⟨_, rfl⟩
  have hb1 : Below w.heap.size w w1 := by rw [hw1]; exact (Below.refl _ _).alloc (Nat.le_refl _) _
  have HB := hide hb1
  have HE := hide (hE.later hb1)
  clear h hE hb1
  go_enter Tryd.func44, Tryd.ntmps44
  go_wp2
  rw [← hw1]
  clear hw1
  go_loopw [5, 11] (fun x i wr => ∃ k : Nat, k ≤ l.length ∧ i = .int .i64 k ∧ x = .int .i64 (lastS l c k) ∧ Below w1.heap.size w1 wr) (fun _ i _ => l.length - (intOf i).toNat)
  case atStart => exact ⟨0, by omega, rfl, rfl, Below.refl _ _⟩
  case round =>
    obtain ⟨k, hk, rfl, rfl, hbel⟩ := hrel
    by_cases hlt : k < l.length
    · obtain ⟨rfl, hc1, hc2, hd0⟩ := HE.out (by omega)
      have hd := hd0.later hbel
      have c2 := hd.c k hlt
      obtain ⟨c0, c1⟩ := hd.ua k hlt (Nat.zero_le _)
      obtain ⟨ax, cx, ex⟩ := (hd.op k hlt (Nat.zero_le _)).shp
      rw [ex] at c2
      have HBx : Hid (∀ o, Below w1.heap.size w1 (wr.alloc o)) := hide (fun o => hbel.alloc hbel.size _)
      have hls : lastS l c (k + 1) = if l[k].cl = c then l[k].sq else lastS l c k := by show (if (eAt l k).cl = c then _ else _) = _; rw [eAt_eq hlt]
      clear hd hd0 ex
      by_cases heq : l[k].cl = c
      · rw [if_pos heq] at hls
        have HL := hide hls
        clear hls
        go_wp2
        refine ⟨⟨k + 1, by omega, by go_num, by rw [HL.out], HBx.out _⟩, by simp [intOf]; omega⟩
      · rw [if_neg heq] at hls
        have HL := hide hls
        clear hls
        go_wp2
        refine ⟨⟨k + 1, by omega, by go_num, by rw [HL.out], HBx.out _⟩, by simp [intOf]; omega⟩
    · obtain rfl : k = l.length := by omega
      have HB2 := hide (HB.out.trans (hbel.mono HB.out.size))
      clear hbel
      go_wp2
      go_ret
      exact ⟨rfl, HB2.out⟩

set_option maxRecDepth 100000 in
set_option maxHeartbeats 4000000 in
theorem lastSqS {S : Nat → Prop} {w : World} {v : Value} {s t : ByteArray} {l : List En} (c : Int) (h : ER S w v l) (hm : SmE l) (hss : s.size ≤ 1048576) :
    Calls Tryd.prog 25 #[.agg #[.string s, .string t, v], .int .i64 c] w fun e w' => e = .returned (.tuple #[.int .i64 (lsN s t l c), .bool (lsB s t l c)]) ∧ Below w.heap.size w w' := by
  obtain ⟨a, cap, rfl⟩ := h.shp
  obtain ⟨w1, hw1⟩ : ∃ w1, w1 = w.alloc (.cells #[.string s, .string t, .slice a l.length cap] 24) := ⟨_, rfl⟩
  have hb1 : Below w.heap.size w w1 := by rw [hw1]; exact (Below.refl _ _).alloc (Nat.le_refl _) _
  have cb1 : CB w1 w.heap.size #[.string s, .string t, .slice a l.length cap] := by rw [hw1]; exact CB.new _ _ _
  have GS := hide (goodSvS (s := s) (t := t) (h.later hb1) hm hss)
  have I := hide (fun w => l1In_any c 0 9 w)
  have LA : Hid (∀ w', Below w1.heap.size w1 w' → _) := hide (fun w' hb => l15Last_any (s := s) (t := t) c ((h.later hb1).later hb) hm.1)
  have HB := hide hb1
  have HC := hide cb1
  unfold lsN lsB
  clear h hm hb1 cb1
  cases hg : goodSv s t l with
  | false =>
    rw [hg] at GS
    go_enter Tryd.func25, Tryd.ntmps25
    go_wp2_with fail
    rw [← hw1]
    clear hw1
    refine GS.out.mono ?_
    rintro e w2 ⟨rfl, hb2⟩
    have HB2 := hide (HB.out.trans (hb2.mono HB.out.size))
    clear hb2
    go_wp2
    go_ret2
    exact ⟨rfl, HB2.out⟩
  | true =>
    rw [hg] at GS
    by_cases hc : 0 ≤ c ∧ c ≤ 9
    · rw [decide_eq_true hc] at I ⊢
      simp only [Bool.and_true, if_true]
      clear hc
      go_enter Tryd.func25, Tryd.ntmps25
      go_wp2_with fail
      rw [← hw1]
      clear hw1
      refine GS.out.mono ?_
      rintro e w2 ⟨rfl, hb2⟩
      have HB2 := hide (HB.out.trans (hb2.mono HB.out.size))
      have LA2 := hide (LA.out w2 hb2)
      have cb2 := HC.out.later hb2
      have k0 := cb2.cell 0 rfl
      have k1 := cb2.cell 1 rfl
      have k2 := cb2.cell 2 rfl
      simp only [List.getElem_toArray, List.getElem_cons_succ, List.getElem_cons_zero] at k0 k1 k2
      clear hb2 cb2 LA
      go_wp2_with fail
      refine (I.out w2).mono ?_
      rintro e w3 ⟨rfl, hw3⟩
      obtain rfl := hw3.symm
      go_wp2_with fail
      refine LA2.out.mono ?_
      rintro e w4 ⟨rfl, hb4⟩
      have HB4 := hide (HB2.out.trans (hb4.mono HB2.out.size))
      clear hb4 k0 k1 k2
      go_wp2
      go_ret2
      exact ⟨rfl, HB4.out⟩
    · rw [decide_eq_false hc] at I ⊢
      simp only [Bool.and_false]
      clear hc
      go_enter Tryd.func25, Tryd.ntmps25
      go_wp2_with fail
      rw [← hw1]
      clear hw1
      refine GS.out.mono ?_
      rintro e w2 ⟨rfl, hb2⟩
      have HB2 := hide (HB.out.trans (hb2.mono HB.out.size))
      clear hb2
      go_wp2_with fail
      refine (I.out w2).mono ?_
      rintro e w3 ⟨rfl, hw3⟩
      obtain rfl := hw3.symm
      go_wp2
      go_ret2
      exact ⟨rfl, HB2.out⟩

set_option maxRecDepth 100000 in
set_option maxHeartbeats 4000000 in
theorem lastSqI {S : Nat → Prop} {w : World} {v : Value} {s t : ByteArray} {l : List En} (c : Int) (h : ER S w v l) (hm : SmE l) (hss : s.size ≤ 1048576) (hT : Tab w) :
    Calls Tryd.prog 26 #[.agg #[.string s, .string t, v], .int .i64 c] w fun e w' => e = .returned (.tuple #[.int .i64 (lsN s t l c), .bool (lsB s t l c)]) ∧ Below w.heap.size w w' := by
  obtain ⟨a, cap, g, off, vs, rfl, hE⟩ := h.ein
  obtain ⟨w0, hw0⟩ : ∃ w0, w0 = w.alloc (.cells #[.string s, .string t, .slice a l.length cap] 24) := ⟨_, rfl⟩
  have hb0 : Below w.heap.size w w0 := by rw [hw0]; exact (Below.refl _ _).alloc (Nat.le_refl _) _
  have cb0 : CB w0 w.heap.size #[.string s, .string t, .slice a l.length cap] := by rw [hw0]; exact CB.new _ _ _
  have GS := hide (goodSvI (s := s) (t := t) (h.later hb0) hm hss (hT.below hb0))
  have I := hide (fun w => isClient_any c w)
  have hlM := hm.1
  have HB := hide hb0
  have HC := hide cb0
  have HE0 := hide (hE.later hb0)
  unfold lsN lsB
  clear h hm hb0 cb0 hE hT
  cases hg : goodSv s t l with
  | false =>
    rw [hg] at GS
    go_enter Tryd.func26, Tryd.ntmps26
    go_wp2_with fail
    rw [← hw0]
    clear hw0
    refine GS.out.mono ?_
    rintro e w2 ⟨rfl, hb2⟩
    have HB2 := hide (HB.out.trans (hb2.mono HB.out.size))
    clear hb2
    go_wp2
    go_ret2
    exact ⟨rfl, HB2.out⟩
  | true =>
    rw [hg] at GS
    by_cases hc : 0 ≤ c ∧ c ≤ 9
    · rw [decide_eq_true hc] at I ⊢
      simp only [Bool.and_true, if_true]
      clear hc
      go_enter Tryd.func26, Tryd.ntmps26
      go_wp2_with fail
      rw [← hw0]
      clear hw0
      refine GS.out.mono ?_
      rintro e w1 ⟨rfl, hb2⟩
      have HB1 := hide (HB.out.trans (hb2.mono HB.out.size))
      have HE := hide (HE0.out.later hb2)
      have cb2 := HC.out.later hb2
      have k2 := cb2.cell 2 rfl
      simp only [List.getElem_toArray, List.getElem_cons_succ, List.getElem_cons_zero] at k2
      clear hb2 cb2 HE0
      go_wp2_with fail
      refine (I.out w1).mono ?_
      rintro e w3 ⟨rfl, hw3⟩
      obtain rfl := hw3.symm
      go_wp2
      go_loopw [6, 20] (fun x i wr => ∃ k : Nat, k ≤ l.length ∧ i = .int .i64 k ∧ x = .int .i64 (lastS l c k) ∧ Below w1.heap.size w1 wr) (fun _ i _ => l.length - (intOf i).toNat)
      case atStart => exact ⟨0, by omega, rfl, rfl, Below.refl _ _⟩
      case round =>
        obtain ⟨k, hk, rfl, rfl, hbel⟩ := hrel
        by_cases hlt : k < l.length
        · obtain ⟨rfl, hc1, hc2, hd0⟩ := HE.out (by omega)
          have hd := hd0.later hbel
          have c2 := hd.c k hlt
          obtain ⟨c0, c1⟩ := hd.ua k hlt (Nat.zero_le _)
          obtain ⟨ax, cx, ex⟩ := (hd.op k hlt (Nat.zero_le _)).shp
          rw [ex] at c2
          have HBx : Hid (∀ o, Below w1.heap.size w1 (wr.alloc o)) := hide (fun o => hbel.alloc hbel.size _)
          have hls : lastS l c (k + 1) = if l[k].cl = c then l[k].sq else lastS l c k := by show (if (eAt l k).cl = c then _ else _) = _; rw [eAt_eq hlt]
          clear hd hd0 ex
          by_cases heq : l[k].cl = c
          · rw [if_pos heq] at hls
            have HL := hide hls
            clear hls
            go_wp2
            refine ⟨⟨k + 1, by omega, by go_num, by rw [HL.out], HBx.out _⟩, by simp [intOf]; omega⟩
          · rw [if_neg heq] at hls
            have HL := hide hls
            clear hls
            go_wp2
            refine ⟨⟨k + 1, by omega, by go_num, by rw [HL.out], HBx.out _⟩, by simp [intOf]; omega⟩
        · obtain rfl : k = l.length := by omega
          have HB2 := hide (HB1.out.trans (hbel.mono HB1.out.size))
          clear hbel
          go_wp2
          go_ret2
          exact ⟨rfl, HB2.out⟩
    · rw [decide_eq_false hc] at I ⊢
      simp only [Bool.and_false]
      clear hc
      go_enter Tryd.func26, Tryd.ntmps26
      go_wp2_with fail
      rw [← hw0]
      clear hw0
      refine GS.out.mono ?_
      rintro e w2 ⟨rfl, hb2⟩
      have HB2 := hide (HB.out.trans (hb2.mono HB.out.size))
      clear hb2
      go_wp2_with fail
      refine (I.out w2).mono ?_
      rintro e w3 ⟨rfl, hw3⟩
      obtain rfl := hw3.symm
      go_wp2
      go_ret2
      exact ⟨rfl, HB2.out⟩

set_option maxRecDepth 100000 in
set_option maxHeartbeats 4000000 in
theorem textAtS {S : Nat → Prop} {w : World} {v : Value} {s t : ByteArray} {l : List En} (n : Int) (h : ER S w v l) (hm : SmE l) (hss : s.size ≤ 1048576) :
    Calls Tryd.prog 18 #[.agg #[.string s, .string t, v], .int .i64 n] w fun e w' => e = .returned (.tuple #[.string (taT s t l n), .bool (taB s t l n)]) ∧ Below w.heap.size w w' := by
  obtain ⟨a, cap, rfl⟩ := h.shp
  obtain ⟨w1, hw1⟩ : ∃ w1, w1 = w.alloc (.cells #[.string s, .string t, .slice a l.length cap] 24) := ⟨_, rfl⟩
  have hb1 : Below w.heap.size w w1 := by rw [hw1]; exact (Below.refl _ _).alloc (Nat.le_refl _) _
  have cb1 : CB w1 w.heap.size #[.string s, .string t, .slice a l.length cap] := by rw [hw1]; exact CB.new _ _ _
  have GS := hide (goodSvS (s := s) (t := t) (h.later hb1) hm hss)
  have I := hide (fun w => l1In_any n 0 (l.length : Int) w)
  have HH := hide (h.later hb1)
  have HM := hide hm
  have HB := hide hb1
  have HC := hide cb1
  have hlM := hm.1
  unfold taT taB
  clear h hm hb1 cb1
  cases hg : goodSv s t l with
  | false =>
    rw [hg] at GS
    go_enter Tryd.func18, Tryd.ntmps18
    go_wp2_with fail
    rw [← hw1]
    clear hw1
    refine GS.out.mono ?_
    rintro e w2 ⟨rfl, hb2⟩
    have HB2 := hide (HB.out.trans (hb2.mono HB.out.size))
    clear hb2
    go_wp2
    go_ret2
    exact ⟨rfl, HB2.out⟩
  | true =>
    have G := hide (gsv_of hg)
    rw [hg] at GS
    by_cases hn : 0 ≤ n ∧ n ≤ (l.length : Int)
    · rw [decide_eq_true hn] at I ⊢
      simp only [Bool.and_true, if_true]
      obtain ⟨N, rfl⟩ : ∃ N : Nat, n = (N : Int) := ⟨n.toNat, by omega⟩
      have hN : N ≤ l.length := by omega
      rw [Int.toNat_natCast]
      clear hn
      go_enter Tryd.func18, Tryd.ntmps18
      go_wp2_with fail
      rw [← hw1]
      clear hw1
      refine GS.out.mono ?_
      rintro e w2 ⟨rfl, hb2⟩
      have HB2 := hide (HB.out.trans (hb2.mono HB.out.size))
      have TX := hide (textsS (t := t) (HH.out.later hb2) HM.out G.out.st G.out.len (fun i hi => by have := (G.out.eng i hi).2.2; rwa [eAt_eq hi] at this))
      have cb2 := HC.out.later hb2
      have k0 := cb2.cell 0 rfl
      have k1 := cb2.cell 1 rfl
      have k2 := cb2.cell 2 rfl
      simp only [List.getElem_toArray, List.getElem_cons_succ, List.getElem_cons_zero] at k0 k1 k2
      clear hb2 cb2
      go_wp2_with fail
      refine (I.out w2).mono ?_
      rintro e w3 ⟨rfl, hw3⟩
      obtain rfl := hw3.symm
      go_wp2_with fail
      refine TX.out.mono ?_
      rintro e w4 ⟨hy, -, hb4⟩
      obtain ⟨x, rfl, hx⟩ := hy G.out.fit
      have HB4 := hide (HB2.out.trans (hb4.mono HB2.out.size))
      obtain ⟨gx, cx, rfl, x1, x2, -, x3, x4, -⟩ := own_cat hx (by rw [vtk_len]; omega)
      have z0 := x4 N (.string (tx s l N)) (by unfold encSt; rw [List.getElem?_map, vtk_at s l hN]; rfl)
      simp only [vtk_len] at x1 ⊢
      clear hb4 hx x4 hy k0 k1 k2 TX
      go_wp2
      go_ret2
      exact ⟨rfl, HB4.out⟩
    · rw [decide_eq_false hn] at I ⊢
      simp only [Bool.and_false]
      clear hn
      go_enter Tryd.func18, Tryd.ntmps18
      go_wp2_with fail
      rw [← hw1]
      clear hw1
      refine GS.out.mono ?_
      rintro e w2 ⟨rfl, hb2⟩
      have HB2 := hide (HB.out.trans (hb2.mono HB.out.size))
      have cb2 := HC.out.later hb2
      have k2 := cb2.cell 2 rfl
      simp only [List.getElem_toArray, List.getElem_cons_succ, List.getElem_cons_zero] at k2
      clear hb2 cb2
      go_wp2_with fail
      refine (I.out w2).mono ?_
      rintro e w3 ⟨rfl, hw3⟩
      obtain rfl := hw3.symm
      go_wp2
      go_ret2
      exact ⟨rfl, HB2.out⟩

set_option maxRecDepth 100000 in
set_option maxHeartbeats 4000000 in
theorem textAtI {S : Nat → Prop} {w : World} {v : Value} {s t : ByteArray} {l : List En} (n : Int) (h : ER S w v l) (hm : SmE l) (hss : s.size ≤ 1048576) (hT : Tab w) :
    Calls Tryd.prog 19 #[.agg #[.string s, .string t, v], .int .i64 n] w fun e w' => e = .returned (.tuple #[.string (taT s t l n), .bool (taB s t l n)]) ∧ Below w.heap.size w w' := by
  obtain ⟨a, cap, rfl⟩ := h.shp
  obtain ⟨w1, hw1⟩ : ∃ w1, w1 = w.alloc (.cells #[.string s, .string t, .slice a l.length cap] 24) := ⟨_, rfl⟩
  have hb1 : Below w.heap.size w w1 := by rw [hw1]; exact (Below.refl _ _).alloc (Nat.le_refl _) _
  have cb1 : CB w1 w.heap.size #[.string s, .string t, .slice a l.length cap] := by rw [hw1]; exact CB.new _ _ _
  have VS := hide (versionsI (s := s) (t := t) (h.later hb1) hm hss (hT.below hb1))
  have HB := hide hb1
  have HC := hide cb1
  have hlM := hm.1
  unfold taT taB
  clear h hm hb1 cb1 hT
  cases hg : goodSv s t l with
  | false =>
    simp only [Bool.false_and]
    go_enter Tryd.func19, Tryd.ntmps19
    go_wp2_with fail
    rw [← hw1]
    clear hw1
    refine VS.out.mono ?_
    rintro e w2 ⟨x, rfl, -, -, hb2⟩
    rw [hg]
    have HB2 := hide (HB.out.trans (hb2.mono HB.out.size))
    clear hb2 hg
    go_wp2
    go_ret2
    exact ⟨rfl, HB2.out⟩
  | true =>
    by_cases hn : 0 ≤ n ∧ n ≤ (l.length : Int)
    · rw [decide_eq_true hn]
      simp only [Bool.and_true, if_true]
      obtain ⟨N, rfl⟩ : ∃ N : Nat, n = (N : Int) := ⟨n.toNat, by omega⟩
      have hN : N ≤ l.length := by omega
      rw [Int.toNat_natCast]
      clear hn
      go_enter Tryd.func19, Tryd.ntmps19
      go_wp2_with fail
      rw [← hw1]
      clear hw1
      refine VS.out.mono ?_
      rintro e w2 ⟨x, rfl, hx, -, hb2⟩
      have hx := hx hg
      rw [hg]
      obtain ⟨gx, cx, rfl, x1, x2, -, x3, x4, -⟩ := own_cat hx (by rw [vtk_len]; omega)
      have z0 := x4 N (.string (tx s l N)) (by unfold encSt; rw [List.getElem?_map, vtk_at s l hN]; rfl)
      simp only [vtk_len] at x1 ⊢
      have HB2 := hide (HB.out.trans (hb2.mono HB.out.size))
      have cb2 := HC.out.later hb2
      have k2 := cb2.cell 2 rfl
      simp only [List.getElem_toArray, List.getElem_cons_succ, List.getElem_cons_zero] at k2
      have hnn : ¬ ((N : Int) < 0) := by omega
      have hng : ¬ ((l.length : Int) < (N : Int)) := by omega
      clear hb2 hg hx x4 cb2 VS
      go_wp2
      go_ret2
      exact ⟨rfl, HB2.out⟩
    · rw [decide_eq_false hn]
      simp only [Bool.and_false]
      go_enter Tryd.func19, Tryd.ntmps19
      go_wp2_with fail
      rw [← hw1]
      clear hw1
      refine VS.out.mono ?_
      rintro e w2 ⟨x, rfl, -, -, hb2⟩
      rw [hg]
      have HB2 := hide (HB.out.trans (hb2.mono HB.out.size))
      have cb2 := HC.out.later hb2
      have k2 := cb2.cell 2 rfl
      simp only [List.getElem_toArray, List.getElem_cons_succ, List.getElem_cons_zero] at k2
      clear hb2 hg cb2 VS
      by_cases h0 : n < 0
      · clear hn
        go_wp2
        go_ret2
        exact ⟨rfl, HB2.out⟩
      · have h1 : (l.length : Int) < n := by omega
        clear hn
        go_wp2
        go_ret2
        exact ⟨rfl, HB2.out⟩
end Go.Proofs.YtfklbhejfbfmeaaDoor
