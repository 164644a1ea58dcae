/- The contract of the model's own l3Add, on: a Put goes ahead of a Drop. -/
import Derived.Test.YtbmnciejaknonauDoorOpS4
namespace Go.Proofs.YtbmnciejaknonauDoor
open Go.RowKit
open Doc1

/-- One cell that can be written. -/
structure C1 (w : World) (g j : Nat) (v : Value) : Prop where
  c : w.cell? ⟨g, j, none⟩ = some v
  f : w.frozen? ⟨g, j, none⟩ = false
  lt : g < w.heap.size
theorem C1.al {w : World} {g j : Nat} {v : Value} (h : C1 w g j v) (o : Obj) : C1 (w.alloc o) g j v := by
  have hb := Below.heap_alloc w o g h.lt
  exact ⟨(World.cell?_of_block hb).trans h.c, (World.frozen?_of_block hb).trans h.f, by simp; exact Nat.lt_succ_of_lt h.lt⟩
theorem C1.st {w : World} {g j : Nat} {v : Value} (h : C1 w g j v) (i : Nat) (hi : i ≠ j) (u : Value) : C1 (w.setCell ⟨g, i, none⟩ u) g j v :=
  ⟨by rw [World.cell?_setCell_other _ _ _ _ (off_ne hi)]; exact h.c, by rw [World.frozen?_setCell]; exact h.f, by simpa [World.setCell] using h.lt⟩
theorem set3_own {w : World} {B g n k cap : Nat} {a : List Pt} {x : Pt} (p : Pt) (h : POwn w B (.slice (some ⟨g, 0, none⟩) n cap) (a ++ [x])) (hn : n = a.length + 1) (hk : k = a.length) :
    POwn (((w.setCell ⟨g, k * 3, none⟩ (.int .i64 p.keep)).setCell ⟨g, k * 3 + 1, none⟩ (.string p.put)).setCell ⟨g, k * 3 + 2, none⟩ (.string p.drop)) B (.slice (some ⟨g, 0, none⟩) n cap) (a ++ [p]) := by
  subst hk
  have hn' : n = (a ++ [x]).length := by simp [hn]
  have s1 := POwn.set (x' := ⟨p.keep, x.put, x.drop⟩) h hn' 0 (.int .i64 p.keep) (by omega) rfl
  have s2 := POwn.set (x' := ⟨p.keep, p.put, x.drop⟩) s1 (by simp [hn]) 1 (.string p.put) (by omega) rfl
  exact POwn.set (x' := p) s2 (by simp [hn]) 2 (.string p.drop) (by omega) rfl

set_option maxRecDepth 100000 in
set_option maxHeartbeats 4000000 in
theorem l3Add_swap0 (p x : Pt) (g cap B : Nat) (w : World) (h : POwn w B (.slice (some ⟨g, 0, none⟩) (1) cap) ([] ++ [x])) (hL : LastAt w g (0) x) (hB : B ≤ w.heap.size) (hBg : B ≤ g) (_hcap : 1 ≤ cap ∧ cap ≤ maxLen)
    (hk : p.keep = 0) (hd : p.drop.data.toList = []) (hp : p.put.data.toList ≠ []) (hx : x.put.data.toList = []) (hxd : x.drop.data.toList ≠ []) :
    Calls Tryd.prog 70 #[.slice (some ⟨g, 0, none⟩) (1) cap, ptV p] w (AddPost ([] ++ [x]) p B w) := by
  obtain ⟨i0, hi0, hz0, hz1, hz2⟩ := info_parts Tryd.infoPart
  unfold AddPost ptV
  have e : addP ([] ++ [x]) p = ([] ++ [p]) ++ [x] := by
    unfold addP
    rw [if_neg (fun c => hp c.2.1), List.getLast?_append]
    simp only [List.getLast?_singleton, Option.some_or, List.dropLast_concat]
    rw [if_neg (fun c => by omega), if_neg (fun c => c.1 hd), if_neg (fun c => c.2 hx), if_pos ⟨hp, hxd⟩]
    rfl
  rw [e]
  have k0 : (p.keep == 0) = true := by simpa using hk
  have hk0 : ¬ (0 < p.keep) := by omega
  have e1 := emp_b p.put
  have e2 := emp_b p.drop
  have e3 := emp_b x.put
  have e4 := emp_b x.drop
  rw [decide_eq_false hp] at e1
  rw [decide_eq_true hd] at e2
  rw [decide_eq_true hx] at e3
  rw [decide_eq_false hxd] at e4
  have L1 := hL.al (.cells #[.int .i64 p.keep, .string p.put, .string p.drop] 67)
  have L2 := L1.al (.cells #[.int .i64 x.keep, .string x.put, .string x.drop] 67)

  have s3 := set3_own (k := 0) p h (by simp) (by simp)
  have m1 := (((C1.mk (v := .string x.put) hL.c1 (hL.fz _) hL.lt).st ((0) * 3) (by omega) (.int .i64 p.keep)).al (.cells #[.int .i64 p.keep, .string p.put, .string p.drop] 67)).al (.cells #[.int .i64 x.keep, .string x.put, .string x.drop] 67)
  have m2 := ((((C1.mk (v := .string x.drop) hL.c2 (hL.fz _) hL.lt).st ((0) * 3) (by omega) (.int .i64 p.keep)).st ((0) * 3 + 1) (by omega) (.string p.put)).al (.cells #[.int .i64 p.keep, .string p.put, .string p.drop] 67)).al (.cells #[.int .i64 x.keep, .string x.put, .string x.drop] 67)
  have m1c := m1.c
  have m1f := m1.f
  have m2c := m2.c
  have m2f := m2.f
  have o1 : (((w.setCell ⟨g, (0) * 3, none⟩ (.int .i64 p.keep)).setCell ⟨g, (0) * 3 + 1, none⟩ (.string p.put)).setCell ⟨g, (0) * 3 + 2, none⟩ (.string p.drop)).ownsRow B 67 3 (.slice (some ⟨g, 0, none⟩) (1) cap) (1) (encP ([] ++ [p])) := by unfold POwn at s3; simpa using s3
  have o2 := (o1.alloc (.cells #[.int .i64 p.keep, .string p.put, .string p.drop] 67)).alloc (.cells #[.int .i64 x.keep, .string x.put, .string x.drop] 67)
  have hbS := (((((Below.refl B w).setCell (p := ⟨g, (0) * 3, none⟩) hBg (.int .i64 p.keep)).setCell (p := ⟨g, (0) * 3 + 1, none⟩) hBg (.string p.put)).setCell (p := ⟨g, (0) * 3 + 2, none⟩) hBg (.string p.drop)).alloc (by simpa [World.setCell] using hB) (.cells #[.int .i64 p.keep, .string p.put, .string p.drop] 67)).alloc (by simp [World.setCell]; omega) (.cells #[.int .i64 x.keep, .string x.put, .string x.drop] 67)
  have q0 := L1.c0
  have q1 := L1.c1
  have q2 := L1.c2
  have r0 := L2.c0
  have r1 := L2.c1
  have r2 := L2.c2
  have f0 := L2.fz ((0) * 3)
  have f1 := L2.fz ((0) * 3 + 1)
  have f2 := L2.fz ((0) * 3 + 2)
  have hgl := hL.lt
  simp only [Nat.zero_mul, Nat.zero_add] at q0 q1 q2 r0 r1 r2 f0 f1 f2 o2 hbS m1c m1f m2c m2f
  clear h hL L1 L2 o1 s3 hk m1 m2
  go_enter Tryd.func70, Tryd.ntmps70
  go_wp2_with (at_builtin; refine wpList_append_own _ rfl _ _ 34 rfl B 67 i0 (.agg #[.int .i64 0, .string ⟨#[]⟩, .string ⟨#[]⟩]) 3 40 Tryd.underlying34 hi0 hz0 hz1 hz2 rfl (by decide) _ _ _ rfl (o2.alloc _) ⟨w.heap.size + 1 + 1, 0, none⟩ 1 1 [.int .i64 x.keep, .string x.put, .string x.drop] rfl rfl ?c1 ?c2 ?c3 ?c4 ?c5 ?_)
  all_goals try (first | exact cell3_at _ _ (by simp [World.setCell]) _ _ _ _ | exact ⟨rfl, rfl, rfl⟩ | rfl | (intro u hu; simp at hu; rcases hu with rfl | rfl | rfl <;> rfl) | (unfold maxLen; omega) | omega | (simp [World.setCell]; omega))
  · intro v' w2 hown' hgrow _
    have hb2 := below_append hbS o2 (by simp [World.setCell]; omega) hgrow
    have HO : Hid (POwn w2 B v' (([] ++ [p]) ++ [x])) := hide (POwn.app (l := [] ++ [p]) hown')
    clear hown' hgrow
    go_wp2
    go_ret
    exact ⟨_, rfl, HO.out, hb2⟩

set_option maxRecDepth 100000 in
set_option maxHeartbeats 4000000 in
theorem l3Add_swap (p x : Pt) (a : List Pt) (y : Pt) (hal : a.length ≤ 100000) (g cap B : Nat) (w : World) (h : POwn w B (.slice (some ⟨g, 0, none⟩) (a.length + 1 + 1) cap) ((a ++ [y]) ++ [x])) (hL : LastAt w g (a.length + 1) x) (hB : B ≤ w.heap.size) (hBg : B ≤ g) (_hcap : a.length + 1 + 1 ≤ cap ∧ cap ≤ maxLen)
    (hk : p.keep = 0) (hd : p.drop.data.toList = []) (hp : p.put.data.toList ≠ []) (hx : x.put.data.toList = []) (hxd : x.drop.data.toList ≠ []) (hy : y.put.data.toList = []) (hyc : w.cell? ⟨g, a.length * 3 + 1, none⟩ = some (.string y.put)) :
    Calls Tryd.prog 70 #[.slice (some ⟨g, 0, none⟩) (a.length + 1 + 1) cap, ptV p] w (AddPost ((a ++ [y]) ++ [x]) p B w) := by
  obtain ⟨i0, hi0, hz0, hz1, hz2⟩ := info_parts Tryd.infoPart
  unfold AddPost ptV
  have e : addP ((a ++ [y]) ++ [x]) p = ((a ++ [y]) ++ [p]) ++ [x] := by
    unfold addP
    rw [if_neg (fun c => hp c.2.1), List.getLast?_append]
    simp only [List.getLast?_singleton, Option.some_or, List.dropLast_concat]
    rw [if_neg (fun c => by omega), if_neg (fun c => c.1 hd), if_neg (fun c => c.2 hx), if_pos ⟨hp, hxd⟩]
    rw [List.getLast?_append]
    simp only [List.getLast?_singleton, Option.some_or]
    rw [if_neg (fun c => c hy)]
    simp
  rw [e]
  have k0 : (p.keep == 0) = true := by simpa using hk
  have hk0 : ¬ (0 < p.keep) := by omega
  have e1 := emp_b p.put
  have e2 := emp_b p.drop
  have e3 := emp_b x.put
  have e4 := emp_b x.drop
  rw [decide_eq_false hp] at e1
  rw [decide_eq_true hd] at e2
  rw [decide_eq_true hx] at e3
  rw [decide_eq_false hxd] at e4
  have L1 := hL.al (.cells #[.int .i64 p.keep, .string p.put, .string p.drop] 67)
  have L2 := L1.al (.cells #[.int .i64 x.keep, .string x.put, .string x.drop] 67)
  have e5 := emp_b y.put
  rw [decide_eq_true hy] at e5
  have hn1 : (1 : Int) < (a.length : Int) + 1 + 1 := by omega
  have hy2 : ((w.alloc (.cells #[.int .i64 p.keep, .string p.put, .string p.drop] 67)).alloc (.cells #[.int .i64 x.keep, .string x.put, .string x.drop] 67)).cell? ⟨g, a.length * 3 + 1, none⟩ = some (.string y.put) := by
    refine (World.cell?_of_block (Below.heap_alloc _ _ _ ?_)).trans ((World.cell?_of_block (Below.heap_alloc _ _ _ hL.lt)).trans hyc)
    have := hL.lt
    simp; omega
  have s3 := set3_own (k := a.length + 1) p h (by simp) (by simp)
  have m1 := (((C1.mk (v := .string x.put) hL.c1 (hL.fz _) hL.lt).st ((a.length + 1) * 3) (by omega) (.int .i64 p.keep)).al (.cells #[.int .i64 p.keep, .string p.put, .string p.drop] 67)).al (.cells #[.int .i64 x.keep, .string x.put, .string x.drop] 67)
  have m2 := ((((C1.mk (v := .string x.drop) hL.c2 (hL.fz _) hL.lt).st ((a.length + 1) * 3) (by omega) (.int .i64 p.keep)).st ((a.length + 1) * 3 + 1) (by omega) (.string p.put)).al (.cells #[.int .i64 p.keep, .string p.put, .string p.drop] 67)).al (.cells #[.int .i64 x.keep, .string x.put, .string x.drop] 67)
  have m1c := m1.c
  have m1f := m1.f
  have m2c := m2.c
  have m2f := m2.f
  have o1 : (((w.setCell ⟨g, (a.length + 1) * 3, none⟩ (.int .i64 p.keep)).setCell ⟨g, (a.length + 1) * 3 + 1, none⟩ (.string p.put)).setCell ⟨g, (a.length + 1) * 3 + 2, none⟩ (.string p.drop)).ownsRow B 67 3 (.slice (some ⟨g, 0, none⟩) (a.length + 1 + 1) cap) (a.length + 1 + 1) (encP ((a ++ [y]) ++ [p])) := by unfold POwn at s3; simpa using s3
  have o2 := (o1.alloc (.cells #[.int .i64 p.keep, .string p.put, .string p.drop] 67)).alloc (.cells #[.int .i64 x.keep, .string x.put, .string x.drop] 67)
  have hbS := (((((Below.refl B w).setCell (p := ⟨g, (a.length + 1) * 3, none⟩) hBg (.int .i64 p.keep)).setCell (p := ⟨g, (a.length + 1) * 3 + 1, none⟩) hBg (.string p.put)).setCell (p := ⟨g, (a.length + 1) * 3 + 2, none⟩) hBg (.string p.drop)).alloc (by simpa [World.setCell] using hB) (.cells #[.int .i64 p.keep, .string p.put, .string p.drop] 67)).alloc (by simp [World.setCell]; omega) (.cells #[.int .i64 x.keep, .string x.put, .string x.drop] 67)
  have q0 := L1.c0
  have q1 := L1.c1
  have q2 := L1.c2
  have r0 := L2.c0
  have r1 := L2.c1
  have r2 := L2.c2
  have f0 := L2.fz ((a.length + 1) * 3)
  have f1 := L2.fz ((a.length + 1) * 3 + 1)
  have f2 := L2.fz ((a.length + 1) * 3 + 2)
  have hgl := hL.lt
  clear h hL L1 L2 o1 s3 hk m1 m2
  go_enter Tryd.func70, Tryd.ntmps70
  go_wp2_with (at_builtin; refine wpList_append_own _ rfl _ _ 34 rfl B 67 i0 (.agg #[.int .i64 0, .string ⟨#[]⟩, .string ⟨#[]⟩]) 3 40 Tryd.underlying34 hi0 hz0 hz1 hz2 rfl (by decide) _ _ _ rfl (o2.alloc _) ⟨w.heap.size + 1 + 1, 0, none⟩ 1 1 [.int .i64 x.keep, .string x.put, .string x.drop] rfl rfl ?c1 ?c2 ?c3 ?c4 ?c5 ?_)
  all_goals try (first | exact cell3_at _ _ (by simp [World.setCell]) _ _ _ _ | exact ⟨rfl, rfl, rfl⟩ | rfl | (intro u hu; simp at hu; rcases hu with rfl | rfl | rfl <;> rfl) | (unfold maxLen; omega) | omega | (simp [World.setCell]; omega))
  · intro v' w2 hown' hgrow _
    have hb2 := below_append hbS o2 (by simp [World.setCell]; omega) hgrow
    have HO : Hid (POwn w2 B v' (((a ++ [y]) ++ [p]) ++ [x])) := hide (POwn.app (l := (a ++ [y]) ++ [p]) (by rw [show ((a ++ [y]) ++ [p]).length = a.length + 1 + 1 by simp, show (a ++ [y]) ++ [p] = a ++ [y, p] by simp]; exact hown'))
    clear hown' hgrow
    go_wp2
    go_ret
    exact ⟨_, rfl, HO.out, hb2⟩
set_option maxRecDepth 100000 in
set_option maxHeartbeats 2000000 in
theorem l3Add_join (p x y : Pt) (a : List Pt) (g cap B : Nat) (w : World) (h : POwn w B (.slice (some ⟨g, 0, none⟩) (a.length + 1 + 1) cap) (a ++ [y, x])) (hL : LastAt w g (a.length + 1) x) (hY : C1 w g (a.length * 3 + 1) (.string y.put)) (hB : B ≤ w.heap.size) (hBg : B ≤ g) (hal : a.length ≤ 100000) (_hcap : a.length + 1 + 1 ≤ cap ∧ cap ≤ maxLen)
    (hk : p.keep = 0) (hd : p.drop.data.toList = []) (hp : p.put.data.toList ≠ []) (hx : x.put.data.toList = []) (hxd : x.drop.data.toList ≠ []) (hy : y.put.data.toList ≠ []) (h1 : p.put.size ≤ 1000000) (h2 : y.put.size ≤ 1000000) :
    Calls Tryd.prog 70 #[.slice (some ⟨g, 0, none⟩) (a.length + 1 + 1) cap, ptV p] w (AddPost (a ++ [y, x]) p B w) := by
  unfold AddPost ptV
  have e : addP (a ++ [y, x]) p = a ++ [⟨y.keep, y.put ++ p.put, y.drop⟩, x] := by
    have e0 : a ++ [y, x] = (a ++ [y]) ++ [x] := by simp
    rw [e0]
    unfold addP
    rw [if_neg (fun c => hp c.2.1), List.getLast?_append]
    simp only [List.getLast?_singleton, Option.some_or, List.dropLast_concat]
    rw [if_neg (fun c => by omega), if_neg (fun c => c.1 hd), if_neg (fun c => c.2 hx), if_pos ⟨hp, hxd⟩, List.getLast?_append]
    simp only [List.getLast?_singleton, Option.some_or]
    rw [if_pos hy]
  rw [e]
  have k0 : (p.keep == 0) = true := by simpa using hk
  have hk0 : ¬ (0 < p.keep) := by omega
  have e1 := emp_b p.put
  have e2 := emp_b p.drop
  have e3 := emp_b x.put
  have e4 := emp_b x.drop
  have e5 := emp_b y.put
  rw [decide_eq_false hp] at e1
  rw [decide_eq_true hd] at e2
  rw [decide_eq_true hx] at e3
  rw [decide_eq_false hxd] at e4
  rw [decide_eq_false hy] at e5
  have hn1 : (1 : Int) < (a.length : Int) + 1 + 1 := by omega
  have L1 := hL.al (.cells #[.int .i64 p.keep, .string p.put, .string p.drop] 67)
  have Y2 := (hY.al (.cells #[.int .i64 p.keep, .string p.put, .string p.drop] 67)).al (.cells #[.int .i64 x.keep, .string x.put, .string x.drop] 67)
  have o3 := hide (fun o o' => World.ownsRow.alloc (World.ownsRow.alloc (POwn.set (x' := ⟨y.keep, y.put ++ p.put, y.drop⟩) h (by simp) 1 (.string (y.put ++ p.put)) (by omega) rfl) o) o')
  have hb3 := hide (fun o o' => (((Below.refl B w).setCell (p := ⟨g, a.length * 3 + 1, none⟩) hBg (.string (y.put ++ p.put))).alloc (by simpa [World.setCell] using hB) o).alloc (by simp [World.setCell]; omega) o')
  have q0 := L1.c0
  have q1 := L1.c1
  have q2 := L1.c2
  have r0 := Y2.c
  have f0 := Y2.f
  have hgl := hL.lt
  clear h hL L1 Y2 hY hk
  go_enter Tryd.func70, Tryd.ntmps70
  go_wp2_with fail
  go_region
  all_goals
    go_wp2
    go_ret
    exact ⟨_, rfl, o3.out _ _, (hb3.out _ _).drew⟩
end Go.Proofs.YtbmnciejaknonauDoor
