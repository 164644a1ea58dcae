/- The contract of the model's own l3Add, on: where another part is put behind, and where a Put goes ahead of a Drop. -/
import Derived.Test.YtbmnciejaknonauDoorOpS3
namespace Go.Proofs.YtbmnciejaknonauDoor
open Go.RowKit
open Doc1

set_option maxRecDepth 100000 in
set_option maxHeartbeats 2000000 in
theorem l3Add_newKeep (p x : Pt) (a : List Pt) (g cap B : Nat) (w : World) (h : POwn w B (.slice (some ⟨g, 0, none⟩) (a.length + 1) cap) (a ++ [x])) (hL : LastAt w g a.length x) (hB : B ≤ w.heap.size) (hal : a.length ≤ 100000) (_hcap : a.length + 1 ≤ cap ∧ cap ≤ maxLen)
    (hp : 0 < p.keep) (hpu : p.put.data.toList = []) (hd : p.drop.data.toList = []) (hx : ¬ 0 < x.keep) :
    Calls Tryd.prog 70 #[.slice (some ⟨g, 0, none⟩) (a.length + 1) cap, ptV p] w (AddPost (a ++ [x]) p B w) := by
  obtain ⟨i0, hi0, hz0, hz1, hz2⟩ := info_parts Tryd.infoPart
  unfold AddPost ptV
  have e : addP (a ++ [x]) p = (a ++ [x]) ++ [p] := by
    unfold addP
    rw [if_neg (fun c => by omega), List.getLast?_append]
    simp only [List.getLast?_singleton, Option.some_or]
    rw [if_neg (fun c => hx c.2), if_neg (fun c => c.1 hd), if_neg (fun c => c.1 hpu), if_neg (fun c => c.1 hpu)]
  rw [e]
  have k0 : (p.keep == 0) = false := by rw [beq_eq_false_iff_ne]; omega
  have e1 := emp_b p.put
  have e2 := emp_b p.drop
  rw [decide_eq_true hpu] at e1
  rw [decide_eq_true hd] at e2
  have L1 := hL.al (.cells #[.int .i64 p.keep, .string p.put, .string p.drop] 67)
  have o1 : w.ownsRow B 67 3 (.slice (some ⟨g, 0, none⟩) (a.length + 1) cap) (a.length + 1) (encP (a ++ [x])) := by unfold POwn at h; simpa using h
  have o2 := (o1.alloc (.cells #[.int .i64 p.keep, .string p.put, .string p.drop] 67)).alloc (.cells #[.int .i64 x.keep, .string x.put, .string x.drop] 67)
  have q0 := L1.c0
  have q1 := L1.c1
  have q2 := L1.c2
  have hgl := hL.lt
  clear h hL L1 o1
  go_enter Tryd.func70, Tryd.ntmps70
  go_wp2_with (at_builtin; refine wpList_append_own _ rfl _ _ 34 rfl B 67 i0 (.agg #[.int .i64 0, .string ⟨#[]⟩, .string ⟨#[]⟩]) 3 40 Tryd.underlying34 hi0 hz0 hz1 hz2 rfl (by decide) _ _ _ rfl (o2.alloc _) ⟨w.heap.size + 1 + 1, 0, none⟩ 1 1 [.int .i64 p.keep, .string p.put, .string p.drop] rfl rfl ?c1 ?c2 ?c3 ?c4 ?c5 ?_)
  all_goals try (first | exact cell3_at _ _ (by simp) _ _ _ _ | exact ⟨rfl, rfl, rfl⟩ | rfl | (intro u hu; simp at hu; rcases hu with rfl | rfl | rfl <;> rfl) | (unfold maxLen; omega) | omega | (simp; omega))
  · intro v' w2 hown' hgrow _
    have hb2 := below_append (((Below.refl B w).alloc hB _).alloc (by simp; omega) _) o2 (by simp; omega) hgrow
    have HO : Hid (POwn w2 B v' ((a ++ [x]) ++ [p])) := hide (POwn.app (l := a ++ [x]) (by rw [List.length_append]; exact hown'))
    clear hown' hgrow
    go_wp2
    go_ret
    exact ⟨_, rfl, HO.out, hb2⟩

set_option maxRecDepth 100000 in
set_option maxHeartbeats 2000000 in
theorem l3Add_newDrop (p x : Pt) (a : List Pt) (g cap B : Nat) (w : World) (h : POwn w B (.slice (some ⟨g, 0, none⟩) (a.length + 1) cap) (a ++ [x])) (hL : LastAt w g a.length x) (hB : B ≤ w.heap.size) (hal : a.length ≤ 100000) (_hcap : a.length + 1 ≤ cap ∧ cap ≤ maxLen)
    (hk : p.keep = 0) (hpu : p.put.data.toList = []) (hp : p.drop.data.toList ≠ []) (hx : x.drop.data.toList = []) :
    Calls Tryd.prog 70 #[.slice (some ⟨g, 0, none⟩) (a.length + 1) cap, ptV p] w (AddPost (a ++ [x]) p B w) := by
  obtain ⟨i0, hi0, hz0, hz1, hz2⟩ := info_parts Tryd.infoPart
  unfold AddPost ptV
  have e : addP (a ++ [x]) p = (a ++ [x]) ++ [p] := by
    unfold addP
    rw [if_neg (fun c => hp c.2.2), List.getLast?_append]
    simp only [List.getLast?_singleton, Option.some_or]
    rw [if_neg (fun c => by omega), if_neg (fun c => c.2 hx), if_neg (fun c => c.1 hpu), if_neg (fun c => c.1 hpu)]
  rw [e]
  have k0 : (p.keep == 0) = true := by simpa using hk
  have hk0 : ¬ (0 < p.keep) := by omega
  have e1 := emp_b p.put
  have e2 := emp_b p.drop
  have e3 := emp_b x.drop
  rw [decide_eq_true hpu] at e1
  rw [decide_eq_false hp] at e2
  rw [decide_eq_true hx] at e3
  clear hk
  have L1 := hL.al (.cells #[.int .i64 p.keep, .string p.put, .string p.drop] 67)
  have o1 : w.ownsRow B 67 3 (.slice (some ⟨g, 0, none⟩) (a.length + 1) cap) (a.length + 1) (encP (a ++ [x])) := by unfold POwn at h; simpa using h
  have o2 := (o1.alloc (.cells #[.int .i64 p.keep, .string p.put, .string p.drop] 67)).alloc (.cells #[.int .i64 x.keep, .string x.put, .string x.drop] 67)
  have q0 := L1.c0
  have q1 := L1.c1
  have q2 := L1.c2
  have hgl := hL.lt
  clear h hL L1 o1
  go_enter Tryd.func70, Tryd.ntmps70
  go_wp2_with (at_builtin; refine wpList_append_own _ rfl _ _ 34 rfl B 67 i0 (.agg #[.int .i64 0, .string ⟨#[]⟩, .string ⟨#[]⟩]) 3 40 Tryd.underlying34 hi0 hz0 hz1 hz2 rfl (by decide) _ _ _ rfl (o2.alloc _) ⟨w.heap.size + 1 + 1, 0, none⟩ 1 1 [.int .i64 p.keep, .string p.put, .string p.drop] rfl rfl ?c1 ?c2 ?c3 ?c4 ?c5 ?_)
  all_goals try (first | exact cell3_at _ _ (by simp) _ _ _ _ | exact ⟨rfl, rfl, rfl⟩ | rfl | (intro u hu; simp at hu; rcases hu with rfl | rfl | rfl <;> rfl) | (unfold maxLen; omega) | omega | (simp; omega))
  · intro v' w2 hown' hgrow _
    have hb2 := below_append (((Below.refl B w).alloc hB _).alloc (by simp; omega) _) o2 (by simp; omega) hgrow
    have HO : Hid (POwn w2 B v' ((a ++ [x]) ++ [p])) := hide (POwn.app (l := a ++ [x]) (by rw [List.length_append]; exact hown'))
    clear hown' hgrow
    go_wp2
    go_ret
    exact ⟨_, rfl, HO.out, hb2⟩

set_option maxRecDepth 100000 in
set_option maxHeartbeats 2000000 in
theorem l3Add_newPut (p x : Pt) (a : List Pt) (g cap B : Nat) (w : World) (h : POwn w B (.slice (some ⟨g, 0, none⟩) (a.length + 1) cap) (a ++ [x])) (hL : LastAt w g a.length x) (hB : B ≤ w.heap.size) (hal : a.length ≤ 100000) (_hcap : a.length + 1 ≤ cap ∧ cap ≤ maxLen)
    (hk : p.keep = 0) (hd : p.drop.data.toList = []) (hp : p.put.data.toList ≠ []) (hx : x.put.data.toList = []) (hxd : x.drop.data.toList = []) :
    Calls Tryd.prog 70 #[.slice (some ⟨g, 0, none⟩) (a.length + 1) cap, ptV p] w (AddPost (a ++ [x]) p B w) := by
  obtain ⟨i0, hi0, hz0, hz1, hz2⟩ := info_parts Tryd.infoPart
  unfold AddPost ptV
  have e : addP (a ++ [x]) p = (a ++ [x]) ++ [p] := by
    unfold addP
    rw [if_neg (fun c => hp c.2.1), List.getLast?_append]
    simp only [List.getLast?_singleton, Option.some_or]
    rw [if_neg (fun c => by omega), if_neg (fun c => c.1 hd), if_neg (fun c => c.2 hx), if_neg (fun c => c.2 hxd)]
  rw [e]
  have k0 : (p.keep == 0) = true := by simpa using hk
  have hk0 : ¬ (0 < p.keep) := by omega
  have e1 := emp_b p.put
  have e2 := emp_b p.drop
  have e3 := emp_b x.put
  have e4 := emp_b x.drop
  rw [decide_eq_false hp] at e1
  rw [decide_eq_true hd] at e2
  rw [decide_eq_true hx] at e3
  rw [decide_eq_true hxd] at e4
  clear hk
  have L1 := hL.al (.cells #[.int .i64 p.keep, .string p.put, .string p.drop] 67)
  have o1 : w.ownsRow B 67 3 (.slice (some ⟨g, 0, none⟩) (a.length + 1) cap) (a.length + 1) (encP (a ++ [x])) := by unfold POwn at h; simpa using h
  have o2 := (o1.alloc (.cells #[.int .i64 p.keep, .string p.put, .string p.drop] 67)).alloc (.cells #[.int .i64 x.keep, .string x.put, .string x.drop] 67)
  have q0 := L1.c0
  have q1 := L1.c1
  have q2 := L1.c2
  have hgl := hL.lt
  clear h hL L1 o1
  go_enter Tryd.func70, Tryd.ntmps70
  go_wp2_with (at_builtin; refine wpList_append_own _ rfl _ _ 34 rfl B 67 i0 (.agg #[.int .i64 0, .string ⟨#[]⟩, .string ⟨#[]⟩]) 3 40 Tryd.underlying34 hi0 hz0 hz1 hz2 rfl (by decide) _ _ _ rfl (o2.alloc _) ⟨w.heap.size + 1 + 1, 0, none⟩ 1 1 [.int .i64 p.keep, .string p.put, .string p.drop] rfl rfl ?c1 ?c2 ?c3 ?c4 ?c5 ?_)
  all_goals try (first | exact cell3_at _ _ (by simp) _ _ _ _ | exact ⟨rfl, rfl, rfl⟩ | rfl | (intro u hu; simp at hu; rcases hu with rfl | rfl | rfl <;> rfl) | (unfold maxLen; omega) | omega | (simp; omega))
  · intro v' w2 hown' hgrow _
    have hb2 := below_append (((Below.refl B w).alloc hB _).alloc (by simp; omega) _) o2 (by simp; omega) hgrow
    have HO : Hid (POwn w2 B v' ((a ++ [x]) ++ [p])) := hide (POwn.app (l := a ++ [x]) (by rw [List.length_append]; exact hown'))
    clear hown' hgrow
    go_wp2
    go_ret
    exact ⟨_, rfl, HO.out, hb2⟩
end Go.Proofs.YtbmnciejaknonauDoor
