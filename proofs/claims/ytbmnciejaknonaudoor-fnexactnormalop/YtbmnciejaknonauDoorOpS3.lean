/- The contract of the model's own l3Add. -/
import Derived.Test.YtbmnciejaknonauDoorOpS2
import Derived.Test.YtbmnciejaknonauDoorOps3
namespace Go.Proofs.YtbmnciejaknonauDoor
open Go.RowKit
open Doc1

theorem Tryd.infoPart : (Tryd.prog.info? 67).map (fun i => (i.zero, i.size, i.bytes)) = some (some (.agg #[.int .i64 0, .string ⟨#[]⟩, .string ⟨#[]⟩]), 3, 40) := by kernel_rfl
theorem addr0 (g j : Nat) : (⟨g, 0, none⟩ : Addr).add j = ⟨g, j, none⟩ := by unfold Addr.add; split <;> simp_all
theorem cell3_at (W : World) (k : Nat) (hk : k = W.heap.size) (a b c : Value) (t : TypeId) : ∀ j u, [a, b, c][j]? = some u → (W.alloc (.cells #[a, b, c] t)).cell? ((⟨k, 0, none⟩ : Addr).add j) = some u := by
  subst hk
  intro j u hu
  have hh := heap_alloc_new W (.cells #[a, b, c] t)
  rw [addr0]
  unfold World.cell?
  rw [hh]
  match j, hu with
  | 0, hu => simpa using hu
  | 1, hu => simpa using hu
  | 2, hu => simpa using hu
theorem POwn.app {w : World} {B : Nat} {v : Value} {l : List Pt} {p : Pt} (h : w.ownsRow B 67 3 v (l.length + 1) (encP l ++ ptC p)) : POwn w B v (l ++ [p]) := by
  unfold POwn
  rw [encP_app, List.length_append]
  exact h
/-- One cell of a row is turned. -/
theorem encP_set (a : List Pt) (x x' : Pt) (b : List Pt) (f : Nat) (u : Value) (hf : f < 3) (h : (ptC x).set f u = ptC x') : (encP (a ++ x :: b)).set (a.length * 3 + f) u = encP (a ++ x' :: b) := by
  have e : ∀ y : Pt, encP (a ++ y :: b) = encP a ++ (ptC y ++ encP b) := fun y => by simp [encP]
  rw [e, e, List.set_append_right _ _ (by rw [encP_len]; omega), encP_len, show a.length * 3 + f - a.length * 3 = f by omega, List.set_append_left _ _ (by simp [ptC]; omega), h]
theorem POwn.set {w : World} {B g n cap : Nat} {a b : List Pt} {x x' : Pt} (h : POwn w B (.slice (some ⟨g, 0, none⟩) n cap) (a ++ x :: b)) (hn : n = (a ++ x :: b).length) (f : Nat) (u : Value) (hf : f < 3) (hx : (ptC x).set f u = ptC x') : POwn (w.setCell ⟨g, a.length * 3 + f, none⟩ u) B (.slice (some ⟨g, 0, none⟩) n cap) (a ++ x' :: b) := by
  subst hn
  unfold POwn at h ⊢
  have := (World.ownsRow.stored h (a.length * 3 + f) u).1
  rw [encP_set a x x' b f u hf hx] at this
  have e : (a ++ x' :: b).length = (a ++ x :: b).length := by simp
  rw [e]
  exact this
theorem POwn.shape {w : World} {B : Nat} {v : Value} {l : List Pt} (h : POwn w B v l) (hl : l ≠ []) : ∃ g cap, v = .slice (some ⟨g, 0, none⟩) l.length cap ∧ l.length ≤ cap ∧ cap ≤ maxLen ∧ B ≤ g ∧ g < w.heap.size ∧ CLs w g (encP l) ∧ Blk w g (l.length * 3) := by
  obtain ⟨g, cap, h1, h2, h3, h4, h5, h6, h7⟩ := own_cat h (List.length_pos_iff.2 hl)
  exact ⟨g, cap, h1, h2, h3, h4, h5, h6, by rw [← encP_len]; exact h7⟩
/-- What the model's l3Add leaves. -/
def AddPost (l : List Pt) (p : Pt) (B : Nat) (w : World) (e : Ending) (w' : World) : Prop := ∃ v', e = .returned v' ∧ POwn w' B v' (addP l p) ∧ Below B w w'

set_option maxRecDepth 100000 in
set_option maxHeartbeats 2000000 in
theorem l3Add_none (p : Pt) (a : Option Addr) (n cap B : Nat) (l : List Pt) (w : World) (h : POwn w B (.slice a n cap) l) (hB : B ≤ w.heap.size) (hp : p.keep = 0 ∧ p.put.data.toList = [] ∧ p.drop.data.toList = []) :
    Calls Tryd.prog 70 #[.slice a n cap, ptV p] w (AddPost l p B w) := by
  unfold AddPost ptV
  have e : addP l p = l := if_pos hp
  rw [e]
  have k0 : (p.keep == 0) = true := by simpa using hp.1
  have e1 := emp_b p.put
  have e2 := emp_b p.drop
  rw [decide_eq_true hp.2.1] at e1
  rw [decide_eq_true hp.2.2] at e2
  have H := hide h
  clear h
  go_enter Tryd.func70, Tryd.ntmps70
  go_wp2
  go_ret
  exact ⟨_, rfl, World.ownsRow.alloc H.out _, (Below.refl _ _).alloc hB _⟩

set_option maxRecDepth 100000 in
set_option maxHeartbeats 2000000 in
theorem l3Add_first (p : Pt) (a : Option Addr) (cap B : Nat) (w : World) (h : POwn w B (.slice a 0 cap) []) (hB : B ≤ w.heap.size) (hp : ¬ (p.keep = 0 ∧ p.put.data.toList = [] ∧ p.drop.data.toList = [])) :
    Calls Tryd.prog 70 #[.slice a 0 cap, ptV p] w (AddPost [] p B w) := by
  obtain ⟨i0, hi0, hz0, hz1, hz2⟩ := info_parts Tryd.infoPart
  unfold AddPost ptV
  have e : addP [] p = [p] := by unfold addP; rw [if_neg hp]; rfl
  rw [e]
  have k0 : (p.keep == 0) = decide (p.keep = 0) := by by_cases h : p.keep = 0 <;> simp [h]
  have e1 := emp_b p.put
  have e2 := emp_b p.drop
  have hb : (decide (p.keep = 0) && (decide (p.put.data.toList = []) && decide (p.drop.data.toList = []))) = false := by
    rw [← Bool.not_eq_true]; simp only [Bool.and_eq_true, decide_eq_true_eq]; exact hp
  have own := h
  unfold POwn at own
  generalize decide (p.keep = 0) = b0 at *
  generalize decide (p.put.data.toList = []) = b1 at *
  generalize decide (p.drop.data.toList = []) = b2 at *
  have o2 := (own.alloc (.cells #[.int .i64 p.keep, .string p.put, .string p.drop] 67))
  clear h
  cases b0 <;> cases b1 <;> cases b2 <;> (first | (exact absurd hb (by decide)) | skip)
  all_goals
    go_enter Tryd.func70, Tryd.ntmps70
    go_wp2_with (at_builtin; refine wpList_append_own _ rfl _ _ 34 rfl B 67 i0 (.agg #[.int .i64 0, .string ⟨#[]⟩, .string ⟨#[]⟩]) 3 40 Tryd.underlying34 hi0 hz0 hz1 hz2 rfl (by decide) _ _ _ rfl (o2.alloc _) ⟨w.heap.size + 1, 0, none⟩ 1 1 [.int .i64 p.keep, .string p.put, .string p.drop] rfl rfl ?_ ?_ ?_ ?_ ?_ ?_)
    · exact cell3_at _ _ (by simp) _ _ _ _
    · intro u hu; simp at hu; rcases hu with rfl | rfl | rfl <;> rfl
    · unfold maxLen; simp
    · simp
    · simp; omega
    · intro v' w2 hown' hgrow _
      have hb2 := below_append ((Below.refl B w).alloc hB _) o2 (by simp; omega) hgrow
      have HO : Hid (POwn w2 B v' [p]) := hide (POwn.app (l := []) hown')
      clear hown' hgrow
      go_wp2
      go_ret
      exact ⟨_, rfl, HO.out, hb2⟩

/-- What is known of the last part's cells, in the worlds that the walk comes to. -/
structure LastAt (w : World) (g : Nat) (k : Nat) (x : Pt) : Prop where
  c0 : w.cell? ⟨g, k * 3, none⟩ = some (.int .i64 x.keep)
  c1 : w.cell? ⟨g, k * 3 + 1, none⟩ = some (.string x.put)
  c2 : w.cell? ⟨g, k * 3 + 2, none⟩ = some (.string x.drop)
  fz : ∀ j, w.frozen? ⟨g, j, none⟩ = false
  lt : g < w.heap.size
theorem LastAt.al {w : World} {g k : Nat} {x : Pt} (h : LastAt w g k x) (o : Obj) : LastAt (w.alloc o) g k x := by
  have hb := Below.heap_alloc w o g h.lt
  exact ⟨(World.cell?_of_block hb).trans h.c0, (World.cell?_of_block hb).trans h.c1, (World.cell?_of_block hb).trans h.c2, fun j => (World.frozen?_of_block hb).trans (h.fz j), by simp; exact Nat.lt_succ_of_lt h.lt⟩

set_option maxRecDepth 100000 in
set_option maxHeartbeats 2000000 in
theorem l3Add_keep (p x : Pt) (a : List Pt) (g cap B : Nat) (w : World) (h : POwn w B (.slice (some ⟨g, 0, none⟩) (a.length + 1) cap) (a ++ [x])) (hL : LastAt w g a.length x) (hB : B ≤ w.heap.size) (hBg : B ≤ g) (hal : a.length ≤ 100000) (_hcap : a.length + 1 ≤ cap ∧ cap ≤ maxLen)
    (hp : 0 < p.keep) (hx : 0 < x.keep) (h1 : p.keep ≤ 1000000) (h2 : x.keep ≤ 1000000) :
    Calls Tryd.prog 70 #[.slice (some ⟨g, 0, none⟩) (a.length + 1) cap, ptV p] w (AddPost (a ++ [x]) p B w) := by
  unfold AddPost ptV
  have e : addP (a ++ [x]) p = a ++ [⟨x.keep + p.keep, x.put, x.drop⟩] := by
    unfold addP
    rw [if_neg (fun c => by omega), List.getLast?_append]
    simp only [List.getLast?_singleton, Option.some_or, List.dropLast_concat]
    rw [if_pos ⟨hp, hx⟩]
  rw [e]
  have k0 : (p.keep == 0) = false := by rw [beq_eq_false_iff_ne]; omega
  have L1 := hL.al (.cells #[.int .i64 p.keep, .string p.put, .string p.drop] 67)
  have L2 := L1.al (.cells #[.int .i64 x.keep, .string x.put, .string x.drop] 67)
  have o3 := hide (fun o o' => World.ownsRow.alloc (World.ownsRow.alloc (POwn.set (x' := ⟨x.keep + p.keep, x.put, x.drop⟩) h (by simp) 0 (.int .i64 (x.keep + p.keep)) (by omega) rfl) o) o')
  have hb3 := hide (fun o o' => (((Below.refl B w).setCell (p := ⟨g, a.length * 3 + 0, none⟩) hBg (.int .i64 (x.keep + p.keep))).alloc (by simpa [World.setCell] using hB) o).alloc (by simp [World.setCell]; omega) o')
  have q0 := L1.c0
  have q1 := L1.c1
  have q2 := L1.c2
  have r0 := L2.c0
  have f0 := L2.fz (a.length * 3)
  have hgl := hL.lt
  clear h hL L1 L2
  go_enter Tryd.func70, Tryd.ntmps70
  go_wp2_with fail
  go_region
  all_goals
    go_wp2
    go_ret
    exact ⟨_, rfl, o3.out _ _, (hb3.out _ _).drew⟩

set_option maxRecDepth 100000 in
set_option maxHeartbeats 2000000 in
theorem l3Add_drop (p x : Pt) (a : List Pt) (g cap B : Nat) (w : World) (h : POwn w B (.slice (some ⟨g, 0, none⟩) (a.length + 1) cap) (a ++ [x])) (hL : LastAt w g a.length x) (hB : B ≤ w.heap.size) (hBg : B ≤ g) (hal : a.length ≤ 100000) (_hcap : a.length + 1 ≤ cap ∧ cap ≤ maxLen)
    (hk : p.keep = 0) (hpu : p.put.data.toList = []) (hp : p.drop.data.toList ≠ []) (hx : x.drop.data.toList ≠ []) (h1 : p.drop.size ≤ 1000000) (h2 : x.drop.size ≤ 1000000) :
    Calls Tryd.prog 70 #[.slice (some ⟨g, 0, none⟩) (a.length + 1) cap, ptV p] w (AddPost (a ++ [x]) p B w) := by
  unfold AddPost ptV
  have hk0 : ¬ (0 < p.keep) := by omega
  have e : addP (a ++ [x]) p = a ++ [⟨x.keep, x.put, x.drop ++ p.drop⟩] := by
    unfold addP
    rw [if_neg (fun c => hp c.2.2), List.getLast?_append]
    simp only [List.getLast?_singleton, Option.some_or, List.dropLast_concat]
    rw [if_neg (fun c => hk0 c.1), if_pos ⟨hp, hx⟩]
  rw [e]
  have k0 : (p.keep == 0) = true := by simpa using hk
  have e1 := emp_b p.put
  have e2 := emp_b p.drop
  have e3 := emp_b x.drop
  rw [decide_eq_true hpu] at e1
  rw [decide_eq_false hp] at e2
  rw [decide_eq_false hx] at e3
  have L1 := hL.al (.cells #[.int .i64 p.keep, .string p.put, .string p.drop] 67)
  have L2 := L1.al (.cells #[.int .i64 x.keep, .string x.put, .string x.drop] 67)
  have o3 := hide (fun o o' => World.ownsRow.alloc (World.ownsRow.alloc (POwn.set (x' := ⟨x.keep, x.put, x.drop ++ p.drop⟩) h (by simp) 2 (.string (x.drop ++ p.drop)) (by omega) rfl) o) o')
  have hb3 := hide (fun o o' => (((Below.refl B w).setCell (p := ⟨g, a.length * 3 + 2, none⟩) hBg (.string (x.drop ++ p.drop))).alloc (by simpa [World.setCell] using hB) o).alloc (by simp [World.setCell]; omega) o')
  have q0 := L1.c0
  have q1 := L1.c1
  have q2 := L1.c2
  have r0 := L2.c2
  have f0 := L2.fz (a.length * 3 + 2)
  have hgl := hL.lt
  clear h hL L1 L2 hk
  go_enter Tryd.func70, Tryd.ntmps70
  go_wp2_with fail
  go_region
  all_goals
    go_wp2
    go_ret
    exact ⟨_, rfl, o3.out _ _, (hb3.out _ _).drew⟩

set_option maxRecDepth 100000 in
set_option maxHeartbeats 2000000 in
theorem l3Add_put (p x : Pt) (a : List Pt) (g cap B : Nat) (w : World) (h : POwn w B (.slice (some ⟨g, 0, none⟩) (a.length + 1) cap) (a ++ [x])) (hL : LastAt w g a.length x) (hB : B ≤ w.heap.size) (hBg : B ≤ g) (hal : a.length ≤ 100000) (_hcap : a.length + 1 ≤ cap ∧ cap ≤ maxLen)
    (hk : p.keep = 0) (hd : p.drop.data.toList = []) (hp : p.put.data.toList ≠ []) (hx : x.put.data.toList ≠ []) (h1 : p.put.size ≤ 1000000) (h2 : x.put.size ≤ 1000000) :
    Calls Tryd.prog 70 #[.slice (some ⟨g, 0, none⟩) (a.length + 1) cap, ptV p] w (AddPost (a ++ [x]) p B w) := by
  unfold AddPost ptV
  have hk0 : ¬ (0 < p.keep) := by omega
  have e : addP (a ++ [x]) p = a ++ [⟨x.keep, x.put ++ p.put, x.drop⟩] := by
    unfold addP
    rw [if_neg (fun c => hp c.2.1), List.getLast?_append]
    simp only [List.getLast?_singleton, Option.some_or, List.dropLast_concat]
    rw [if_neg (fun c => hk0 c.1), if_neg (fun c => c.1 hd), if_pos ⟨hp, hx⟩]
  rw [e]
  have k0 : (p.keep == 0) = true := by simpa using hk
  have e1 := emp_b p.put
  have e2 := emp_b p.drop
  have e3 := emp_b x.put
  rw [decide_eq_false hp] at e1
  rw [decide_eq_true hd] at e2
  rw [decide_eq_false hx] at e3
  have L1 := hL.al (.cells #[.int .i64 p.keep, .string p.put, .string p.drop] 67)
  have L2 := L1.al (.cells #[.int .i64 x.keep, .string x.put, .string x.drop] 67)
  have o3 := hide (fun o o' => World.ownsRow.alloc (World.ownsRow.alloc (POwn.set (x' := ⟨x.keep, x.put ++ p.put, x.drop⟩) h (by simp) 1 (.string (x.put ++ p.put)) (by omega) rfl) o) o')
  have hb3 := hide (fun o o' => (((Below.refl B w).setCell (p := ⟨g, a.length * 3 + 1, none⟩) hBg (.string (x.put ++ p.put))).alloc (by simpa [World.setCell] using hB) o).alloc (by simp [World.setCell]; omega) o')
  have q0 := L1.c0
  have q1 := L1.c1
  have q2 := L1.c2
  have r0 := L2.c1
  have f0 := L2.fz (a.length * 3 + 1)
  have hgl := hL.lt
  clear h hL L1 L2 hk
  go_enter Tryd.func70, Tryd.ntmps70
  go_wp2_with fail
  go_region
  all_goals
    go_wp2
    go_ret
    exact ⟨_, rfl, o3.out _ _, (hb3.out _ _).drew⟩
end Go.Proofs.YtbmnciejaknonauDoor
