/- How atoms are compared by the closure of MergeSeqs: the worlds told whole. slices.SortFunc over a row of atoms of one's own. The contract of slices.SortFunc over atoms; what is sorted is one row alone. The program's MergeSeqs. What stands behind a call whose sequence is laid into a cell. The walk of the exact law of MergeSeqs. -/
import Derived.Test.YtnhooalibadeeabDoorSqW1
import Derived.Test.YtnhooalibadeeabDoorSqIn
import Derived.Sort.Grow
import Derived.Deep.RegionHeld3
import Derived.Deep.Draws
import Derived.Test.YtnhooalibadeeabDoorSqA1
import Derived.Test.YtnhooalibadeeabDoorSeq5
import Derived.Test.YtnhooalibadeeabDoorShelfSo
import Derived.Test.YtnhooalibadeeabDoorSqA2
import Derived.Test.YtnhooalibadeeabDoorSqA5
import Derived.Test.YtnhooalibadeeabDoorSqL1
import Derived.Test.YtnhooalibadeeabDoorSqW3
import Derived.Shelf.SlSortCmp.NoneTotal
import Derived.Deep.Cut
import Derived.Deep.CutRange
import Derived.Lib.SliceRun
import Derived.Test.YtnhooalibadeeabDoorSeqLaw
import Derived.Test.YtnhooalibadeeabDoorSqM1
set_option linter.unusedVariables false
namespace Go.Proofs.YtnhooalibadeeabDoor
open Go.RowKit Go.Sort
open Doc1

/-- Draws and new blocks, nothing else. -/
def GQ (w w' : World) : Prop := ∃ q os, w' = grow (w.drewN q) os
theorem GQ.refl (w : World) : GQ w w := ⟨0, #[], by unfold grow World.drewN; simp⟩
theorem GQ.drew {w w' : World} (h : GQ w w') : GQ w w'.drew := by
  obtain ⟨q, os, rfl⟩ := h
  exact ⟨q + 1, os, by unfold grow World.drewN World.drew; simp [Nat.add_assoc]⟩
theorem GQ.alloc {w w' : World} (h : GQ w w') (o : Obj) : GQ w (w'.alloc o) := by
  obtain ⟨q, os, rfl⟩ := h
  exact ⟨q, os.push o, by unfold grow World.drewN World.alloc; simp⟩
theorem GQ.trans {w w1 w2 : World} (h : GQ w w1) (k : GQ w1 w2) : GQ w w2 := by
  obtain ⟨q, os, rfl⟩ := h
  obtain ⟨q2, os2, rfl⟩ := k
  exact ⟨q + q2, os ++ os2, by unfold grow World.drewN; simp [Nat.add_assoc]⟩
theorem GQ.below {w w' : World} (h : GQ w w') : Below w.heap.size w w' := by
  obtain ⟨q, os, rfl⟩ := h
  refine ⟨rfl, rfl, rfl, by unfold grow World.drewN; simp, fun k hk => ?_⟩
  unfold grow World.drewN
  rw [Array.getElem?_append_left hk]

set_option maxRecDepth 100000 in
set_option maxHeartbeats 1000000 in
theorem id_gq (x : Am) (w : World) :
    Calls Tryd.prog 28 #[amV x] w fun e w' => e = .returned (.agg #[.int .i64 x.time, .int .i64 x.actor]) ∧ GQ w w' := by
  unfold amV
  go_enter Tryd.func28, Tryd.ntmps28
  go_wp2
  refine bodyPost_ret (v := .agg #[.int .i64 x.time, .int .i64 x.actor]) (by simp [results, Tryd.results28, go_sem]) rfl ⟨rfl, ?_⟩
  exact ((GQ.refl _).alloc _).alloc _

set_option maxRecDepth 100000 in
set_option maxHeartbeats 1000000 in
theorem compare_gq (a b c d : Int) (w : World) :
    Calls Tryd.prog 32 #[.agg #[.int .i64 a, .int .i64 b], .agg #[.int .i64 c, .int .i64 d]] w fun e w' => e = .returned (.int .i64 (cmp2 a b c d)) ∧ GQ w w' := by
  obtain ⟨w1, hw1⟩ : ∃ w1, w1 = (w.alloc (.cells #[.int .i64 a, .int .i64 b] 52)).alloc (.cells #[.int .i64 c, .int .i64 d] 52) := ⟨_, rfl⟩
  have hb1 : GQ w w1 := by rw [hw1]; exact ((GQ.refl _).alloc _).alloc _
  have e1 : (w.alloc (.cells #[.int .i64 a, .int .i64 b] 52)).heap.size = w.heap.size + 1 := by simp
  have g1 := heap_alloc_new w (.cells #[.int .i64 a, .int .i64 b] 52)
  have g2 := heap_alloc_new (w.alloc (.cells #[.int .i64 a, .int .i64 b] 52)) (.cells #[.int .i64 c, .int .i64 d] 52)
  have g3 : w1.heap[w.heap.size]? = some (.cells #[.int .i64 a, .int .i64 b] 52) := by
    rw [hw1]
    have hb := ((Below.refl (w.alloc (.cells #[.int .i64 a, .int .i64 b] 52)).heap.size (w.alloc (.cells #[.int .i64 a, .int .i64 b] 52))).alloc (Nat.le_refl _) (.cells #[.int .i64 c, .int .i64 d] 52))
    rw [hb.block w.heap.size (by omega)]
    exact g1
  rw [← hw1, e1] at g2
  have hsz : w1.heap.size = w.heap.size + 2 := by rw [hw1]; simp
  have N : Hid (∀ wq, Below w1.heap.size w1 wq → Calls Tryd.prog 52 #[.slice (some ⟨w.heap.size, 0, none⟩) 2 2, .slice (some ⟨w.heap.size + 1, 0, none⟩) 2 2] wq fun e w' => e = .returned (.int .i64 (cmp2 a b c d)) ∧ w' = wq) := hide (fun wq hq => by
    have k3 := (hq.block w.heap.size (by omega)).trans g3
    have k2 := (hq.block (w.heap.size + 1) (by omega)).trans g2
    exact compareS_two w.heap.size (w.heap.size + 1) a b c d wq (by rw [cell_of_row wq w.heap.size 0 _ _ (0, 0) k3]; rfl) (by rw [cell_of_row wq w.heap.size 1 _ _ (0, 0) k3]; rfl) (by rw [cell_of_row wq (w.heap.size + 1) 0 _ _ (0, 0) k2]; rfl) (by rw [cell_of_row wq (w.heap.size + 1) 1 _ _ (0, 0) k2]; rfl))
  have HB := hide hb1
  clear hb1 e1 g1 g2 g3 hsz
  go_enter Tryd.func32, Tryd.ntmps32
  go_wp2_with fail
  rw [← hw1]
  clear hw1
  go_region_with (go_at_call 52; refine (N.out _ (by first | exact Below.refl _ _ | exact (Below.refl _ _).drew)).mono ?_; rintro e w' ⟨rfl, hw⟩; replace hw := hw.symm; subst hw)
  all_goals
    go_wp2
    go_ret
    exact ⟨rfl, by first | exact HB.out | exact HB.out.drew⟩

set_option maxRecDepth 100000 in
set_option maxHeartbeats 2000000 in
theorem closure_gq (x y : Am) (w : World) :
    Calls Tryd.prog 31 #[amV x, amV y] w fun e w' => e = .returned (.int .i64 (cmp2 x.time x.actor y.time y.actor)) ∧ GQ w w' := by
  obtain ⟨xg, hxg⟩ : ∃ g, g = x.gone := ⟨_, rfl⟩
  have b1 : GQ w (w.alloc (.cells #[.int .i64 x.time, .int .i64 x.actor, .int .i64 x.above, .int .i64 x.maker, .string x.byte, .bool x.gone] 47)) := (GQ.refl _).alloc _
  obtain ⟨w1, hw1⟩ : ∃ w1, w1 = (w.alloc (.cells #[.int .i64 x.time, .int .i64 x.actor, .int .i64 x.above, .int .i64 x.maker, .string x.byte, .bool x.gone] 47)).alloc (.cells #[.int .i64 y.time, .int .i64 y.actor, .int .i64 y.above, .int .i64 y.maker, .string y.byte, .bool y.gone] 47) := ⟨_, rfl⟩
  have G1 := hide (show GQ w w1 by rw [hw1]; exact b1.alloc _)
  have X1 : Hid (BxA w1 w.heap.size x) := hide (by rw [hw1]; exact (BxA.new w x).later ((Below.refl _ _).alloc (Nat.le_refl _) _))
  have Y1 : Hid (BxA w1 (w.heap.size + 1) y) := hide (by
    rw [hw1]
    have := BxA.new (w.alloc (.cells #[.int .i64 x.time, .int .i64 x.actor, .int .i64 x.above, .int .i64 x.maker, .string x.byte, .bool x.gone] 47)) y
    rwa [show (w.alloc (.cells #[.int .i64 x.time, .int .i64 x.actor, .int .i64 x.above, .int .i64 x.maker, .string x.byte, .bool x.gone] 47)).heap.size = w.heap.size + 1 by simp] at this)
  have KS : Hid (∀ w', GQ w1 w' → w'.cell? ⟨w.heap.size, 0, none⟩ = some (.int .i64 x.time) ∧ w'.cell? ⟨w.heap.size, 1, none⟩ = some (.int .i64 x.actor) ∧ w'.cell? ⟨w.heap.size, 2, none⟩ = some (.int .i64 x.above) ∧ w'.cell? ⟨w.heap.size, 3, none⟩ = some (.int .i64 x.maker) ∧ w'.cell? ⟨w.heap.size, 4, none⟩ = some (.string x.byte) ∧ w'.cell? ⟨w.heap.size, 5, none⟩ = some (.bool x.gone) ∧ w'.cell? ⟨w.heap.size + 1, 0, none⟩ = some (.int .i64 y.time) ∧ w'.cell? ⟨w.heap.size + 1, 1, none⟩ = some (.int .i64 y.actor) ∧ w'.cell? ⟨w.heap.size + 1, 2, none⟩ = some (.int .i64 y.above) ∧ w'.cell? ⟨w.heap.size + 1, 3, none⟩ = some (.int .i64 y.maker) ∧ w'.cell? ⟨w.heap.size + 1, 4, none⟩ = some (.string y.byte) ∧ w'.cell? ⟨w.heap.size + 1, 5, none⟩ = some (.bool y.gone)) := hide (fun w' hq => by
    have X := (X1.out.later hq.below).cells
    have Y := (Y1.out.later hq.below).cells
    exact ⟨X.1, X.2.1, X.2.2.1, X.2.2.2.1, X.2.2.2.2.1, X.2.2.2.2.2, Y⟩)
  have IX := hide (fun w => id_gq x w)
  have IY := hide (fun w => id_gq y w)
  unfold amV at IX IY ⊢
  have CM := hide (fun w => compare_gq x.time x.actor y.time y.actor w)
  obtain ⟨R, hR⟩ : ∃ R, cmp2 x.time x.actor y.time y.actor = R := ⟨_, rfl⟩
  simp only [hR] at CM ⊢
  clear hxg b1 hR
  go_enter Tryd.func31, Tryd.ntmps31
  go_wp2_with fail
  rw [← hw1]
  clear hw1
  go_region_held3 (fun w' => w'.cell? ⟨w.heap.size, 0, none⟩ = some (.int .i64 x.time) ∧ w'.cell? ⟨w.heap.size, 1, none⟩ = some (.int .i64 x.actor) ∧ w'.cell? ⟨w.heap.size, 2, none⟩ = some (.int .i64 x.above) ∧ w'.cell? ⟨w.heap.size, 3, none⟩ = some (.int .i64 x.maker) ∧ w'.cell? ⟨w.heap.size, 4, none⟩ = some (.string x.byte) ∧ w'.cell? ⟨w.heap.size, 5, none⟩ = some (.bool x.gone) ∧ w'.cell? ⟨w.heap.size + 1, 0, none⟩ = some (.int .i64 y.time) ∧ w'.cell? ⟨w.heap.size + 1, 1, none⟩ = some (.int .i64 y.actor) ∧ w'.cell? ⟨w.heap.size + 1, 2, none⟩ = some (.int .i64 y.above) ∧ w'.cell? ⟨w.heap.size + 1, 3, none⟩ = some (.int .i64 y.maker) ∧ w'.cell? ⟨w.heap.size + 1, 4, none⟩ = some (.string y.byte) ∧ w'.cell? ⟨w.heap.size + 1, 5, none⟩ = some (.bool y.gone))
    (first | assumption | exact KS.out _ (GQ.refl _).drew | exact KS.out _ ha | exact KS.out _ hb | exact KS.out _ hc)
    (first
      | (go_at_call 32; refine (CM.out _).mono ?_; rintro e wc ⟨rfl, hc0⟩; have hc : GQ w1 wc := (by first | exact hb.trans hc0))
      | (go_at_call 28; refine (IX.out _).mono ?_; rintro e wa ⟨rfl, ha0⟩; first | (have hb : GQ w1 wa := ha.trans ha0) | (have ha : GQ w1 wa := (GQ.refl _).drew.trans ha0))
      | (go_at_call 28; refine (IY.out _).mono ?_; rintro e wa ⟨rfl, ha0⟩; first | (have hb : GQ w1 wa := ha.trans ha0) | (have ha : GQ w1 wa := (GQ.refl _).drew.trans ha0)))
  all_goals
    go_wp2
    go_ret
    exact ⟨rfl, G1.out.trans hc⟩
end Go.Proofs.YtnhooalibadeeabDoor

set_option linter.unusedVariables false
namespace Go.Proofs.YtnhooalibadeeabDoor
open Go.RowKit Go.Sort Go.Shelf
open Doc1

instance : Inhabited Am := ⟨⟨0, 0, 0, 0, ⟨#[]⟩, false⟩⟩
theorem amC_len (x : Am) : (amC x).length = 6 := rfl
theorem encAm_getd (l : List Am) : ∀ t, t < l.length * 6 → (encAm l)[t]? = some ((amC l.toArray[t / 6]!)[t % 6]!) := by
  induction l with
  | nil => intro t h; simp at h
  | cons x l ih =>
    intro t h
    have e : encAm (x :: l) = amC x ++ encAm l := by simp [encAm]
    rw [e]
    by_cases c : t < 6
    · rw [List.getElem?_append_left (by rw [amC_len]; exact c), Nat.div_eq_of_lt c, Nat.mod_eq_of_lt c]
      have : t = 0 ∨ t = 1 ∨ t = 2 ∨ t = 3 ∨ t = 4 ∨ t = 5 := by omega
      rcases this with rfl | rfl | rfl | rfl | rfl | rfl <;> rfl
    · rw [List.getElem?_append_right (by rw [amC_len]; omega), amC_len, ih (t - 6) (by simp only [List.length_cons] at h; omega)]
      have h1 : (t - 6) / 6 = t / 6 - 1 := by omega
      have h2 : (t - 6) % 6 = t % 6 := by omega
      have h3 : (x :: l).toArray[t / 6]! = l.toArray[t / 6 - 1]! := by
        have hd : t / 6 = (t / 6 - 1) + 1 := by omega
        rw [hd, Nat.add_sub_cancel]
        simp
      rw [h1, h2, h3]
theorem flat_at (l : List Am) (t : Nat) (h : t < l.length * 6) : (encAm l)[t]? = some ((flatK amC 6 l.toArray)[t]!) := by
  rw [encAm_getd l t h, get_flatK amC 6 l.toArray t (by simpa using h)]
theorem swoA : SWO (ltOf (fun x y : Am => cmp2 x.time x.actor y.time y.actor)) where
  irrefl x := by unfold ltOf cmp2; simp
  trans x y z h1 h2 := by
    unfold ltOf cmp2 at *
    simp only [decide_eq_true_eq] at *
    repeat' split at *
    all_goals (first | omega | simp_all)
  ntrans x y z h1 h2 := by
    unfold ltOf cmp2 at *
    simp only [decide_eq_false_iff_not] at *
    repeat' split at *
    all_goals (first | omega | simp_all)
theorem ltOf_lt2 (x y : Am) : ltOf (fun x y : Am => cmp2 x.time x.actor y.time y.actor) x y = lt2 x y := by
  unfold ltOf cmp2 lt2
  by_cases h1 : x.time < y.time
  · simp [h1]
  · by_cases h2 : y.time < x.time
    · simp [h1, h2]; omega
    · have : x.time = y.time := by omega
      by_cases h3 : x.actor < y.actor
      · simp [this, h3]
      · by_cases h4 : y.actor < x.actor <;> simp [this, h3, h4]
/-- A row that is laid anew by the sort is a row of one's own. -/
theorem own_sorted {w : World} {B g cap : Nat} {l : List Am} (h : AmOwn w B (.slice (some ⟨g, 0, none⟩) l.length cap) l) (n : Nat) (os : Array Obj) (d : Array Am) (hd : d.size = l.length) :
    AmOwn (sortWorldK amC 6 w g 0 n d os) B (.slice (some ⟨g, 0, none⟩) l.length cap) d.toList ∧ Go.RowKit.Below B w (sortWorldK amC 6 w g 0 n d os) := by
  have hw := h
  rcases h.2 with ⟨e, -⟩ | ⟨g', cap', cur, e, hB, hh, hle, hmx, hsz, htk⟩
  · cases e
  · cases e
    have hgl : g < w.heap.size := (Array.getElem?_eq_some_iff.1 hh).1
    have hF : (flatK amC 6 d).size = l.length * 6 := by rw [size_flatK, hd]
    have hblk : (sortWorldK amC 6 w g 0 n d os).heap[g]? = some (.cells (putCells id 0 (flatK amC 6 d) cur) 47 (0, 0)) := by
      unfold sortWorldK
      rw [heap_grow_old _ _ (by unfold putRowK putRow mapBlock Go.Sort.ahead; simpa using hgl)]
      unfold putRowK putRow mapBlock Go.Sort.ahead
      simp only [Array.getElem?_modify, if_true]
      show Option.map _ (w.heap[g]?) = _
      rw [hh]
      rfl
    have hpc : (putCells id 0 (flatK amC 6 d) cur).size = cur.size := by unfold putCells; simp
    unfold AmOwn
    rw [show d.toList.length = l.length by rw [Array.length_toList, hd]]
    refine ⟨⟨?_, .inr ⟨g, cap, putCells id 0 (flatK amC 6 d) cur, rfl, hB, hblk, hle, hmx, by rw [hpc]; exact hsz, ?_⟩⟩, ?_⟩
    · rw [encAm_len, Array.length_toList, hd]
    · apply List.ext_getElem?
      intro t
      by_cases ht : t < l.length * 6
      · have hcap : t < cur.size := by
          have := Nat.mul_le_mul_right 6 hle
          omega
        rw [List.getElem?_take, if_pos ht, Array.getElem?_toList]
        have e1 : (putCells id 0 (flatK amC 6 d) cur)[t]? = some ((flatK amC 6 d)[t]!) := by
          unfold putCells
          rw [Array.getElem?_mapIdx, Array.getElem?_eq_getElem hcap]
          simp only [Option.map_some, Nat.zero_le, true_and, Nat.zero_add, hF, ht, if_true, Nat.sub_zero, id]
        rw [e1]
        have := flat_at d.toList t (by rw [Array.length_toList, hd]; exact ht)
        rw [this]
      · rw [List.getElem?_take, if_neg ht, List.getElem?_eq_none (by rw [encAm_len, Array.length_toList, hd]; omega)]
    · refine ⟨rfl, rfl, rfl, ?_, fun k hk => ?_⟩
      · unfold sortWorldK grow putRowK putRow mapBlock Go.Sort.ahead
        simp
      · unfold sortWorldK
        rw [heap_grow_old _ _ (by unfold putRowK putRow mapBlock Go.Sort.ahead; simp; omega)]
        unfold putRowK putRow mapBlock Go.Sort.ahead
        simp only [Array.getElem?_modify]
        rw [if_neg (by omega)]
end Go.Proofs.YtnhooalibadeeabDoor

set_option linter.unusedVariables false
namespace Go.Proofs.YtnhooalibadeeabDoor
open Go.RowKit Go.Sort Go.Shelf
open Doc1

theorem ris_eq : ∀ {a b : List Am}, a.Perm b → Ris a → Ris b → a = b
  | [], b, hp, _, _ => hp.nil_eq
  | x :: a, [], hp, _, _ => by have := hp.length_eq; simp at this
  | x :: a, y :: b, hp, h1, h2 => by
    have k1 := List.pairwise_cons.1 h1
    have k2 := List.pairwise_cons.1 h2
    have e : x = y := by
      have m1 : x ∈ y :: b := hp.mem_iff.1 (List.mem_cons_self ..)
      have m2 : y ∈ x :: a := hp.mem_iff.2 (List.mem_cons_self ..)
      rcases List.mem_cons.1 m1 with c | c
      · exact c
      · rcases List.mem_cons.1 m2 with d | d
        · exact d.symm
        · have r1 := k2.1 x c
          have r2 := k1.1 y d
          have := lt2_trans r1 r2
          unfold lt2 at this
          simp at this
    subst e
    rw [ris_eq (List.Perm.cons_inv hp) k1.2 k2.2]
theorem sorted_eq {l o : List Am} (hp : l.Perm o) (hr : Ris o) (hs : ∀ i j (hi : i < l.length) (hj : j < l.length), i < j → lt2 l[j] l[i] = false) : l = o := by
  refine ris_eq hp ?_ hr
  have hd : l.Pairwise (fun a b => sameId a b = false ∧ sameId b a = false) := by
    have h2 : o.Pairwise (fun a b => sameId a b = false ∧ sameId b a = false) := hr.imp (fun h => lt2_irr h)
    exact (hp.pairwise_iff (fun h => ⟨h.2, h.1⟩)).2 h2
  unfold Ris
  rw [List.pairwise_iff_getElem] at hd ⊢
  intro i j hi hj hij
  have h1 := hs i j hi hj hij
  cases h2 : lt2 l[i] l[j] with
  | true => rfl
  | false =>
    have := (lt2_tri h2 h1).1
    rw [(hd i j hi hj hij).1] at this
    cases this

set_option maxRecDepth 100000 in
set_option maxHeartbeats 2000000 in
theorem sort_own {w : World} {B g cap : Nat} {l : List Am} (h : AmOwn w B (.slice (some ⟨g, 0, none⟩) l.length cap) l) (hl0 : 0 < l.length) (hln : l.length ≤ 100000) :
    Calls Tryd.prog 30 #[.slice (some ⟨g, 0, none⟩) l.length cap, .func (.func 31) #[] #[]] w fun e w' => e = .returned (.tuple #[]) ∧ ∃ l', l'.Perm l ∧ (∀ i j (hi : i < l'.length) (hj : j < l'.length), i < j → lt2 l'[j] l'[i] = false) ∧ AmOwn w' B (.slice (some ⟨g, 0, none⟩) l.length cap) l' ∧ Go.RowKit.Below B w w' := by
  obtain ⟨g', c', e, -, -, hB, hgl, hc, hf⟩ := own_cat h hl0
  cases e
  have eg : ∀ args w, (callFunc 31 args).run Tryd.prog w = .ok (.enter 31 args) w := enters_of Tryd.func31 (by kernel_rfl) rfl
  have hH : HoldsK amC 6 w g 0 l.toArray := fun j hj => by
    rw [size_flatK] at hj
    have hj2 : j < l.length * 6 := by simpa using hj
    rw [Nat.zero_add]
    exact ⟨hc j _ (flat_at l j hj2), hf.fz j⟩
  have hcon := AnyQ.slices_SortFunc Tryd.sortAm 6 Tryd.isAgg47 Tryd.sizeOf47 amC (fun _ => rfl) (fun x v hv => by simp [amC] at hv; rcases hv with rfl | rfl | rfl | rfl | rfl | rfl <;> rfl) (fun x y : Am => cmp2 x.time x.actor y.time y.actor) swoA 31 #[] g 0 cap l.toArray w eg (fun _ _ _ _ x y => closure_gq x y _) hH hgl (by simp; omega)
  rw [List.size_toArray] at hcon
  refine hcon.mono ?_
  rintro e w' ⟨rfl, d', n, os, hp, hs, rfl⟩
  have hsz : d'.size = l.length := by have := hp.1; simpa using this
  have hx : d'.extract 0 l.length = d' := by rw [← hsz]; simp
  obtain ⟨o1, o2⟩ := own_sorted h n os d' hsz
  refine ⟨rfl, d'.toList, ?_, fun i j hi hj hij => ?_, o1, o2⟩
  · have := hp.2.2
    rw [hx] at this
    simpa using this
  · have := hs i j (Nat.zero_le _) hij (by rw [← hsz]; simpa using hj)
    rw [ltOf_lt2] at this
    rw [getElem!_pos d' j (by simpa using hj), getElem!_pos d' i (by simpa using hi)] at this
    simpa using this
end Go.Proofs.YtnhooalibadeeabDoor

set_option linter.unusedVariables false
namespace Go.Proofs.YtnhooalibadeeabDoor
open Go.RowKit
open Doc1

set_option maxRecDepth 100000 in
set_option maxHeartbeats 2000000 in
theorem cloneA {w : World} {a : Option Addr} {cap : Nat} {l : List Am} (h : AmIn w a cap l) (hln : l.length ≤ 10000) :
    Calls Tryd.prog 26 #[.slice a l.length cap] w fun e w' => ∃ v, e = .returned v ∧ AmOwn w' w.heap.size v l ∧ Below w.heap.size w w' := by
  cases a with
  | none =>
    have hl : l = [] := by
      by_cases c : l = []
      · exact c
      · obtain ⟨g, e, -⟩ := h.ad c
        cases e
    subst hl
    have qn : ∀ (w : World) (n c : Nat), (binOp .eql 26 (.slice none n c) (.slice none 0 0)).run Tryd.prog w = .ok (.bool true) w := fun w n c => Lib.run_eql_slice_nil w _ _ none n c 0 0 Tryd.underlying26
    go_enter Tryd.func26, Tryd.ntmps26
    go_wp2
    go_ret
    exact ⟨_, rfl, World.ownsRow_nil _ _ _ _, Below.refl _ _⟩
  | some ad =>
    have hb : Below w.heap.size w (w.alloc (.cells #[] 47)) := (Below.refl _ _).alloc (Nat.le_refl _) _
    have HO : Hid (AmOwn (w.alloc (.cells #[] 47)) w.heap.size (.slice (some ⟨w.heap.size, 0, none⟩) 0 0) []) := hide (own_newA w 47 #[] 0 6 rfl (by omega))
    have HI := hide (h.later hb)
    have HB := hide hb
    have qn : ∀ (w : World) (n c : Nat), (binOp .eql 26 (.slice (some ad) n c) (.slice none 0 0)).run Tryd.prog w = .ok (.bool false) w := fun w n c => Lib.run_eql_slice_nil w _ _ (some ad) n c 0 0 Tryd.underlying26
    clear h hb
    go_enter Tryd.func26, Tryd.ntmps26
    go_wp2_with (at_builtin; go_loud (refine append_ams _ rfl _ _ rfl w.heap.size _ [] HO.out (some ad) cap l (by simp; omega) rfl rfl HI.out (by simp) ?_); intro v5 w5 own5 grow5 _; have HO5 : Hid (AmOwn w5 w.heap.size v5 l) := hide (by rw [List.nil_append] at own5; exact own5); have HB5 : Hid (Below w.heap.size w w5) := hide (grown_from HB.out (by simp) HO.out grow5); obtain ⟨a5, c5, rfl, -⟩ := own_shp HO5.out; clear own5 grow5)
    go_ret
    exact ⟨_, rfl, HO5.out, HB5.out⟩
theorem encAm_set : ∀ (l : List Am) (j : Nat) (hj : j < l.length) (b : Bool), (encAm l).set (j * 6 + 5) (.bool b) = encAm (l.set j { l[j] with gone := b })
  | x :: l, 0, _, b => by simp [encAm, amC]
  | x :: l, j + 1, hj, b => by
    have ih := encAm_set l j (by simpa using hj) b
    have e : ∀ (y : Am) (t : List Am), encAm (y :: t) = [.int .i64 y.time, .int .i64 y.actor, .int .i64 y.above, .int .i64 y.maker, .string y.byte, .bool y.gone] ++ encAm t := fun y t => by simp [encAm, amC]
    rw [e, List.set_cons_succ, e, List.getElem_cons_succ, ← ih, show (j + 1) * 6 + 5 = j * 6 + 5 + 6 by omega]
    simp
theorem AmOwn.setg {w : World} {B g cap : Nat} {l : List Am} (h : AmOwn w B (.slice (some ⟨g, 0, none⟩) l.length cap) l) {j : Nat} (hj : j < l.length) (b : Bool) :
    AmOwn (w.setCell ⟨g, j * 6 + 5, none⟩ (.bool b)) B (.slice (some ⟨g, 0, none⟩) l.length cap) (l.set j { l[j] with gone := b }) := by
  have := (h.stored (j * 6 + 5) (.bool b)).1
  rw [encAm_set l j hj b] at this
  unfold AmOwn
  rw [List.length_set]
  exact this
/-- Between two rounds: all that is put together already. -/
structure MRI (l m : List Am) (w3 : World) (B k : Nat) (v : Value) (out : List Am) (wr : World) : Prop where
  own : AmOwn wr B v out
  bel : Below B w3 wr
  len : out.length ≤ l.length + k
  eq : mrun l m = mrun out (m.drop k)
  txt : ∀ i (hi : i < out.length), out[i].byte.size = 1
theorem at6I {w w' : World} {B g i : Nat} {x : Am} (hb : Below B w w') (hg : g < B) (h : w.cell? ⟨g, i * 6, none⟩ = some (.int .i64 x.time) ∧ w.cell? ⟨g, i * 6 + 1, none⟩ = some (.int .i64 x.actor) ∧ w.cell? ⟨g, i * 6 + 2, none⟩ = some (.int .i64 x.above) ∧ w.cell? ⟨g, i * 6 + 3, none⟩ = some (.int .i64 x.maker) ∧ w.cell? ⟨g, i * 6 + 4, none⟩ = some (.string x.byte) ∧ w.cell? ⟨g, i * 6 + 5, none⟩ = some (.bool x.gone)) : w'.cell? ⟨g, i * 6, none⟩ = some (.int .i64 x.time) ∧ w'.cell? ⟨g, i * 6 + 1, none⟩ = some (.int .i64 x.actor) ∧ w'.cell? ⟨g, i * 6 + 2, none⟩ = some (.int .i64 x.above) ∧ w'.cell? ⟨g, i * 6 + 3, none⟩ = some (.int .i64 x.maker) ∧ w'.cell? ⟨g, i * 6 + 4, none⟩ = some (.string x.byte) ∧ w'.cell? ⟨g, i * 6 + 5, none⟩ = some (.bool x.gone) :=
  ⟨(World.cell?_of_block (a := ⟨g, i * 6, none⟩) (hb.block g hg)).trans h.1, (World.cell?_of_block (a := ⟨g, i * 6 + 1, none⟩) (hb.block g hg)).trans h.2.1, (World.cell?_of_block (a := ⟨g, i * 6 + 2, none⟩) (hb.block g hg)).trans h.2.2.1, (World.cell?_of_block (a := ⟨g, i * 6 + 3, none⟩) (hb.block g hg)).trans h.2.2.2.1, (World.cell?_of_block (a := ⟨g, i * 6 + 4, none⟩) (hb.block g hg)).trans h.2.2.2.2.1, (World.cell?_of_block (a := ⟨g, i * 6 + 5, none⟩) (hb.block g hg)).trans h.2.2.2.2.2⟩

theorem mrun_step {out m : List Am} {k : Nat} (hk : k < m.length) {A : List Am} (h : mstep out m[k] = some A) : mrun out (m.drop k) = mrun A (m.drop (k + 1)) := by
  rw [List.drop_eq_getElem_cons hk, mrun, h]
  rfl
theorem mrun_stop {out m : List Am} {k : Nat} (hk : k < m.length) (h : mstep out m[k] = none) : mrun out (m.drop k) = none := by
  rw [List.drop_eq_getElem_cons hk, mrun, h]
  rfl
theorem mstep_new {out : List Am} {y : Am} (h : out.findIdx? (at2 y.time y.actor) = none) : mstep out y = some (out ++ [y]) := by unfold mstep; rw [h]
theorem mstep_old {out : List Am} {y : Am} {q : Nat} (h : out.findIdx? (at2 y.time y.actor) = some q) : ∃ hq : q < out.length, mstep out y = if alk y out[q] = true then some (out.set q { out[q] with gone := out[q].gone || y.gone }) else none := by
  obtain ⟨hq, -⟩ := List.findIdx?_eq_some_iff_getElem.1 h
  refine ⟨hq, ?_⟩
  unfold mstep
  rw [h]
  simp only [List.getElem?_eq_getElem hq]
  rfl
theorem boxes3I (w : World) (x y z : Value) : ∃ w1, w1 = ((w.alloc (.cells #[x] 28)).alloc (.cells #[y] 28)).alloc (.cells #[z] 28) ∧ w1.heap.size = w.heap.size + 3 ∧ Below w.heap.size w w1 ∧ CellR w1 w.heap.size x ∧ CellR w1 (w.heap.size + 1) y ∧ CellR w1 (w.heap.size + 2) z := by
  obtain ⟨s1, b1, k0, k1⟩ := boxesS2 w x y
  refine ⟨_, rfl, by simp, b1.alloc (by simp <;> omega) _, k0.later ((Below.refl _ _).alloc (Nat.le_refl _) _), k1.later ((Below.refl _ _).alloc (Nat.le_refl _) _), ?_⟩
  have := CellR.new ((w.alloc (.cells #[x] 28)).alloc (.cells #[y] 28)) z
  rwa [s1] at this

set_option maxRecDepth 100000 in
set_option maxHeartbeats 8000000 in
theorem mergeI {w : World} {a : Option Addr} {cap : Nat} {l : List Am} (h : SIn w a cap l) {a2 : Option Addr} {cap2 : Nat} {m : List Am} (h2 : SIn w a2 cap2 m) (hT : Tab w) :
    Calls Tryd.prog 9 #[.agg #[.slice a l.length cap], .agg #[.slice a2 m.length cap2]] w fun e w' => ∃ v, e = .returned (.tuple #[.agg #[v], .bool (mgB l m)]) ∧ AmOwn w' w.heap.size v (mgL l m) ∧ Below w.heap.size w w' := by
  obtain ⟨w0, hw0, hs0, hb0, hk0, hk1, hk2⟩ := boxes3I w (.slice a l.length cap) (.slice a2 m.length cap2) (.slice none 0 0)
  have HB0 := hide hb0
  have HK0 := hide hk0
  have HK1 := hide hk1
  have HK2 := hide hk2
  have HS0 := hide hs0
  have S1 := hide (goodSeqI (h.later hb0) (hT.below hb0))
  have S2 := hide (fun w' (hb : Below w0.heap.size w0 w') => goodSeqI ((h2.later hb0).later hb) ((hT.below hb0).below hb))
  have k0 := hk0.cell
  have k1 := hk1.cell
  have H1 := hide h
  have H2 := hide h2
  have hl1 := h.len
  have hl2 := h2.len
  have HTb := hide hT
  clear h h2 hT hb0 hk0 hk1 hk2 hs0
  cases hq1 : goodQ l with
  | false =>
    have HRD := hide (mg_no (l := l) (m := m) (.inl hq1))
    rw [HRD.out.1, HRD.out.2]
    rw [hq1] at S1
    clear hq1
    go_enter Tryd.func9, Tryd.ntmps9
    rw [hw0] at k0
    go_wp2_with fail
    rw [← hw0] at k0 ⊢
    clear hw0 k0
    refine S1.out.mono ?_
    rintro e w1 ⟨rfl, hb1⟩
    have HKz := hide (HK2.out.later hb1)
    have HBz := hide (HB0.out.trans (hb1.mono HB0.out.size))
    have k3 := HKz.out.cell
    have f3 := HKz.out.fz
    clear hb1
    go_wp2
    refine bodyPost_ret (results_cell_tmp rfl _ _ (w.heap.size + 2) 28 _ (0, 0) _ (.bool false) rfl rfl (HKz.out.put _) Tryd.underlying28 rfl sizeSeqI) rfl ?_
    exact ⟨_, rfl, World.ownsRow_nil _ _ _ _, HBz.out.setCell (p := ⟨w.heap.size + 2, 0, none⟩) (by show w.heap.size ≤ w.heap.size + 2; omega) _⟩
  | true =>
    cases hq2 : goodQ m with
    | false =>
      have HRD := hide (mg_no (l := l) (m := m) (.inr (.inl hq2)))
      rw [HRD.out.1, HRD.out.2]
      rw [hq1] at S1
      rw [hq2] at S2
      clear hq1 hq2
      go_enter Tryd.func9, Tryd.ntmps9
      rw [hw0] at k0
      go_wp2_with fail
      rw [← hw0] at k0 ⊢
      clear hw0 k0
      refine S1.out.mono ?_
      rintro e w1 ⟨rfl, hb1⟩
      have HB1 := hide (HB0.out.trans (hb1.mono HB0.out.size))
      have HKy := hide (HK2.out.later hb1)
      have k4 := (HK1.out.later hb1).cell
      have S3 := hide (S2.out w1 hb1)
      clear hb1 k1
      go_wp2_with fail
      refine S3.out.mono ?_
      rintro e w2 ⟨rfl, hb2⟩
      have HKz := hide (HKy.out.later hb2)
      have HBz := hide (HB1.out.trans (hb2.mono HB1.out.size))
      have k3 := HKz.out.cell
      have f3 := HKz.out.fz
      clear hb2 k4
      go_wp2
      refine bodyPost_ret (results_cell_tmp rfl _ _ (w.heap.size + 2) 28 _ (0, 0) _ (.bool false) rfl rfl (HKz.out.put _) Tryd.underlying28 rfl sizeSeqI) rfl ?_
      exact ⟨_, rfl, World.ownsRow_nil _ _ _ _, HBz.out.setCell (p := ⟨w.heap.size + 2, 0, none⟩) (by show w.heap.size ≤ w.heap.size + 2; omega) _⟩
    | true =>
      have HNN : Hid (mrg l m = none → mgB l m = false ∧ mgL l m = []) := hide (fun c => mg_no (.inr (.inr c)))
      have HSS : Hid (∀ out, mrg l m = some out → mgB l m = goodQ out ∧ mgL l m = if goodQ out = true then out else []) := hide (fun out c => mg_some hq1 hq2 c)
      have HRS := hide (mrg_mrun _ l m (Nat.le_refl _) (good_ris hq1) (good_ris hq2))
      have HX1 : Hid (∀ i (hi : i < l.length), l[i].byte.size = 1) := hide (fun i hi => by have := (good_at hq1 hi).1; unfold isOk at this; simp at this; omega)
      have HX2 : Hid (∀ i (hi : i < m.length), m[i].byte.size = 1) := hide (fun i hi => by have := (good_at hq2 hi).1; unfold isOk at this; simp at this; omega)
      have hg1 := good_len hq1
      have hg2l := good_len hq2
      rw [hq1] at S1
      rw [hq2] at S2
      obtain ⟨D, hDD⟩ : ∃ D, mgB l m = D := ⟨_, rfl⟩
      obtain ⟨R, hRR⟩ : ∃ R, mgL l m = R := ⟨_, rfl⟩
      simp only [hDD, hRR] at HNN HSS ⊢
      clear hq1 hq2 hDD hRR
      go_enter Tryd.func9, Tryd.ntmps9
      rw [hw0] at k0
      go_wp2_with fail
      rw [← hw0] at k0 ⊢
      clear hw0 k0
      refine S1.out.mono ?_
      rintro e w1 ⟨rfl, hb1⟩
      have HB1 := hide (HB0.out.trans (hb1.mono HB0.out.size))
      have HJ0 := hide (HK0.out.later hb1)
      have HJ1 := hide (HK1.out.later hb1)
      have HJ2 := hide (HK2.out.later hb1)
      have k4 := HJ1.out.cell
      have S3 := hide (S2.out w1 hb1)
      clear hb1 k1 S1 S2 HK0 HK1 HK2
      go_wp2_with fail
      refine S3.out.mono ?_
      rintro e w2 ⟨rfl, hb2⟩
      have HB2 := hide (HB1.out.trans (hb2.mono HB1.out.size))
      have k5 := (HJ0.out.later hb2).cell
      have CLN := hide (cloneA (H1.out.later HB2.out).inn (by omega))
      have I1 := hide (HJ1.out.later hb2)
      have I2 := hide (HJ2.out.later hb2)
      clear hb2 k4 S3 HJ0 HJ1 HJ2
      go_wp2_with fail
      refine CLN.out.mono ?_
      rintro e w3 ⟨v3, rfl, o3, hb3⟩
      have HB3 := hide (HB2.out.trans (hb3.mono HB2.out.size))
      have I13 := hide (I1.out.later hb3)
      have I23 := hide (I2.out.later hb3)
      have hO3 : w.heap.size + 2 < w2.heap.size := I2.out.lt
      obtain ⟨av3, cv3, rfl, -⟩ := own_shp o3
      have R0 : Hid (MRI l m w3 w2.heap.size 0 (.slice av3 l.length cv3) l w3) := hide ⟨o3, Below.refl _ _, Nat.le_refl _, rfl, HX1.out⟩
      have HS23 := hide hb3.size
      have k6 := I13.out.cell
      clear o3 hb3 k5 CLN I1 I2
      go_wp2
      go_loopw [6, 25] (fun v i wr => ∃ k : Nat, k ≤ m.length ∧ i = .int .i64 k ∧ ∃ v0 out, v0 = v ∧ Hid (MRI l m w3 w2.heap.size k v0 out wr)) (fun _ i _ => m.length - (intOf i).toNat)
      case atStart => exact ⟨0, by omega, rfl, _, l, rfl, R0⟩
      case round =>
        obtain ⟨k, hk, rfl, v, out, rfl, HT⟩ := hrel
        clear R0 k6
        obtain ⟨av, cv, rfl, -⟩ := own_shp HT.out.own
        have HBW := hide (HB3.out.trans (HT.out.bel.mono (by omega)))
        have hol := HT.out.len
        have hws := HT.out.bel.size
        have hs23 := HS23.out
        have J2 : Hid (CellR wr (w.heap.size + 2) (.slice none 0 0)) := hide (by unfold CellR; rw [HT.out.bel.block _ (by omega)]; exact I23.out)
        by_cases hlt : k < m.length
        · obtain ⟨g2, rfl, hg2, -⟩ := H2.out.inn.ad (by intro c; rw [c] at hlt; simp at hlt)
          obtain ⟨g2', e2', -, hc2⟩ := (H2.out.later HBW.out).inn.ad (by intro c; rw [c] at hlt; simp at hlt)
          cases e2'
          obtain ⟨y, hy⟩ : ∃ y, y = m[k] := ⟨_, rfl⟩
          have hy6 := hc2.amat k hlt
          rw [← hy] at hy6
          obtain ⟨c0, c1, c2, c3, c4, c5⟩ := hy6
          obtain ⟨w4, hw4⟩ : ∃ w4, w4 = wr.alloc (.cells #[.int .i64 y.time, .int .i64 y.actor, .int .i64 y.above, .int .i64 y.maker, .string y.byte, .bool y.gone] 47) := ⟨_, rfl⟩
          have hb4 : Below wr.heap.size wr w4 := by rw [hw4]; exact (Below.refl _ _).alloc (Nat.le_refl _) _
          have BY4 : Hid (BxA w4 wr.heap.size y) := hide (by rw [hw4]; exact BxA.new _ y)
          have IDC := hide (id_any y w4)
          unfold amV at IDC
          have HSTN := hide (fun (c : out.findIdx? (at2 y.time y.actor) = none) => mrun_step hlt (by rw [← hy]; exact mstep_new c))
          have HSTO := hide (fun (q : Nat) (c : out.findIdx? (at2 y.time y.actor) = some q) => mstep_old c)
          have HSTY := hide (fun (A : List Am) (c : mstep out y = some A) => mrun_step (k := k) hlt (by rw [← hy]; exact c))
          have HSTF := hide (fun (c : mstep out y = none) => mrun_stop (k := k) hlt (by rw [← hy]; exact c))
          have HYB : Hid (y.byte.size = 1) := hide (by rw [hy]; exact HX2.out k hlt)
          have HP4 := hide hb4
          obtain ⟨b0, b1, b2, b3, b4, b5⟩ := BY4.out.cells
          rw [hw4] at b0 b1 b2 b3 b4 b5
          clear hb4 hc2 hy
          go_wp2_with fail
          rw [← hw4] at b0 b1 b2 b3 b4 b5 ⊢
          clear hw4 c0 c1 c2 c3 c4 c5 b0 b1 b2 b3 b4 b5
          refine IDC.out.mono ?_
          rintro e w5 ⟨rfl, hb5⟩
          have HP5 := hide (HP4.out.trans (hb5.mono HP4.out.size))
          have OW5 := hide (own_below HT.out.own HP5.out)
          have BY5 := hide (BY4.out.later hb5)
          have NO := hide (numberOf_any (show AmIn w5 av cv out from (by obtain ⟨a', c', e', hi⟩ := AmOwn.inn (show AmOwn w5 w2.heap.size _ out from OW5.out); cases e'; exact hi)) (by omega) y.time y.actor)
          clear hb5 IDC BY4
          go_wp2_with fail
          refine NO.out.mono ?_
          rintro e w6 ⟨rfl, hb6⟩
          have HP6 := hide (HP5.out.trans (hb6.mono HP5.out.size))
          have OW6 := hide (own_below OW5.out hb6)
          have BY6 := hide (BY5.out.later hb6)
          have hs6 := HP6.out.size
          clear hb6 NO BY5 OW5
          cases hf : out.findIdx? (at2 y.time y.actor) with
          | none =>
            rw [show fidx (at2 y.time y.actor) out = -1 by unfold fidx; rw [hf]]
            have HEQ := hide (HSTN.out hf)
            obtain ⟨b0, b1, b2, b3, b4, b5⟩ := BY6.out.cells
            have HM : Hid (AmIn (w6.alloc (.cells #[.int .i64 y.time, .int .i64 y.actor, .int .i64 y.above, .int .i64 y.maker, .string y.byte, .bool y.gone] 47)) (some ⟨w6.heap.size, 0, none⟩) 1 [y]) := hide (AmIn.one w6 y)
            clear hf HSTN HSTO HSTY HSTF
            go_wp2_with (at_builtin; go_loud (refine append_ams _ rfl _ _ rfl w2.heap.size _ out (OW6.out.alloc _) _ 1 [y] (by simp <;> omega) rfl rfl HM.out (by simp; omega) ?_); intro v7 w7 own7 grow7 _; have N7 : Hid (MRI l m w3 w2.heap.size (k + 1) v7 (out ++ [y]) w7) := hide ⟨own7, HT.out.bel.trans ((Below.alloc (HP6.out.mono (by omega)) (by omega) _).grown grow7 (by simp; omega) (fun z hz => (World.ownsRow.lt OW6.out z hz).1)), by simp; omega, by rw [HT.out.eq]; exact HEQ.out, fun i hi => by rw [List.getElem_append]; split; exact HT.out.txt i _; simp; exact HYB.out⟩; obtain ⟨a7, c7, he7, -⟩ := own_shp own7; rw [show (out ++ [y]).length = out.length + 1 by simp] at he7; subst he7; clear own7 grow7)
            exact ⟨⟨k + 1, by omega, by go_num, _, _, rfl, N7⟩, by simp [intOf]; omega⟩
          | some q =>
            rw [show fidx (at2 y.time y.actor) out = (q : Int) by unfold fidx; rw [hf]]
            obtain ⟨hq, hst⟩ := HSTO.out q hf
            have qq1 : (0 : Int) ≤ (q : Int) := by omega
            have qq2 : (q : Int) < (out.length : Int) := by omega
            obtain ⟨gv, cv', e', -, -, hgB, hgl, hcv, hfz⟩ := own_cat OW6.out (by omega)
            cases e'
            have hz6 := hcv.amat q hq
            obtain ⟨z, hz⟩ : ∃ z, z = out[q] := ⟨_, rfl⟩
            rw [← hz] at hz6 hst
            have HST := hide hst
            have HZ6 := hide hz6
            have HZE := hide hz
            obtain ⟨zg, hzg⟩ : ∃ g, g = z.gone := ⟨_, rfl⟩
            have KS : Hid (∀ w', Below w6.heap.size w6 w' → w'.cell? ⟨wr.heap.size, 0, none⟩ = some (.int .i64 y.time) ∧ w'.cell? ⟨wr.heap.size, 1, none⟩ = some (.int .i64 y.actor) ∧ w'.cell? ⟨wr.heap.size, 2, none⟩ = some (.int .i64 y.above) ∧ w'.cell? ⟨wr.heap.size, 3, none⟩ = some (.int .i64 y.maker) ∧ w'.cell? ⟨wr.heap.size, 4, none⟩ = some (.string y.byte) ∧ w'.cell? ⟨wr.heap.size, 5, none⟩ = some (.bool y.gone) ∧ w'.cell? ⟨gv, q * 6, none⟩ = some (.int .i64 z.time) ∧ w'.cell? ⟨gv, q * 6 + 1, none⟩ = some (.int .i64 z.actor) ∧ w'.cell? ⟨gv, q * 6 + 2, none⟩ = some (.int .i64 z.above) ∧ w'.cell? ⟨gv, q * 6 + 3, none⟩ = some (.int .i64 z.maker) ∧ w'.cell? ⟨gv, q * 6 + 4, none⟩ = some (.string z.byte) ∧ w'.cell? ⟨gv, q * 6 + 5, none⟩ = some (.bool zg)) := hide (fun w' hb => by
              rw [hzg]
              have Y := (BY6.out.later hb).cells
              exact ⟨Y.1, Y.2.1, Y.2.2.1, Y.2.2.2.1, Y.2.2.2.2.1, Y.2.2.2.2.2, at6I hb hgl hz6⟩)
            have SA := hide (fun w => saidAs_any y z w)
            unfold amV at SA
            obtain ⟨C, hC⟩ : ∃ C, C = alk y z := ⟨_, rfl⟩
            rw [← hC] at SA HST
            rw [← hzg] at SA
            have HZG := hide hzg
            clear hzg
            clear hf HSTN HSTO hst hz6 hcv hz hC
            go_upto_region 11 with fail
            cases C with
            | false =>
              have HRD : Hid (D = false ∧ R = []) := hide (HNN.out (by
                rcases HRS.out with ⟨e1, -⟩ | ⟨o', A', -, e2, -⟩
                · exact e1
                · rw [HT.out.eq, HSTF.out (by rw [HST.out]; rfl)] at e2; cases e2))
              clear HSTF HSTY HNN HSS HRS
              refine wp_region_held_drew (S := fun w' => w'.cell? ⟨wr.heap.size, 0, none⟩ = some (.int .i64 y.time) ∧ w'.cell? ⟨wr.heap.size, 1, none⟩ = some (.int .i64 y.actor) ∧ w'.cell? ⟨wr.heap.size, 2, none⟩ = some (.int .i64 y.above) ∧ w'.cell? ⟨wr.heap.size, 3, none⟩ = some (.int .i64 y.maker) ∧ w'.cell? ⟨wr.heap.size, 4, none⟩ = some (.string y.byte) ∧ w'.cell? ⟨wr.heap.size, 5, none⟩ = some (.bool y.gone) ∧ w'.cell? ⟨gv, q * 6, none⟩ = some (.int .i64 z.time) ∧ w'.cell? ⟨gv, q * 6 + 1, none⟩ = some (.int .i64 z.actor) ∧ w'.cell? ⟨gv, q * 6 + 2, none⟩ = some (.int .i64 z.above) ∧ w'.cell? ⟨gv, q * 6 + 3, none⟩ = some (.int .i64 z.maker) ∧ w'.cell? ⟨gv, q * 6 + 4, none⟩ = some (.string z.byte) ∧ w'.cell? ⟨gv, q * 6 + 5, none⟩ = some (.bool zg)) (by kernel_rfl) (KS.out _ (Below.refl _ _).drew) (fun hS => ?_)
              refine wpAnyH_take (i := 0) (v := .agg #[.int .i64 y.time, .int .i64 y.actor, .int .i64 y.above, .int .i64 y.maker, .string y.byte, .bool y.gone]) (List.getElem?_toArray.trans rfl) (by kernel_rfl) (by kernel_rfl) (by kernel_rfl) (fun _ _ _ h => h) (Or.inl ⟨by rfl, fun w' hw => by obtain ⟨b0, b1, b2, b3, b4, b5, z0, z1, z2, z3, z4, z5⟩ := hw; go_simp⟩) hS ?_
              try simp only [Act.put, List.setIfInBounds_toArray, List.set_cons_zero, List.set_cons_succ]
              refine wpAnyH_take (i := 1) (v := .slice (some ⟨gv, 0, none⟩) out.length cv) (List.getElem?_toArray.trans rfl) (by kernel_rfl) (by kernel_rfl) (by kernel_rfl) (fun _ _ _ h => h) (Or.inl ⟨by rfl, fun w' hw => by go_simp⟩) hS ?_
              try simp only [Act.put, List.setIfInBounds_toArray, List.set_cons_zero, List.set_cons_succ]
              refine wpAnyH_take (i := 2) (v := .int .i64 (q : Int)) (List.getElem?_toArray.trans rfl) (by kernel_rfl) (by kernel_rfl) (by kernel_rfl) (fun _ _ _ h => h) (Or.inl ⟨by rfl, fun w' hw => by go_simp⟩) hS ?_
              try simp only [Act.put, List.setIfInBounds_toArray, List.set_cons_zero, List.set_cons_succ]
              refine wpAnyH_take (i := 3) (v := .pointer (some ⟨gv, q * 6, none⟩)) (List.getElem?_toArray.trans rfl) (by kernel_rfl) (by kernel_rfl) (by kernel_rfl) (fun _ _ _ h => h) (Or.inl ⟨by rfl, fun w' hw => by go_simp⟩) hS ?_
              try simp only [Act.put, List.setIfInBounds_toArray, List.set_cons_zero, List.set_cons_succ]
              refine wpAnyH_take (i := 4) (v := .agg #[.int .i64 z.time, .int .i64 z.actor, .int .i64 z.above, .int .i64 z.maker, .string z.byte, .bool zg]) (List.getElem?_toArray.trans rfl) (by kernel_rfl) (by kernel_rfl) (by kernel_rfl) (fun _ _ _ h => h) (Or.inl ⟨by rfl, fun w' hw => by obtain ⟨b0, b1, b2, b3, b4, b5, z0, z1, z2, z3, z4, z5⟩ := hw; go_simp⟩) hS ?_
              try simp only [Act.put, List.setIfInBounds_toArray, List.set_cons_zero, List.set_cons_succ]
              refine wpAnyH_ready (rs := [5]) (by kernel_rfl) (by simp) ?_
              refine AllReadyH.cons rfl (fun K hK => ?_) AllReadyH.nil
              go_simp
              go_at_call 29
              refine (SA.out _).mono ?_
              rintro e w8 ⟨rfl, hw8⟩; have hb8 : Below w6.heap.size w6 w8 := (Below.refl _ _).drew.trans hw8
              have hS1 := KS.out w8 hb8
              go_simp
              refine hK.out _ _ hS1 (fun _ => ?_)
              clear hK K
              refine wpAnyH_take (i := 6) (v := .bool true) (List.getElem?_toArray.trans rfl) (by kernel_rfl) (by kernel_rfl) (by kernel_rfl) (fun _ _ _ h => h) (Or.inl ⟨by rfl, fun w' hw => by go_simp⟩) hS1 ?_
              try simp only [Act.put, List.setIfInBounds_toArray, List.set_cons_zero, List.set_cons_succ]
              refine wpAnyH_take (i := 7) (v := .bool true) (List.getElem?_toArray.trans rfl) (by kernel_rfl) (by kernel_rfl) (by kernel_rfl) (fun _ _ _ h => h) (Or.inl ⟨by rfl, fun w' hw => by go_simp⟩) hS1 ?_
              try simp only [Act.put, List.setIfInBounds_toArray, List.set_cons_zero, List.set_cons_succ]
              refine wpAnyH_done (by kernel_rfl) ?_ _
              have HP8 := hide (HP6.out.trans (hb8.mono HP6.out.size))
              have HK8 := hide (J2.out.later HP8.out)
              have HBw8 := hide (HBW.out.trans (HP8.out.mono HBW.out.size))
              have k3 := HK8.out.cell
              have f3 := HK8.out.fz
              clear KS
              go_wp2
              refine bodyPost_ret (results_cell_tmp rfl _ _ (w.heap.size + 2) 28 _ (0, 0) _ (.bool false) rfl rfl (HK8.out.put _) Tryd.underlying28 rfl sizeSeqI) rfl ?_
              rw [HRD.out.1, HRD.out.2]
              exact ⟨_, rfl, World.ownsRow_nil _ _ _ _, HBw8.out.setCell (p := ⟨w.heap.size + 2, 0, none⟩) (by show w.heap.size ≤ w.heap.size + 2; omega) _⟩
            | true =>
              have HEQ := hide (HSTY.out _ (by rw [HST.out, if_pos rfl]))
              clear HSTF HSTY HNN HSS HRS HST
              refine wp_region_held_drew (S := fun w' => w'.cell? ⟨wr.heap.size, 0, none⟩ = some (.int .i64 y.time) ∧ w'.cell? ⟨wr.heap.size, 1, none⟩ = some (.int .i64 y.actor) ∧ w'.cell? ⟨wr.heap.size, 2, none⟩ = some (.int .i64 y.above) ∧ w'.cell? ⟨wr.heap.size, 3, none⟩ = some (.int .i64 y.maker) ∧ w'.cell? ⟨wr.heap.size, 4, none⟩ = some (.string y.byte) ∧ w'.cell? ⟨wr.heap.size, 5, none⟩ = some (.bool y.gone) ∧ w'.cell? ⟨gv, q * 6, none⟩ = some (.int .i64 z.time) ∧ w'.cell? ⟨gv, q * 6 + 1, none⟩ = some (.int .i64 z.actor) ∧ w'.cell? ⟨gv, q * 6 + 2, none⟩ = some (.int .i64 z.above) ∧ w'.cell? ⟨gv, q * 6 + 3, none⟩ = some (.int .i64 z.maker) ∧ w'.cell? ⟨gv, q * 6 + 4, none⟩ = some (.string z.byte) ∧ w'.cell? ⟨gv, q * 6 + 5, none⟩ = some (.bool zg)) (by kernel_rfl) (KS.out _ (Below.refl _ _).drew) (fun hS => ?_)
              refine wpAnyH_take (i := 0) (v := .agg #[.int .i64 y.time, .int .i64 y.actor, .int .i64 y.above, .int .i64 y.maker, .string y.byte, .bool y.gone]) (List.getElem?_toArray.trans rfl) (by kernel_rfl) (by kernel_rfl) (by kernel_rfl) (fun _ _ _ h => h) (Or.inl ⟨by rfl, fun w' hw => by obtain ⟨b0, b1, b2, b3, b4, b5, z0, z1, z2, z3, z4, z5⟩ := hw; go_simp⟩) hS ?_
              try simp only [Act.put, List.setIfInBounds_toArray, List.set_cons_zero, List.set_cons_succ]
              refine wpAnyH_take (i := 1) (v := .slice (some ⟨gv, 0, none⟩) out.length cv) (List.getElem?_toArray.trans rfl) (by kernel_rfl) (by kernel_rfl) (by kernel_rfl) (fun _ _ _ h => h) (Or.inl ⟨by rfl, fun w' hw => by go_simp⟩) hS ?_
              try simp only [Act.put, List.setIfInBounds_toArray, List.set_cons_zero, List.set_cons_succ]
              refine wpAnyH_take (i := 2) (v := .int .i64 (q : Int)) (List.getElem?_toArray.trans rfl) (by kernel_rfl) (by kernel_rfl) (by kernel_rfl) (fun _ _ _ h => h) (Or.inl ⟨by rfl, fun w' hw => by go_simp⟩) hS ?_
              try simp only [Act.put, List.setIfInBounds_toArray, List.set_cons_zero, List.set_cons_succ]
              refine wpAnyH_take (i := 3) (v := .pointer (some ⟨gv, q * 6, none⟩)) (List.getElem?_toArray.trans rfl) (by kernel_rfl) (by kernel_rfl) (by kernel_rfl) (fun _ _ _ h => h) (Or.inl ⟨by rfl, fun w' hw => by go_simp⟩) hS ?_
              try simp only [Act.put, List.setIfInBounds_toArray, List.set_cons_zero, List.set_cons_succ]
              refine wpAnyH_take (i := 4) (v := .agg #[.int .i64 z.time, .int .i64 z.actor, .int .i64 z.above, .int .i64 z.maker, .string z.byte, .bool zg]) (List.getElem?_toArray.trans rfl) (by kernel_rfl) (by kernel_rfl) (by kernel_rfl) (fun _ _ _ h => h) (Or.inl ⟨by rfl, fun w' hw => by obtain ⟨b0, b1, b2, b3, b4, b5, z0, z1, z2, z3, z4, z5⟩ := hw; go_simp⟩) hS ?_
              try simp only [Act.put, List.setIfInBounds_toArray, List.set_cons_zero, List.set_cons_succ]
              refine wpAnyH_ready (rs := [5]) (by kernel_rfl) (by simp) ?_
              refine AllReadyH.cons rfl (fun K hK => ?_) AllReadyH.nil
              go_simp
              go_at_call 29
              refine (SA.out _).mono ?_
              rintro e w8 ⟨rfl, hw8⟩; have hb8 : Below w6.heap.size w6 w8 := (Below.refl _ _).drew.trans hw8
              have hS1 := KS.out w8 hb8
              go_simp
              refine hK.out _ _ hS1 (fun _ => ?_)
              clear hK K
              refine wpAnyH_take (i := 6) (v := .bool false) (List.getElem?_toArray.trans rfl) (by kernel_rfl) (by kernel_rfl) (by kernel_rfl) (fun _ _ _ h => h) (Or.inl ⟨by rfl, fun w' hw => by go_simp⟩) hS1 ?_
              try simp only [Act.put, List.setIfInBounds_toArray, List.set_cons_zero, List.set_cons_succ]
              refine wpAnyH_take (i := 7) (v := .bool false) (List.getElem?_toArray.trans rfl) (by kernel_rfl) (by kernel_rfl) (by kernel_rfl) (fun _ _ _ h => h) (Or.inl ⟨by rfl, fun w' hw => by go_simp⟩) hS1 ?_
              try simp only [Act.put, List.setIfInBounds_toArray, List.set_cons_zero, List.set_cons_succ]
              refine wpAnyH_done (by kernel_rfl) ?_ _
              have HP8 := hide (HP6.out.trans (hb8.mono HP6.out.size))
              have OW8 := hide (own_below OW6.out hb8)
              obtain ⟨d0, d1, d2, d3, d4, d5, x0, x1, x2, x3, x4, x5⟩ := KS.out w8 hb8
              have hgw8 : gv < w8.heap.size := by have := hb8.size; omega
              obtain ⟨gv', cv', e', -, -, -, -, -, hfz8⟩ := own_cat OW8.out (by omega)
              cases e'
              have e5 := hfz8.fz (q * 6 + 5)
              have FN : Hid (∀ b : Bool, b = (z.gone || y.gone) → MRI l m w3 w2.heap.size (k + 1) (.slice (some ⟨gv, 0, none⟩) out.length cv) (out.set q { out[q] with gone := b }) (w8.setCell ⟨gv, q * 6 + 5, none⟩ (.bool b))) := hide (fun b hb => by
                refine ⟨AmOwn.setg OW8.out hq b, (HT.out.bel.trans (HP8.out.mono (by omega))).setCell (p := ⟨gv, q * 6 + 5, none⟩) hgB _, by rw [List.length_set]; omega, ?_, fun i hi => ?_⟩
                · rw [HT.out.eq, HEQ.out, hb, HZE.out]
                · rw [List.getElem_set]
                  split
                  · exact HT.out.txt q hq
                  · exact HT.out.txt i (by rw [List.length_set] at hi; exact hi))
              rw [← HZG.out] at FN
              clear KS hS1 hS d0 d1 d2 d3 d4 x0 x1 x2 x3 x4 HEQ
              cases zg with
              | true =>
                have N8 := hide (FN.out true rfl)
                clear FN
                go_wp2
                exact ⟨⟨k + 1, by omega, by go_num, _, _, rfl, N8⟩, by simp [intOf]; omega⟩
              | false =>
                have N8 := hide (FN.out y.gone rfl)
                clear FN
                go_wp2
                exact ⟨⟨k + 1, by omega, by go_num, _, _, rfl, N8⟩, by simp [intOf]; omega⟩
        · obtain rfl : k = m.length := by omega
          have hrun : mrun l m = some out := by rw [HT.out.eq, List.drop_length]; rfl
          obtain ⟨o, hmo, hpo, hro⟩ : ∃ o, mrg l m = some o ∧ out.Perm o ∧ Ris o := by
            rcases HRS.out with ⟨-, e2⟩ | ⟨o', A', e1, e2, e3, e4⟩
            · rw [hrun] at e2; cases e2
            · rw [hrun] at e2; cases e2; exact ⟨o', e1, e3, e4⟩
          have HRD := hide (HSS.out o hmo)
          have hlo : out.length = o.length := hpo.length_eq
          have HT1 : Hid (∀ j (hj : j < o.length), o[j].byte.size ≤ 1048576) := hide (fun j hj => by rw [mrg_one HX1.out HX2.out hmo j hj]; omega)
          have SRT : Hid (Calls Tryd.prog 30 #[.slice av out.length cv, .func (.func 31) #[] #[]] wr fun e w' => e = .returned (.tuple #[]) ∧ AmOwn w' w2.heap.size (.slice av o.length cv) o ∧ Go.RowKit.Below w2.heap.size wr w') := hide (by
            by_cases h0 : out = []
            · have ho : o = [] := by rw [h0] at hpo; exact hpo.nil_eq.symm
              have own := HT.out.own
              rw [h0] at own ⊢
              rw [ho]
              exact (AnyF.slices_SortFunc_none Tryd.sortAm av cv _ wr).mono (fun e w' ⟨h1, h2⟩ => ⟨h1, by rw [h2]; exact own, by rw [h2]; exact Go.RowKit.Below.refl _ _⟩)
            · obtain ⟨g, c, e, -⟩ := own_cat HT.out.own (List.length_pos_iff.2 h0)
              cases e
              refine (sort_own HT.out.own (List.length_pos_iff.2 h0) (by omega)).mono ?_
              rintro e w' ⟨h1, l', p1, p2, p3, p4⟩
              have : l' = o := sorted_eq (p1.trans hpo) hro p2
              subst this
              exact ⟨h1, by rw [← hlo]; exact p3, p4⟩)
          have HBW2 := hide HBW.out
          rw [hlo] at SRT
          clear HRS HSS HNN hrun hmo hpo hro HT
          go_wp2_with fail
          refine SRT.out.mono ?_
          rintro e w8 ⟨rfl, o8, hb8⟩
          have HB8 := hide (HBW.out.trans (hb8.mono (by omega)))
          have J8 : Hid (CellR w8 (w.heap.size + 2) (.slice none 0 0)) := hide (by unfold CellR; rw [hb8.block _ (by omega)]; exact J2.out)
          have hsin : SIn w8 av cv o := by
            obtain ⟨a', c', e', hi⟩ := AmOwn.inn (show AmOwn w8 w2.heap.size _ o from o8)
            cases e'
            exact ⟨hi, by omega, HT1.out⟩
          have SO := hide (seqOf_any hsin (HTb.out.below HB8.out))
          clear o8 hb8 hsin SRT
          go_wp2_with fail
          refine SO.out.mono ?_
          rintro e w9 ⟨v9, rfl, o9, hb9⟩
          have HB9 := hide (HB8.out.trans (hb9.mono HB8.out.size))
          have J9 := hide (J8.out.later hb9)
          have HO9 := hide o9
          have hR9 : w.heap.size + 2 < w8.heap.size := J8.out.lt
          have k9 := J9.out.cell
          have f9 := J9.out.fz
          obtain ⟨a9, c9, rfl, -⟩ := own_shp o9
          clear o9 hb9 SO
          go_wp2
          refine bodyPost_ret (results_cell_tmp rfl _ _ (w.heap.size + 2) 28 _ (0, 0) _ (.bool (goodQ o)) rfl rfl (J9.out.put _) Tryd.underlying28 rfl sizeSeqI) rfl ?_
          rw [HRD.out.1, HRD.out.2]
          exact ⟨_, rfl, AmOwn.mono (own_aside HO9.out (by omega) _ _) (by omega), HB9.out.setCell (p := ⟨w.heap.size + 2, 0, none⟩) (by show w.heap.size ≤ w.heap.size + 2; omega) _⟩
end Go.Proofs.YtnhooalibadeeabDoor

set_option linter.unusedVariables false
namespace Go.Proofs.YtnhooalibadeeabDoor
open Go.RowKit
open Doc1

def JnQ (T : TypeId) (w0 w1 : World) (c n : Nat) (a : Option Addr) (cc : Nat) (R : List Am) : Prop :=
  CellT T w1 c (.slice a n cc) ∧ w0.heap.size ≤ c ∧ AmOwn w1 w0.heap.size (.slice a n cc) R ∧ (∀ y, (Value.slice a n cc).ownBlock = some y → y ≠ c) ∧ Below w0.heap.size w0 w1
theorem jn_new (T : TypeId) {w0 wc : World} {b n cc : Nat} {a : Option Addr} {R : List Am} (h : Below w0.heap.size w0 wc) (hb : w0.heap.size ≤ b) (O : AmOwn wc b (.slice a n cc) R) :
    JnQ T w0 (wc.alloc (.cells #[.slice a n cc] T)) wc.heap.size n a cc R :=
  ⟨CellT.new _ _ _, h.size, own_below (World.ownsRow.mono O hb) ((Below.refl _ _).alloc (Nat.le_refl _) _), fun y hy e => by have := World.ownsRow.lt O y hy; omega, h.alloc h.size _⟩
theorem jn_set (T : TypeId) {w0 wc : World} {b c n cc : Nat} {a : Option Addr} {R : List Am} {x : Value} (h : Below w0.heap.size w0 wc) (hb : w0.heap.size ≤ c ∧ c < b) (O : AmOwn wc b (.slice a n cc) R) (Y : CellT T wc c x) :
    JnQ T w0 (wc.setCell ⟨c, 0, none⟩ (.slice a n cc)) c n a cc R :=
  ⟨cell_put Y 0 _, hb.1, World.ownsRow.mono (own_aside O hb.2 0 _) (by omega), fun y hy e => by have := World.ownsRow.lt O y hy; omega, h.setCell hb.1 _⟩
end Go.Proofs.YtnhooalibadeeabDoor

set_option linter.unusedVariables false
namespace Go.Proofs.YtnhooalibadeeabDoor
open Go.RowKit
open Doc1

set_option maxRecDepth 100000 in
set_option maxHeartbeats 8000000 in
theorem law_mergeSeqs (vl : Value) (l : List Am) (vm : Value) (m : List Am) (w : World) (hal : ArgAm w vl l) (hrl : ∀ i (hi : i < l.length), l[i].byte.size ≤ 9223372036854775807) (ham : ArgAm w vm m) (hrm : ∀ i (hi : i < m.length), m[i].byte.size ≤ 9223372036854775807) (hT : Tab w) :
    Calls Tryd.prog 3 #[.agg #[vl], .agg #[vm]] w fun e w' => e = .returned (.bool true) ∧ Below w.heap.size w w' := by
  obtain ⟨al, cl, ml, rfl⟩ := arg_shape hal
  obtain ⟨am, cm, mm, rfl⟩ := arg_shape ham
  by_cases fsl : szAmn l ≤ 1048576
  · skip
    by_cases fsm : szAmn m ≤ 1048576 - szAmn l
    · skip
      have hll : l.length ≤ 1048576 := by have q0 := fsl; unfold szAmn at q0; omega
      have htl : ∀ i (hi : i < l.length), l[i].byte.size ≤ 1048576 := fun i hi => Nat.le_trans (szAmn_txt l i hi) (by omega)
      have HAl := hide hal
      have SZl := hide (fun w' (h : ArgAm w' (.slice al ml cl) l) => szSeq_from h hrl (1048576) (by omega))
      rw [if_pos fsl] at SZl
      have TCl := hide (fun w' (h : ArgAm w' (.slice al ml cl) l) => toSeq_cp h (by omega))
      have hlm : m.length ≤ 1048576 := by have q0 := fsm; unfold szAmn at q0; omega
      have htm : ∀ i (hi : i < m.length), m[i].byte.size ≤ 1048576 := fun i hi => Nat.le_trans (szAmn_txt m i hi) (by omega)
      have HAm := hide ham
      have SZm := hide (fun w' (h : ArgAm w' (.slice am mm cm) m) => szSeq_from h hrm (1048576 - szAmn l) (by omega))
      rw [if_pos fsm] at SZm
      have TCm := hide (fun w' (h : ArgAm w' (.slice am mm cm) m) => toSeq_cp h (by omega))
      obtain ⟨Kl, hKl⟩ : ∃ K : Nat, 1048576 - szAmn l = K := ⟨_, rfl⟩
      rw [hKl] at SZl SZm fsm
      have e0l : decide ((Kl : Int) < 0) = false := by rw [decide_eq_false_iff_not]; omega
      obtain ⟨Km, hKm⟩ : ∃ K : Nat, Kl - szAmn m = K := ⟨_, rfl⟩
      rw [hKm] at SZm
      have e0m : decide ((Km : Int) < 0) = false := by rw [decide_eq_false_iff_not]; omega
      have HTXl := hide htl
      have HTXm := hide htm
      clear hal hrl htl hKl ham hrm htm hKm fsm fsl
      have HTb := hide hT
      have hB := hide (Below.refl w.heap.size w)
      clear hT
      have HS := hide (fun w' {g : Option Addr} {c : Nat} (h : SIn w' g c l) {g2 : Option Addr} {c2 : Nat} (h2 : SIn w' g2 c2 m) => mergeS h h2)
      have HI := hide (fun w' {g : Option Addr} {c : Nat} (h : SIn w' g c l) {g2 : Option Addr} {c2 : Nat} (h2 : SIn w' g2 c2 m) hT => mergeI h h2 hT)
      obtain ⟨R0, hR0⟩ : ∃ R, mgL l m = R := ⟨_, rfl⟩
      obtain ⟨R1, hR1⟩ : ∃ R, mgB l m = R := ⟨_, rfl⟩
      simp only [hR0, hR1] at HS HI
      have hlr0 : R0.length ≤ 1000000 := by rw [← hR0]; exact (Nat.le_trans (mgL_len l m) (by omega))
      clear hR0 hR1
      go_enter Tryd.func3, Tryd.ntmps3
      obtain ⟨w1, hw2⟩ : ∃ wq0, wq0 = w.alloc (.cells #[.slice al ml cl] 24) := ⟨_, rfl⟩
      have hb3 : Below w.heap.size w w1 := by rw [hw2]; exact (Below.refl _ _).alloc (Nat.le_refl _) _
      have e4 : Hid (w1.heap.size = w.heap.size + 1) := hide (by rw [hw2]; simp)
      have X5 : Hid (CellT 24 w1 w.heap.size (.slice al ml cl)) := hide (by rw [hw2]; exact CellT.new _ _ _)
      have z6 := hide hb3.size
      replace hB := hide (hB.out.trans (hb3.mono hB.out.size))
      clear hb3
      obtain ⟨w7, hw8⟩ : ∃ wq0, wq0 = w1.alloc (.cells #[.slice am mm cm] 24) := ⟨_, rfl⟩
      have hb9 : Below w1.heap.size w1 w7 := by rw [hw8]; exact (Below.refl _ _).alloc (Nat.le_refl _) _
      have e10 : Hid (w7.heap.size = w1.heap.size + 1) := hide (by rw [hw8]; simp)
      have X11 : Hid (CellT 24 w7 (w.heap.size + 1) (.slice am mm cm)) := hide (by rw [hw8, ← e4.out]; exact CellT.new _ _ _)
      replace X5 := hide (X5.out.later hb9)
      have z12 := hide hb9.size
      replace hB := hide (hB.out.trans (hb9.mono hB.out.size))
      clear hb9
      have SZ15 := hide (SZl.out w7 (HAl.out.later hB.out))
      go_wp2_with fail
      rw [← hw2]
      clear hw2
      rw [← hw8]
      clear hw8
      refine (SZ15.out).mono ?_
      rintro e w13 ⟨rfl, hb14⟩
      clear SZ15
      replace X5 := hide (X5.out.later hb14)
      replace X11 := hide (X11.out.later hb14)
      have z16 := hide hb14.size
      replace hB := hide (hB.out.trans (hb14.mono hB.out.size))
      clear hb14
      have SZ19 := hide (SZm.out w13 (HAm.out.later hB.out))
      have k20 := X11.out.cell
      go_wp2_with fail
      refine (SZ19.out).mono ?_
      rintro e w17 ⟨rfl, hb18⟩
      clear SZ19 k20
      replace X5 := hide (X5.out.later hb18)
      replace X11 := hide (X11.out.later hb18)
      have z21 := hide hb18.size
      replace hB := hide (hB.out.trans (hb18.mono hB.out.size))
      clear hb18
      have KC22 : Hid (∀ w', Below w17.heap.size w17 w' → w'.cell? ⟨w.heap.size, 0, none⟩ = some (.slice al ml cl) ∧ w'.cell? ⟨w.heap.size + 1, 0, none⟩ = some (.slice am mm cm)) := hide (fun w' hb => ⟨(X5.out.later hb).cell, (X11.out.later hb).cell⟩)
      have CT23 := hide (fun w' (hb : Below w17.heap.size w17 w') => TCl.out w' (HAl.out.later (hB.out.trans (hb.mono hB.out.size))))
      have CT24 := hide (fun w' (hb : Below w17.heap.size w17 w') => TCm.out w' (HAm.out.later (hB.out.trans (hb.mono hB.out.size))))
      have TB25 := hide (fun w' (hb : Below w17.heap.size w17 w') => HTb.out.below (hB.out.trans (hb.mono hB.out.size)))
      go_wp2_with fail
      go_cut [6, 7] from 27 to 34 (fun vb v7 wx => ∃ c a cc, vb = .pointer (some ⟨c, 0, none⟩) ∧ v7 = .bool R1 ∧ Hid (JnQ 28 w17 wx c R0.length a cc R0))
      case first =>
        go_region_held3 (fun w' => w'.cell? ⟨w.heap.size, 0, none⟩ = some (.slice al ml cl) ∧ w'.cell? ⟨w.heap.size + 1, 0, none⟩ = some (.slice am mm cm))
          (first | assumption | exact KC22.out _ (Below.refl _ _) | exact KC22.out _ (Below.refl _ _).drew | exact KC22.out _ ((Below.refl _ _).drew.alloc (Nat.le_refl _) _) | exact KC22.out _ hcq26 | exact KC22.out _ (hcq26.alloc hcq26.size _) | exact KC22.out _ (hcq26.setCell (by first | exact hz2q26 | exact hz1q26 | exact Nat.le_refl _) _) | exact KC22.out _ hbq26 | exact KC22.out _ (hbq26.alloc hbq26.size _) | exact KC22.out _ haq26 | exact KC22.out _ (haq26.alloc haq26.size _))
          (first
            | (go_at_call 7; refine (HS.out _ ⟨((cp0q26.out.later hp2q26).later (by first | exact Below.refl _ _ | exact (Below.refl _ _).alloc (Nat.le_refl _) _)).inn2 (by omega), hll, HTXl.out⟩ ⟨(cp1q26.out.later (by first | exact Below.refl _ _ | exact (Below.refl _ _).alloc (Nat.le_refl _) _)).inn2 (by omega), hlm, HTXm.out⟩).mono ?_; rintro e wcq26 ⟨vx0, rfl, ox0, hx3⟩; obtain ⟨ax0, cx0, rfl, -⟩ := own_shp ox0; have Ox0 := hide ox0; have SXq26 := hide hx3.size; have hcq26 : Below w17.heap.size w17 wcq26 := hbq26.trans ((show Below wbq26.heap.size wbq26 wcq26 from (by first | exact hx3 | exact ((Below.refl _ _).alloc (Nat.le_refl _) _).trans (hx3.mono (by simp)))).mono hbq26.size); have SYq26 : Hid (wbq26.heap.size ≤ wcq26.heap.size) := hide (by have q := hx3.size; first | exact q | (simp at q; omega)); (first | have Yq26 := hide ((CellT.later (CellT.later (CellT.later (show CellT 28 (w17.drew.alloc (.cells #[.slice none 0 0] 28)) w17.heap.size (.slice none 0 0) from CellT.new 28 w17.drew (.slice none 0 0)) hk1q26) hk2q26) hx3)) | have Yq26 := hide ((CellT.later (CellT.later (CellT.new 28 waq26 (.slice none 0 0)) hk2q26) hx3)) | have Yq26 := hide ((CellT.later (CellT.new 28 wbq26 (.slice none 0 0)) hx3)) | have Yq26 := hide trivial); (first | (have kxq26 := Yq26.out.cell; have fxq26 := frozen_of_row Yq26.out 0) | skip); clear hx3 ox0)
            | (go_at_call 8; refine (CT24.out _ (by first | exact haq26 | exact haq26.alloc haq26.size _)).mono ?_; rintro e wbq26 ⟨g1q26, rfl, hg1q26, cpyq26, hk2q26⟩; have cp1q26 := hide cpyq26; have hp2q26 : Below waq26.heap.size waq26 wbq26 := (by first | exact hk2q26 | exact ((Below.refl _ _).alloc (Nat.le_refl _) _).trans (hk2q26.mono (by simp))); have hbq26 : Below w17.heap.size w17 wbq26 := haq26.trans (hp2q26.mono haq26.size); have hz2q26 : w17.heap.size ≤ wbq26.heap.size := hbq26.size; clear cpyq26)
            | (go_at_call 8; refine (CT23.out _ (by first | exact (Below.refl _ _).drew | exact (Below.refl _ _).drew.alloc (Nat.le_refl _) _)).mono ?_; rintro e waq26 ⟨g0q26, rfl, hg0q26, cpxq26, hk1q26⟩; have cp0q26 := hide cpxq26; have haq26 : Below w17.heap.size w17 waq26 := (by first | exact (Below.refl _ _).drew.trans hk1q26 | exact ((Below.refl _ _).drew.alloc (Nat.le_refl _) _).trans (hk1q26.mono (by simp))); have hz1q26 : w17.heap.size ≤ waq26.heap.size := haq26.size; clear cpxq26))
        all_goals
          go_wp2_with fail
          go_meet
          case rel => first | exact ⟨_, _, _, rfl, rfl, hide (jn_new 28 hcq26 hbq26.size Ox0.out)⟩ | exact ⟨_, _, _, rfl, rfl, hide (jn_new 28 hcq26 (by have q1 := hk1q26.size; have q2 := hk2q26.size; have q3 := haq26.size; have q4 := hbq26.size; (try simp at q1); (try simp at q2); (try simp); omega) Ox0.out)⟩ | exact ⟨_, _, _, rfl, rfl, hide (jn_set 28 hcq26 (by have q1 := hk1q26.size; have q2 := hk2q26.size; have q3 := haq26.size; have q4 := hbq26.size; (try simp at q1); (try simp at q2); (try simp); omega) Ox0.out Yq26.out)⟩
      case rest =>
      obtain ⟨bx0, ax0, cx0, rfl, rfl, HQq26⟩ := hcut
      have hb28 := HQq26.out.2.2.2.2
      have Xx0 := hide HQq26.out.1
      have Ox0 := hide HQq26.out.2.2.1
      have Dx0 := hide HQq26.out.2.2.2.1
      have Ix0 : Hid (w17.heap.size ≤ bx0 ∧ bx0 < wc.heap.size) := hide ⟨HQq26.out.2.1, Xx0.out.lt⟩
      have Lx0 : Hid (∀ y, (Value.slice ax0 R0.length cx0).ownBlock = some y → w17.heap.size ≤ y ∧ y < wc.heap.size) := hide (fun y hy => World.ownsRow.lt Ox0.out y hy)
      clear HQq26 KC22 CT23 CT24 TB25
      obtain ⟨w29, hw29⟩ : ∃ wq, wc = wq := ⟨_, rfl⟩
      rw [hw29] at hb28 Xx0 Ox0 Ix0 Lx0 ⊢
      clear hw29
      replace X5 := hide (X5.out.later hb28)
      replace X11 := hide (X11.out.later hb28)
      have z30 := hide hb28.size
      replace hB := hide (hB.out.trans (hb28.mono hB.out.size))
      clear hb28
      have T36 := hide (TCl.out w29 (HAl.out.later hB.out))
      have k37 := X5.out.cell
      go_wp2_with fail
      refine (T36.out).mono ?_
      rintro e w31 ⟨g33, rfl, hg34, C35, hb32⟩
      clear T36 k37
      have I38 : Hid (w29.heap.size ≤ g33 ∧ g33 < w31.heap.size) := hide ⟨hg34, C35.lt⟩
      have P39 := hide C35
      clear C35 hg34
      replace X5 := hide (X5.out.later hb32)
      replace X11 := hide (X11.out.later hb32)
      replace Xx0 := hide (Xx0.out.later hb32)
      replace Ox0 := hide (own_below Ox0.out hb32)
      have z40 := hide hb32.size
      replace hB := hide (hB.out.trans (hb32.mono hB.out.size))
      clear hb32
      obtain ⟨w41, hw42⟩ : ∃ wq0, wq0 = w31.alloc (.cells #[.slice (some ⟨g33, 0, none⟩) l.length l.length] 28) := ⟨_, rfl⟩
      have hb43 : Below w31.heap.size w31 w41 := by rw [hw42]; exact (Below.refl _ _).alloc (Nat.le_refl _) _
      have e44 : Hid (w41.heap.size = w31.heap.size + 1) := hide (by rw [hw42]; simp)
      have X45 : Hid (CellT 28 w41 w31.heap.size (.slice (some ⟨g33, 0, none⟩) l.length l.length)) := hide (by rw [hw42]; exact CellT.new _ _ _)
      replace X5 := hide (X5.out.later hb43)
      replace X11 := hide (X11.out.later hb43)
      replace Xx0 := hide (Xx0.out.later hb43)
      replace P39 := hide (P39.out.later hb43)
      replace Ox0 := hide (own_below Ox0.out hb43)
      have z46 := hide hb43.size
      replace hB := hide (hB.out.trans (hb43.mono hB.out.size))
      clear hb43
      have T52 := hide (TCm.out w41 (HAm.out.later hB.out))
      have k53 := X11.out.cell
      rw [hw42] at k53
      go_wp2_with fail
      rw [← hw42]
      clear hw42
      refine (T52.out).mono ?_
      rintro e w47 ⟨g49, rfl, hg50, C51, hb48⟩
      clear T52 k53
      have I54 : Hid (w41.heap.size ≤ g49 ∧ g49 < w47.heap.size) := hide ⟨hg50, C51.lt⟩
      have P55 := hide C51
      clear C51 hg50
      replace X5 := hide (X5.out.later hb48)
      replace X11 := hide (X11.out.later hb48)
      replace Xx0 := hide (Xx0.out.later hb48)
      replace X45 := hide (X45.out.later hb48)
      replace P39 := hide (P39.out.later hb48)
      replace Ox0 := hide (own_below Ox0.out hb48)
      have z56 := hide hb48.size
      replace hB := hide (hB.out.trans (hb48.mono hB.out.size))
      clear hb48
      obtain ⟨w57, hw58⟩ : ∃ wq0, wq0 = w47.alloc (.cells #[.slice (some ⟨g49, 0, none⟩) m.length m.length] 28) := ⟨_, rfl⟩
      have hb59 : Below w47.heap.size w47 w57 := by rw [hw58]; exact (Below.refl _ _).alloc (Nat.le_refl _) _
      have e60 : Hid (w57.heap.size = w47.heap.size + 1) := hide (by rw [hw58]; simp)
      have X61 : Hid (CellT 28 w57 w47.heap.size (.slice (some ⟨g49, 0, none⟩) m.length m.length)) := hide (by rw [hw58]; exact CellT.new _ _ _)
      replace X5 := hide (X5.out.later hb59)
      replace X11 := hide (X11.out.later hb59)
      replace Xx0 := hide (Xx0.out.later hb59)
      replace X45 := hide (X45.out.later hb59)
      replace P39 := hide (P39.out.later hb59)
      replace P55 := hide (P55.out.later hb59)
      replace Ox0 := hide (own_below Ox0.out hb59)
      have z62 := hide hb59.size
      replace hB := hide (hB.out.trans (hb59.mono hB.out.size))
      clear hb59
      have k63 := X45.out.cell
      rw [hw58] at k63
      have k64 := X61.out.cell
      rw [hw58] at k64
      have H67 := hide (HI.out w57 ⟨P39.out.inn2 (by omega), hll, HTXl.out⟩ ⟨P55.out.inn2 (by omega), hlm, HTXm.out⟩ (HTb.out.below hB.out))
      go_wp2_with fail
      rw [← hw58]
      clear hw58
      refine (H67.out).mono ?_
      rintro e w65 ⟨y0, rfl, oy0, hb66⟩
      clear H67
      obtain ⟨ay0, cy0, rfl, -⟩ := own_shp oy0
      have Ly0 : Hid (∀ y, (Value.slice ay0 R0.length cy0).ownBlock = some y → w57.heap.size ≤ y ∧ y < w65.heap.size) := hide (fun y hy => World.ownsRow.lt oy0 y hy)
      have Oy0 := hide oy0
      clear oy0
      replace X5 := hide (X5.out.later hb66)
      replace X11 := hide (X11.out.later hb66)
      replace Xx0 := hide (Xx0.out.later hb66)
      replace X45 := hide (X45.out.later hb66)
      replace X61 := hide (X61.out.later hb66)
      replace P39 := hide (P39.out.later hb66)
      replace P55 := hide (P55.out.later hb66)
      replace Ox0 := hide (own_below Ox0.out hb66)
      have z68 := hide hb66.size
      replace hB := hide (hB.out.trans (hb66.mono hB.out.size))
      clear hb66
      obtain ⟨w69, hw70⟩ : ∃ wq0, wq0 = w65.alloc (.cells #[.slice ay0 R0.length cy0] 28) := ⟨_, rfl⟩
      have hb71 : Below w65.heap.size w65 w69 := by rw [hw70]; exact (Below.refl _ _).alloc (Nat.le_refl _) _
      have e72 : Hid (w69.heap.size = w65.heap.size + 1) := hide (by rw [hw70]; simp)
      have X73 : Hid (CellT 28 w69 w65.heap.size (.slice ay0 R0.length cy0)) := hide (by rw [hw70]; exact CellT.new _ _ _)
      replace X5 := hide (X5.out.later hb71)
      replace X11 := hide (X11.out.later hb71)
      replace Xx0 := hide (Xx0.out.later hb71)
      replace X45 := hide (X45.out.later hb71)
      replace X61 := hide (X61.out.later hb71)
      replace P39 := hide (P39.out.later hb71)
      replace P55 := hide (P55.out.later hb71)
      replace Ox0 := hide (own_below Ox0.out hb71)
      replace Oy0 := hide (own_below Oy0.out hb71)
      have z74 := hide hb71.size
      replace hB := hide (hB.out.trans (hb71.mono hB.out.size))
      clear hb71
      clear k63 k64
      have k78 := X73.out.cell
      rw [hw70] at k78
      have k79 := Xx0.out.cell
      rw [hw70] at k79
      have E77 := hide (eqSeq_own Oy0.out Ox0.out (by omega))
      go_wp2_with fail
      rw [← hw70]
      clear hw70
      refine (E77.out).mono ?_
      rintro e w75 ⟨rfl, hb76⟩
      clear E77 k78 k79
      replace X5 := hide (X5.out.later hb76)
      replace X11 := hide (X11.out.later hb76)
      replace Xx0 := hide (Xx0.out.later hb76)
      replace X45 := hide (X45.out.later hb76)
      replace X61 := hide (X61.out.later hb76)
      replace X73 := hide (X73.out.later hb76)
      replace P39 := hide (P39.out.later hb76)
      replace P55 := hide (P55.out.later hb76)
      replace Ox0 := hide (own_below Ox0.out hb76)
      replace Oy0 := hide (own_below Oy0.out hb76)
      have z80 := hide hb76.size
      replace hB := hide (hB.out.trans (hb76.mono hB.out.size))
      clear hb76
      have KC81 : Hid (∀ w', Below w75.heap.size w75 w' → w'.cell? ⟨w31.heap.size, 0, none⟩ = some (.slice (some ⟨g33, 0, none⟩) l.length l.length) ∧ w'.cell? ⟨w.heap.size, 0, none⟩ = some (.slice al ml cl)) := hide (fun w' hb => ⟨(X45.out.later hb).cell, (X5.out.later hb).cell⟩)
      have CT82 := hide (fun w' (hb : Below w75.heap.size w75 w') => TCl.out w' (HAl.out.later (hB.out.trans (hb.mono hB.out.size))))
      have CX83 := hide (fun w' (hb : Below w75.heap.size w75 w') => P39.out.later hb)
      go_wp2_with fail
      go_region_held3 (fun w' => w'.cell? ⟨w31.heap.size, 0, none⟩ = some (.slice (some ⟨g33, 0, none⟩) l.length l.length) ∧ w'.cell? ⟨w.heap.size, 0, none⟩ = some (.slice al ml cl))
        (first | assumption | exact KC81.out _ (Below.refl _ _) | exact KC81.out _ (Below.refl _ _).drew | exact KC81.out _ hbq20 | exact KC81.out _ hbq10)
        (first
          | (go_at_call 10; refine (eqSeq_cp (CX83.out wq10 hbq10) cpq0.out (by omega)).mono ?_; rintro e wq20 ⟨rfl, hq20⟩; have hbq20 : Below w75.heap.size w75 wq20 := hbq10.trans (hq20.mono hbq10.size); clear hq20)
          | (go_at_call 8; refine (CT82.out _ (Below.refl _ _).drew).mono ?_; rintro e wq10 ⟨gq0, rfl, hgq0, cpq00, hq10⟩; have cpq0 := hide cpq00; have hbq10 : Below w75.heap.size w75 wq10 := (Below.refl _ _).drew.trans hq10; clear hq10 cpq00))
      clear cpq0 hbq10 KC81 CT82 CX83 hgq0
      replace X5 := hide (X5.out.later hbq20)
      replace X11 := hide (X11.out.later hbq20)
      replace Xx0 := hide (Xx0.out.later hbq20)
      replace X45 := hide (X45.out.later hbq20)
      replace X61 := hide (X61.out.later hbq20)
      replace X73 := hide (X73.out.later hbq20)
      replace P39 := hide (P39.out.later hbq20)
      replace P55 := hide (P55.out.later hbq20)
      replace Ox0 := hide (own_below Ox0.out hbq20)
      replace Oy0 := hide (own_below Oy0.out hbq20)
      have z84 := hide hbq20.size
      replace hB := hide (hB.out.trans (hbq20.mono hB.out.size))
      clear hbq20
      have KC85 : Hid (∀ w', Below wq20.heap.size wq20 w' → w'.cell? ⟨w47.heap.size, 0, none⟩ = some (.slice (some ⟨g49, 0, none⟩) m.length m.length) ∧ w'.cell? ⟨w.heap.size + 1, 0, none⟩ = some (.slice am mm cm)) := hide (fun w' hb => ⟨(X61.out.later hb).cell, (X11.out.later hb).cell⟩)
      have CT86 := hide (fun w' (hb : Below wq20.heap.size wq20 w') => TCm.out w' (HAm.out.later (hB.out.trans (hb.mono hB.out.size))))
      have CX87 := hide (fun w' (hb : Below wq20.heap.size wq20 w') => P55.out.later hb)
      go_wp2_with fail
      go_region_held3 (fun w' => w'.cell? ⟨w47.heap.size, 0, none⟩ = some (.slice (some ⟨g49, 0, none⟩) m.length m.length) ∧ w'.cell? ⟨w.heap.size + 1, 0, none⟩ = some (.slice am mm cm))
        (first | assumption | exact KC85.out _ (Below.refl _ _) | exact KC85.out _ (Below.refl _ _).drew | exact KC85.out _ hbq21 | exact KC85.out _ hbq11)
        (first
          | (go_at_call 10; refine (eqSeq_cp (CX87.out wq11 hbq11) cpq1.out (by omega)).mono ?_; rintro e wq21 ⟨rfl, hq21⟩; have hbq21 : Below wq20.heap.size wq20 wq21 := hbq11.trans (hq21.mono hbq11.size); clear hq21)
          | (go_at_call 8; refine (CT86.out _ (Below.refl _ _).drew).mono ?_; rintro e wq11 ⟨gq1, rfl, hgq1, cpq01, hq11⟩; have cpq1 := hide cpq01; have hbq11 : Below wq20.heap.size wq20 wq11 := (Below.refl _ _).drew.trans hq11; clear hq11 cpq01))
      clear cpq1 hbq11 KC85 CT86 CX87 hgq1
      replace X5 := hide (X5.out.later hbq21)
      replace X11 := hide (X11.out.later hbq21)
      replace Xx0 := hide (Xx0.out.later hbq21)
      replace X45 := hide (X45.out.later hbq21)
      replace X61 := hide (X61.out.later hbq21)
      replace X73 := hide (X73.out.later hbq21)
      replace P39 := hide (P39.out.later hbq21)
      replace P55 := hide (P55.out.later hbq21)
      replace Ox0 := hide (own_below Ox0.out hbq21)
      replace Oy0 := hide (own_below Oy0.out hbq21)
      have z88 := hide hbq21.size
      replace hB := hide (hB.out.trans (hbq21.mono hB.out.size))
      clear hbq21
      have k92 := X45.out.cell
      have M91 := hide (markSeq_on P39.out (by omega) 1 (by omega))
      obtain ⟨KK0, hKK0⟩ : ∃ KK : Nat, 1 + l.length * 6 = KK := ⟨_, rfl⟩
      rw [hKK0] at M91
      have hKb0 : 0 < KK0 ∧ KK0 ≤ 20000000 := by omega
      clear hKK0
      go_wp2_with fail
      refine (M91.out).mono ?_
      rintro e w89 ⟨rfl, hg90⟩
      clear M91 k92
      clear P39
      replace X5 := hide (X5.out.grown hg90 (fun e => by have u0 := Option.some.inj e; have ui := I38.out; have q0 := z6.out; have q1 := e4.out; have q2 := z12.out; have q3 := e10.out; have q4 := z16.out; have q5 := z21.out; have q6 := z30.out; have q7 := z40.out; have q8 := z46.out; have q9 := e44.out; have q10 := z56.out; have q11 := z62.out; have q12 := e60.out; have q13 := z68.out; have q14 := z74.out; have q15 := e72.out; have q16 := z80.out; have q17 := z84.out; have q18 := z88.out; omega))
      replace X11 := hide (X11.out.grown hg90 (fun e => by have u0 := Option.some.inj e; have ui := I38.out; have q0 := z6.out; have q1 := e4.out; have q2 := z12.out; have q3 := e10.out; have q4 := z16.out; have q5 := z21.out; have q6 := z30.out; have q7 := z40.out; have q8 := z46.out; have q9 := e44.out; have q10 := z56.out; have q11 := z62.out; have q12 := e60.out; have q13 := z68.out; have q14 := z74.out; have q15 := e72.out; have q16 := z80.out; have q17 := z84.out; have q18 := z88.out; omega))
      replace Xx0 := hide (Xx0.out.grown hg90 (fun e => by have u0 := Option.some.inj e; have ui := I38.out; have u1 := Ix0.out; have q0 := z6.out; have q1 := e4.out; have q2 := z12.out; have q3 := e10.out; have q4 := z16.out; have q5 := z21.out; have q6 := z30.out; have q7 := z40.out; have q8 := z46.out; have q9 := e44.out; have q10 := z56.out; have q11 := z62.out; have q12 := e60.out; have q13 := z68.out; have q14 := z74.out; have q15 := e72.out; have q16 := z80.out; have q17 := z84.out; have q18 := z88.out; omega))
      replace X45 := hide (X45.out.grown hg90 (fun e => by have u0 := Option.some.inj e; have ui := I38.out; have q0 := z6.out; have q1 := e4.out; have q2 := z12.out; have q3 := e10.out; have q4 := z16.out; have q5 := z21.out; have q6 := z30.out; have q7 := z40.out; have q8 := z46.out; have q9 := e44.out; have q10 := z56.out; have q11 := z62.out; have q12 := e60.out; have q13 := z68.out; have q14 := z74.out; have q15 := e72.out; have q16 := z80.out; have q17 := z84.out; have q18 := z88.out; omega))
      replace X61 := hide (X61.out.grown hg90 (fun e => by have u0 := Option.some.inj e; have ui := I38.out; have q0 := z6.out; have q1 := e4.out; have q2 := z12.out; have q3 := e10.out; have q4 := z16.out; have q5 := z21.out; have q6 := z30.out; have q7 := z40.out; have q8 := z46.out; have q9 := e44.out; have q10 := z56.out; have q11 := z62.out; have q12 := e60.out; have q13 := z68.out; have q14 := z74.out; have q15 := e72.out; have q16 := z80.out; have q17 := z84.out; have q18 := z88.out; omega))
      replace X73 := hide (X73.out.grown hg90 (fun e => by have u0 := Option.some.inj e; have ui := I38.out; have q0 := z6.out; have q1 := e4.out; have q2 := z12.out; have q3 := e10.out; have q4 := z16.out; have q5 := z21.out; have q6 := z30.out; have q7 := z40.out; have q8 := z46.out; have q9 := e44.out; have q10 := z56.out; have q11 := z62.out; have q12 := e60.out; have q13 := z68.out; have q14 := z74.out; have q15 := e72.out; have q16 := z80.out; have q17 := z84.out; have q18 := z88.out; omega))
      replace P55 := hide (P55.out.grown hg90 (fun e => by have u0 := Option.some.inj e; have ui := I38.out; have u1 := I54.out; have q0 := z6.out; have q1 := e4.out; have q2 := z12.out; have q3 := e10.out; have q4 := z16.out; have q5 := z21.out; have q6 := z30.out; have q7 := z40.out; have q8 := z46.out; have q9 := e44.out; have q10 := z56.out; have q11 := z62.out; have q12 := e60.out; have q13 := z68.out; have q14 := z74.out; have q15 := e72.out; have q16 := z80.out; have q17 := z84.out; have q18 := z88.out; omega))
      replace Ox0 := hide (own_grown Ox0.out hg90 (fun y hy e => by have u0 := Option.some.inj e; have ui := I38.out; have u2 := Lx0.out y hy; have q0 := z6.out; have q1 := e4.out; have q2 := z12.out; have q3 := e10.out; have q4 := z16.out; have q5 := z21.out; have q6 := z30.out; have q7 := z40.out; have q8 := z46.out; have q9 := e44.out; have q10 := z56.out; have q11 := z62.out; have q12 := e60.out; have q13 := z68.out; have q14 := z74.out; have q15 := e72.out; have q16 := z80.out; have q17 := z84.out; have q18 := z88.out; omega))
      replace Oy0 := hide (own_grown Oy0.out hg90 (fun y hy e => by have u0 := Option.some.inj e; have ui := I38.out; have u2 := Ly0.out y hy; have q0 := z6.out; have q1 := e4.out; have q2 := z12.out; have q3 := e10.out; have q4 := z16.out; have q5 := z21.out; have q6 := z30.out; have q7 := z40.out; have q8 := z46.out; have q9 := e44.out; have q10 := z56.out; have q11 := z62.out; have q12 := e60.out; have q13 := z68.out; have q14 := z74.out; have q15 := e72.out; have q16 := z80.out; have q17 := z84.out; have q18 := z88.out; omega))
      have z93 := hide hg90.size
      replace hB := hide (hB.out.grown hg90 hB.out.size (fun y e => by have u0 := Option.some.inj e; have ui := I38.out; have q0 := z6.out; have q1 := e4.out; have q2 := z12.out; have q3 := e10.out; have q4 := z16.out; have q5 := z21.out; have q6 := z30.out; have q7 := z40.out; have q8 := z46.out; have q9 := e44.out; have q10 := z56.out; have q11 := z62.out; have q12 := e60.out; have q13 := z68.out; have q14 := z74.out; have q15 := e72.out; have q16 := z80.out; have q17 := z84.out; have q18 := z88.out; omega))
      clear hg90
      have k97 := X61.out.cell
      have M96 := hide (markSeq_on P55.out (by omega) (KK0) (by omega))
      have ek0 : decide (((KK0 + m.length * 6 : Nat) : Int) < 0) = false := by rw [decide_eq_false_iff_not]; omega
      obtain ⟨KK1, hKK1⟩ : ∃ KK : Nat, KK0 + m.length * 6 = KK := ⟨_, rfl⟩
      rw [hKK1] at M96 ek0
      have hKb1 : 0 < KK1 ∧ KK1 ≤ 40000000 := by omega
      clear hKK1
      go_wp2_with fail
      refine (M96.out).mono ?_
      rintro e w94 ⟨rfl, hg95⟩
      clear M96 k97
      clear P55
      replace X5 := hide (X5.out.grown hg95 (fun e => by have u0 := Option.some.inj e; have ui := I54.out; have q0 := z6.out; have q1 := e4.out; have q2 := z12.out; have q3 := e10.out; have q4 := z16.out; have q5 := z21.out; have q6 := z30.out; have q7 := z40.out; have q8 := z46.out; have q9 := e44.out; have q10 := z56.out; have q11 := z62.out; have q12 := e60.out; have q13 := z68.out; have q14 := z74.out; have q15 := e72.out; have q16 := z80.out; have q17 := z84.out; have q18 := z88.out; have q19 := z93.out; omega))
      replace X11 := hide (X11.out.grown hg95 (fun e => by have u0 := Option.some.inj e; have ui := I54.out; have q0 := z6.out; have q1 := e4.out; have q2 := z12.out; have q3 := e10.out; have q4 := z16.out; have q5 := z21.out; have q6 := z30.out; have q7 := z40.out; have q8 := z46.out; have q9 := e44.out; have q10 := z56.out; have q11 := z62.out; have q12 := e60.out; have q13 := z68.out; have q14 := z74.out; have q15 := e72.out; have q16 := z80.out; have q17 := z84.out; have q18 := z88.out; have q19 := z93.out; omega))
      replace Xx0 := hide (Xx0.out.grown hg95 (fun e => by have u0 := Option.some.inj e; have ui := I54.out; have u1 := Ix0.out; have q0 := z6.out; have q1 := e4.out; have q2 := z12.out; have q3 := e10.out; have q4 := z16.out; have q5 := z21.out; have q6 := z30.out; have q7 := z40.out; have q8 := z46.out; have q9 := e44.out; have q10 := z56.out; have q11 := z62.out; have q12 := e60.out; have q13 := z68.out; have q14 := z74.out; have q15 := e72.out; have q16 := z80.out; have q17 := z84.out; have q18 := z88.out; have q19 := z93.out; omega))
      replace X45 := hide (X45.out.grown hg95 (fun e => by have u0 := Option.some.inj e; have ui := I54.out; have q0 := z6.out; have q1 := e4.out; have q2 := z12.out; have q3 := e10.out; have q4 := z16.out; have q5 := z21.out; have q6 := z30.out; have q7 := z40.out; have q8 := z46.out; have q9 := e44.out; have q10 := z56.out; have q11 := z62.out; have q12 := e60.out; have q13 := z68.out; have q14 := z74.out; have q15 := e72.out; have q16 := z80.out; have q17 := z84.out; have q18 := z88.out; have q19 := z93.out; omega))
      replace X61 := hide (X61.out.grown hg95 (fun e => by have u0 := Option.some.inj e; have ui := I54.out; have q0 := z6.out; have q1 := e4.out; have q2 := z12.out; have q3 := e10.out; have q4 := z16.out; have q5 := z21.out; have q6 := z30.out; have q7 := z40.out; have q8 := z46.out; have q9 := e44.out; have q10 := z56.out; have q11 := z62.out; have q12 := e60.out; have q13 := z68.out; have q14 := z74.out; have q15 := e72.out; have q16 := z80.out; have q17 := z84.out; have q18 := z88.out; have q19 := z93.out; omega))
      replace X73 := hide (X73.out.grown hg95 (fun e => by have u0 := Option.some.inj e; have ui := I54.out; have q0 := z6.out; have q1 := e4.out; have q2 := z12.out; have q3 := e10.out; have q4 := z16.out; have q5 := z21.out; have q6 := z30.out; have q7 := z40.out; have q8 := z46.out; have q9 := e44.out; have q10 := z56.out; have q11 := z62.out; have q12 := e60.out; have q13 := z68.out; have q14 := z74.out; have q15 := e72.out; have q16 := z80.out; have q17 := z84.out; have q18 := z88.out; have q19 := z93.out; omega))
      replace Ox0 := hide (own_grown Ox0.out hg95 (fun y hy e => by have u0 := Option.some.inj e; have ui := I54.out; have u2 := Lx0.out y hy; have q0 := z6.out; have q1 := e4.out; have q2 := z12.out; have q3 := e10.out; have q4 := z16.out; have q5 := z21.out; have q6 := z30.out; have q7 := z40.out; have q8 := z46.out; have q9 := e44.out; have q10 := z56.out; have q11 := z62.out; have q12 := e60.out; have q13 := z68.out; have q14 := z74.out; have q15 := e72.out; have q16 := z80.out; have q17 := z84.out; have q18 := z88.out; have q19 := z93.out; omega))
      replace Oy0 := hide (own_grown Oy0.out hg95 (fun y hy e => by have u0 := Option.some.inj e; have ui := I54.out; have u2 := Ly0.out y hy; have q0 := z6.out; have q1 := e4.out; have q2 := z12.out; have q3 := e10.out; have q4 := z16.out; have q5 := z21.out; have q6 := z30.out; have q7 := z40.out; have q8 := z46.out; have q9 := e44.out; have q10 := z56.out; have q11 := z62.out; have q12 := e60.out; have q13 := z68.out; have q14 := z74.out; have q15 := e72.out; have q16 := z80.out; have q17 := z84.out; have q18 := z88.out; have q19 := z93.out; omega))
      have z98 := hide hg95.size
      replace hB := hide (hB.out.grown hg95 hB.out.size (fun y e => by have u0 := Option.some.inj e; have ui := I54.out; have q0 := z6.out; have q1 := e4.out; have q2 := z12.out; have q3 := e10.out; have q4 := z16.out; have q5 := z21.out; have q6 := z30.out; have q7 := z40.out; have q8 := z46.out; have q9 := e44.out; have q10 := z56.out; have q11 := z62.out; have q12 := e60.out; have q13 := z68.out; have q14 := z74.out; have q15 := e72.out; have q16 := z80.out; have q17 := z84.out; have q18 := z88.out; have q19 := z93.out; omega))
      clear hg95
      have k102 := X73.out.cell
      have k103 := Xx0.out.cell
      have E101 := hide (eqSeq_own Oy0.out Ox0.out (by omega))
      go_wp2_with fail
      refine (E101.out).mono ?_
      rintro e w99 ⟨rfl, hb100⟩
      clear E101 k102 k103
      replace X5 := hide (X5.out.later hb100)
      replace X11 := hide (X11.out.later hb100)
      replace Xx0 := hide (Xx0.out.later hb100)
      replace X45 := hide (X45.out.later hb100)
      replace X61 := hide (X61.out.later hb100)
      replace X73 := hide (X73.out.later hb100)
      replace Ox0 := hide (own_below Ox0.out hb100)
      replace Oy0 := hide (own_below Oy0.out hb100)
      have z104 := hide hb100.size
      replace hB := hide (hB.out.trans (hb100.mono hB.out.size))
      clear hb100
      have k109 := X73.out.cell
      have M107 := hide (markSeq_own Oy0.out (by omega) 1 (by omega))
      have em0 : decide (((1 + R0.length * 6 : Nat) : Int) < 0) = false := by rw [decide_eq_false_iff_not]; omega
      obtain ⟨KM, hKM⟩ : ∃ KM : Int, ((1 + R0.length * 6 : Nat) : Int) = KM := ⟨_, rfl⟩
      rw [hKM] at em0 M107
      have HKM := hide hKM
      clear hKM
      have em1 : (KM != KM) = false := by simp
      go_wp2_with fail
      refine (M107.out).mono ?_
      rintro e w105 ⟨rfl, hg106, mk108⟩
      clear M107 k109
      clear Oy0
      replace X5 := hide (X5.out.grown hg106 (fun e => by have u0 := Ly0.out _ e; have q0 := z6.out; have q1 := e4.out; have q2 := z12.out; have q3 := e10.out; have q4 := z16.out; have q5 := z21.out; have q6 := z30.out; have q7 := z40.out; have q8 := z46.out; have q9 := e44.out; have q10 := z56.out; have q11 := z62.out; have q12 := e60.out; have q13 := z68.out; have q14 := z74.out; have q15 := e72.out; have q16 := z80.out; have q17 := z84.out; have q18 := z88.out; have q19 := z93.out; have q20 := z98.out; have q21 := z104.out; omega))
      replace X11 := hide (X11.out.grown hg106 (fun e => by have u0 := Ly0.out _ e; have q0 := z6.out; have q1 := e4.out; have q2 := z12.out; have q3 := e10.out; have q4 := z16.out; have q5 := z21.out; have q6 := z30.out; have q7 := z40.out; have q8 := z46.out; have q9 := e44.out; have q10 := z56.out; have q11 := z62.out; have q12 := e60.out; have q13 := z68.out; have q14 := z74.out; have q15 := e72.out; have q16 := z80.out; have q17 := z84.out; have q18 := z88.out; have q19 := z93.out; have q20 := z98.out; have q21 := z104.out; omega))
      replace Xx0 := hide (Xx0.out.grown hg106 (fun e => by have u0 := Ly0.out _ e; have u1 := Ix0.out; have q0 := z6.out; have q1 := e4.out; have q2 := z12.out; have q3 := e10.out; have q4 := z16.out; have q5 := z21.out; have q6 := z30.out; have q7 := z40.out; have q8 := z46.out; have q9 := e44.out; have q10 := z56.out; have q11 := z62.out; have q12 := e60.out; have q13 := z68.out; have q14 := z74.out; have q15 := e72.out; have q16 := z80.out; have q17 := z84.out; have q18 := z88.out; have q19 := z93.out; have q20 := z98.out; have q21 := z104.out; omega))
      replace X45 := hide (X45.out.grown hg106 (fun e => by have u0 := Ly0.out _ e; have q0 := z6.out; have q1 := e4.out; have q2 := z12.out; have q3 := e10.out; have q4 := z16.out; have q5 := z21.out; have q6 := z30.out; have q7 := z40.out; have q8 := z46.out; have q9 := e44.out; have q10 := z56.out; have q11 := z62.out; have q12 := e60.out; have q13 := z68.out; have q14 := z74.out; have q15 := e72.out; have q16 := z80.out; have q17 := z84.out; have q18 := z88.out; have q19 := z93.out; have q20 := z98.out; have q21 := z104.out; omega))
      replace X61 := hide (X61.out.grown hg106 (fun e => by have u0 := Ly0.out _ e; have q0 := z6.out; have q1 := e4.out; have q2 := z12.out; have q3 := e10.out; have q4 := z16.out; have q5 := z21.out; have q6 := z30.out; have q7 := z40.out; have q8 := z46.out; have q9 := e44.out; have q10 := z56.out; have q11 := z62.out; have q12 := e60.out; have q13 := z68.out; have q14 := z74.out; have q15 := e72.out; have q16 := z80.out; have q17 := z84.out; have q18 := z88.out; have q19 := z93.out; have q20 := z98.out; have q21 := z104.out; omega))
      replace X73 := hide (X73.out.grown hg106 (fun e => by have u0 := Ly0.out _ e; have q0 := z6.out; have q1 := e4.out; have q2 := z12.out; have q3 := e10.out; have q4 := z16.out; have q5 := z21.out; have q6 := z30.out; have q7 := z40.out; have q8 := z46.out; have q9 := e44.out; have q10 := z56.out; have q11 := z62.out; have q12 := e60.out; have q13 := z68.out; have q14 := z74.out; have q15 := e72.out; have q16 := z80.out; have q17 := z84.out; have q18 := z88.out; have q19 := z93.out; have q20 := z98.out; have q21 := z104.out; omega))
      replace Ox0 := hide (own_grown Ox0.out hg106 (fun y hy e => by have u0 := Ly0.out _ e; have u2 := Lx0.out y hy; have q0 := z6.out; have q1 := e4.out; have q2 := z12.out; have q3 := e10.out; have q4 := z16.out; have q5 := z21.out; have q6 := z30.out; have q7 := z40.out; have q8 := z46.out; have q9 := e44.out; have q10 := z56.out; have q11 := z62.out; have q12 := e60.out; have q13 := z68.out; have q14 := z74.out; have q15 := e72.out; have q16 := z80.out; have q17 := z84.out; have q18 := z88.out; have q19 := z93.out; have q20 := z98.out; have q21 := z104.out; omega))
      have z110 := hide hg106.size
      replace hB := hide (hB.out.grown hg106 hB.out.size (fun y e => by have u0 := Ly0.out _ e; have q0 := z6.out; have q1 := e4.out; have q2 := z12.out; have q3 := e10.out; have q4 := z16.out; have q5 := z21.out; have q6 := z30.out; have q7 := z40.out; have q8 := z46.out; have q9 := e44.out; have q10 := z56.out; have q11 := z62.out; have q12 := e60.out; have q13 := z68.out; have q14 := z74.out; have q15 := e72.out; have q16 := z80.out; have q17 := z84.out; have q18 := z88.out; have q19 := z93.out; have q20 := z98.out; have q21 := z104.out; omega))
      clear hg106
      have Y111 := hide mk108
      clear mk108
      have k115 := X73.out.cell
      have D114 := hide (heldSeq_of Y111.out (by omega) (by omega))
      rw [HKM.out] at D114
      go_wp2_with fail
      refine (D114.out).mono ?_
      rintro e w112 ⟨rfl, hb113⟩
      clear D114 k115
      replace X5 := hide (X5.out.later hb113)
      replace X11 := hide (X11.out.later hb113)
      replace Xx0 := hide (Xx0.out.later hb113)
      replace X45 := hide (X45.out.later hb113)
      replace X61 := hide (X61.out.later hb113)
      replace X73 := hide (X73.out.later hb113)
      replace Y111 := hide (Y111.out.later hb113)
      replace Ox0 := hide (own_below Ox0.out hb113)
      have z116 := hide hb113.size
      replace hB := hide (hB.out.trans (hb113.mono hB.out.size))
      clear hb113
      have KC117 : Hid (∀ w', Below w112.heap.size w112 w' → w'.cell? ⟨w.heap.size, 0, none⟩ = some (.slice al ml cl) ∧ w'.cell? ⟨w.heap.size + 1, 0, none⟩ = some (.slice am mm cm)) := hide (fun w' hb => ⟨(X5.out.later hb).cell, (X11.out.later hb).cell⟩)
      have CT118 := hide (fun w' (hb : Below w112.heap.size w112 w') => TCl.out w' (HAl.out.later (hB.out.trans (hb.mono hB.out.size))))
      have CT119 := hide (fun w' (hb : Below w112.heap.size w112 w') => TCm.out w' (HAm.out.later (hB.out.trans (hb.mono hB.out.size))))
      have TB120 := hide (fun w' (hb : Below w112.heap.size w112 w') => HTb.out.below (hB.out.trans (hb.mono hB.out.size)))
      go_wp2_with fail
      go_cut [15, 16] from 94 to 101 (fun vb v7 wx => ∃ c a cc, vb = .pointer (some ⟨c, 0, none⟩) ∧ v7 = .bool R1 ∧ Hid (JnQ 28 w112 wx c R0.length a cc R0))
      case first =>
        go_region_held3 (fun w' => w'.cell? ⟨w.heap.size, 0, none⟩ = some (.slice al ml cl) ∧ w'.cell? ⟨w.heap.size + 1, 0, none⟩ = some (.slice am mm cm))
          (first | assumption | exact KC117.out _ (Below.refl _ _) | exact KC117.out _ (Below.refl _ _).drew | exact KC117.out _ ((Below.refl _ _).drew.alloc (Nat.le_refl _) _) | exact KC117.out _ hcq121 | exact KC117.out _ (hcq121.alloc hcq121.size _) | exact KC117.out _ (hcq121.setCell (by first | exact hz2q121 | exact hz1q121 | exact Nat.le_refl _) _) | exact KC117.out _ hbq121 | exact KC117.out _ (hbq121.alloc hbq121.size _) | exact KC117.out _ haq121 | exact KC117.out _ (haq121.alloc haq121.size _))
          (first
            | (go_at_call 9; refine (HI.out _ ⟨((cp0q121.out.later hp2q121).later (by first | exact Below.refl _ _ | exact (Below.refl _ _).alloc (Nat.le_refl _) _)).inn2 (by omega), hll, HTXl.out⟩ ⟨(cp1q121.out.later (by first | exact Below.refl _ _ | exact (Below.refl _ _).alloc (Nat.le_refl _) _)).inn2 (by omega), hlm, HTXm.out⟩ (TB120.out _ (by first | exact hbq121 | exact hbq121.alloc hbq121.size _))).mono ?_; rintro e wcq121 ⟨vz0, rfl, oz0, hx3⟩; obtain ⟨az0, cz0, rfl, -⟩ := own_shp oz0; have Oz0 := hide oz0; have SXq121 := hide hx3.size; have hcq121 : Below w112.heap.size w112 wcq121 := hbq121.trans ((show Below wbq121.heap.size wbq121 wcq121 from (by first | exact hx3 | exact ((Below.refl _ _).alloc (Nat.le_refl _) _).trans (hx3.mono (by simp)))).mono hbq121.size); have SYq121 : Hid (wbq121.heap.size ≤ wcq121.heap.size) := hide (by have q := hx3.size; first | exact q | (simp at q; omega)); (first | have Yq121 := hide ((CellT.later (CellT.later (CellT.later (show CellT 28 (w112.drew.alloc (.cells #[.slice none 0 0] 28)) w112.heap.size (.slice none 0 0) from CellT.new 28 w112.drew (.slice none 0 0)) hk1q121) hk2q121) hx3)) | have Yq121 := hide ((CellT.later (CellT.later (CellT.new 28 waq121 (.slice none 0 0)) hk2q121) hx3)) | have Yq121 := hide ((CellT.later (CellT.new 28 wbq121 (.slice none 0 0)) hx3)) | have Yq121 := hide trivial); (first | (have kxq121 := Yq121.out.cell; have fxq121 := frozen_of_row Yq121.out 0) | skip); clear hx3 oz0)
            | (go_at_call 8; refine (CT119.out _ (by first | exact haq121 | exact haq121.alloc haq121.size _)).mono ?_; rintro e wbq121 ⟨g1q121, rfl, hg1q121, cpyq121, hk2q121⟩; have cp1q121 := hide cpyq121; have hp2q121 : Below waq121.heap.size waq121 wbq121 := (by first | exact hk2q121 | exact ((Below.refl _ _).alloc (Nat.le_refl _) _).trans (hk2q121.mono (by simp))); have hbq121 : Below w112.heap.size w112 wbq121 := haq121.trans (hp2q121.mono haq121.size); have hz2q121 : w112.heap.size ≤ wbq121.heap.size := hbq121.size; clear cpyq121)
            | (go_at_call 8; refine (CT118.out _ (by first | exact (Below.refl _ _).drew | exact (Below.refl _ _).drew.alloc (Nat.le_refl _) _)).mono ?_; rintro e waq121 ⟨g0q121, rfl, hg0q121, cpxq121, hk1q121⟩; have cp0q121 := hide cpxq121; have haq121 : Below w112.heap.size w112 waq121 := (by first | exact (Below.refl _ _).drew.trans hk1q121 | exact ((Below.refl _ _).drew.alloc (Nat.le_refl _) _).trans (hk1q121.mono (by simp))); have hz1q121 : w112.heap.size ≤ waq121.heap.size := haq121.size; clear cpxq121))
        all_goals
          go_wp2_with fail
          go_meet
          case rel => first | exact ⟨_, _, _, rfl, rfl, hide (jn_new 28 hcq121 hbq121.size Oz0.out)⟩ | exact ⟨_, _, _, rfl, rfl, hide (jn_new 28 hcq121 (by have q1 := hk1q121.size; have q2 := hk2q121.size; have q3 := haq121.size; have q4 := hbq121.size; (try simp at q1); (try simp at q2); (try simp); omega) Oz0.out)⟩ | exact ⟨_, _, _, rfl, rfl, hide (jn_set 28 hcq121 (by have q1 := hk1q121.size; have q2 := hk2q121.size; have q3 := haq121.size; have q4 := hbq121.size; (try simp at q1); (try simp at q2); (try simp); omega) Oz0.out Yq121.out)⟩
      case rest =>
      obtain ⟨bz0, az0, cz0, rfl, rfl, HQq121⟩ := hcut
      have hb123 := HQq121.out.2.2.2.2
      have Xz0 := hide HQq121.out.1
      have Oz0 := hide HQq121.out.2.2.1
      have Dz0 := hide HQq121.out.2.2.2.1
      have Iz0 : Hid (w112.heap.size ≤ bz0 ∧ bz0 < wc.heap.size) := hide ⟨HQq121.out.2.1, Xz0.out.lt⟩
      have Lz0 : Hid (∀ y, (Value.slice az0 R0.length cz0).ownBlock = some y → w112.heap.size ≤ y ∧ y < wc.heap.size) := hide (fun y hy => World.ownsRow.lt Oz0.out y hy)
      clear HQq121 KC117 CT118 CT119 TB120
      obtain ⟨w124, hw124⟩ : ∃ wq, wc = wq := ⟨_, rfl⟩
      rw [hw124] at hb123 Xz0 Oz0 Iz0 Lz0 ⊢
      clear hw124
      replace X5 := hide (X5.out.later hb123)
      replace X11 := hide (X11.out.later hb123)
      replace Xx0 := hide (Xx0.out.later hb123)
      replace X45 := hide (X45.out.later hb123)
      replace X61 := hide (X61.out.later hb123)
      replace X73 := hide (X73.out.later hb123)
      replace Y111 := hide (Y111.out.later hb123)
      replace Ox0 := hide (own_below Ox0.out hb123)
      have z125 := hide hb123.size
      replace hB := hide (hB.out.trans (hb123.mono hB.out.size))
      clear hb123
      have k129 := Xz0.out.cell
      have k130 := Xx0.out.cell
      have E128 := hide (eqSeq_own Oz0.out Ox0.out (by omega))
      go_wp2_with fail
      refine (E128.out).mono ?_
      rintro e w126 ⟨rfl, hb127⟩
      clear E128 k129 k130
      replace X5 := hide (X5.out.later hb127)
      replace X11 := hide (X11.out.later hb127)
      replace Xx0 := hide (Xx0.out.later hb127)
      replace X45 := hide (X45.out.later hb127)
      replace X61 := hide (X61.out.later hb127)
      replace X73 := hide (X73.out.later hb127)
      replace Xz0 := hide (Xz0.out.later hb127)
      replace Y111 := hide (Y111.out.later hb127)
      replace Ox0 := hide (own_below Ox0.out hb127)
      replace Oz0 := hide (own_below Oz0.out hb127)
      have z131 := hide hb127.size
      replace hB := hide (hB.out.trans (hb127.mono hB.out.size))
      clear hb127
      have k135 := X73.out.cell
      have D134 := hide (heldSeq_of Y111.out (by omega) (by omega))
      rw [HKM.out] at D134
      go_wp2_with fail
      refine (D134.out).mono ?_
      rintro e w132 ⟨rfl, hb133⟩
      clear D134 k135
      replace X5 := hide (X5.out.later hb133)
      replace X11 := hide (X11.out.later hb133)
      replace Xx0 := hide (Xx0.out.later hb133)
      replace X45 := hide (X45.out.later hb133)
      replace X61 := hide (X61.out.later hb133)
      replace X73 := hide (X73.out.later hb133)
      replace Xz0 := hide (Xz0.out.later hb133)
      replace Y111 := hide (Y111.out.later hb133)
      replace Ox0 := hide (own_below Ox0.out hb133)
      replace Oz0 := hide (own_below Oz0.out hb133)
      have z136 := hide hb133.size
      replace hB := hide (hB.out.trans (hb133.mono hB.out.size))
      clear hb133
      go_wp2
      go_ret
      exact ⟨rfl, hB.out⟩
    · have hbz0 : Below w.heap.size w w := Below.refl _ _
      have hbbl : Below w.heap.size w (w.alloc (.cells #[.slice al ml cl] 24)) := hbz0.alloc (Nat.le_refl _) _
      have hbbm : Below w.heap.size w ((w.alloc (.cells #[.slice al ml cl] 24)).alloc (.cells #[.slice am mm cm] 24)) := hbbl.alloc (by simp <;> omega) _
      have HB0 := hide hbbm
      have CBm : Hid (CellT 24 ((w.alloc (.cells #[.slice al ml cl] 24)).alloc (.cells #[.slice am mm cm] 24)) (w.heap.size + 1) (.slice am mm cm)) := hide (by have := CellT.new 24 (w.alloc (.cells #[.slice al ml cl] 24)) (.slice am mm cm); rwa [show (w.alloc (.cells #[.slice al ml cl] 24)).heap.size = w.heap.size + 1 by simp] at this)
      have Zl := hide (fun w' (hb : Below w.heap.size w w') => szSeq_from (hal.later hb) hrl (1048576) (by omega))
      rw [if_pos fsl] at Zl
      have Zm := hide (fun w' (hb : Below w.heap.size w w') => szSeq_from (ham.later hb) hrm (1048576 - szAmn l) (by omega))
      rw [if_neg fsm] at Zm
      obtain ⟨Kl, hKl⟩ : ∃ K : Nat, 1048576 - szAmn l = K := ⟨_, rfl⟩
      rw [hKl] at Zl Zm
      have el : decide ((Kl : Int) < 0) = false := by rw [decide_eq_false_iff_not]; omega
      clear hKl
      clear hbz0 hbbl hbbm hal hrl ham hrm fsl fsm
      go_enter Tryd.func3, Tryd.ntmps3
      go_wp2_with fail
      refine (Zl.out _ HB0.out).mono ?_
      rintro e zl ⟨rfl, hzl⟩
      have ckm := (CBm.out.later hzl).cell
      have HZl : Hid (Below w.heap.size w zl) := hide (HB0.out.trans (hzl.mono HB0.out.size))
      clear hzl
      go_wp2_with fail
      refine (Zm.out _ HZl.out).mono ?_
      rintro e zm ⟨rfl, hzm⟩
      have HZm : Hid (Below w.heap.size w zm) := hide (HZl.out.trans (hzm.mono HZl.out.size))
      clear hzm
      go_wp2
      go_ret
      exact ⟨rfl, HZm.out⟩
  · have hbz0 : Below w.heap.size w w := Below.refl _ _
    have hbbl : Below w.heap.size w (w.alloc (.cells #[.slice al ml cl] 24)) := hbz0.alloc (Nat.le_refl _) _
    have hbbm : Below w.heap.size w ((w.alloc (.cells #[.slice al ml cl] 24)).alloc (.cells #[.slice am mm cm] 24)) := hbbl.alloc (by simp <;> omega) _
    have HB0 := hide hbbm
    have Zl := hide (fun w' (hb : Below w.heap.size w w') => szSeq_from (hal.later hb) hrl (1048576) (by omega))
    rw [if_neg fsl] at Zl
    clear hbz0 hbbl hbbm hal hrl ham hrm fsl
    go_enter Tryd.func3, Tryd.ntmps3
    go_wp2_with fail
    refine (Zl.out _ HB0.out).mono ?_
    rintro e zl ⟨rfl, hzl⟩
    have HZl : Hid (Below w.heap.size w zl) := hide (HB0.out.trans (hzl.mono HB0.out.size))
    clear hzl
    go_wp2
    go_ret
    exact ⟨rfl, HZl.out⟩
end Go.Proofs.YtnhooalibadeeabDoor
