/- slices.Insert into a row of numbers of one's own. -/
import Derived.Test.YtnhooalibadeeaaDoorOwnI
import Derived.Test.YtnhooalibadeeaaDoorRow1c
import Derived.Test.YtnhooalibadeeaaDoorFrm
import Derived.Test.YtnhooalibadeeaaDoorShelfIns
set_option linter.unusedVariables false
namespace Go.Proofs.YtnhooalibadeeaaDoor
open Go.RowKit
open Doc1

theorem setCells_row (b : Nat) : ∀ (vs : List Value) (o : Nat) (w : World) (cur : Array Value) (t : TypeId), w.heap[b]? = some (.cells cur t) → ∃ cur' : Array Value, (w.setCells b o vs).heap[b]? = some (.cells cur' t) ∧ cur'.size = cur.size ∧ ∀ j, j < cur.size → cur'[j]? = if o ≤ j ∧ j < o + vs.length then vs[j - o]? else cur[j]?
  | [], o, w, cur, t, h => ⟨cur, h, rfl, fun j hj => by rw [if_neg (by rw [List.length_nil]; omega)]⟩
  | v :: r, o, w, cur, t, h => by
    have h1 := cell_put h o v
    obtain ⟨c2, k1, k2, k3⟩ := setCells_row b r (o + 1) _ _ t h1
    rw [Array.set!_eq_setIfInBounds] at k2 k3
    rw [Array.size_setIfInBounds] at k2 k3
    refine ⟨c2, k1, k2, fun j hj => ?_⟩
    rw [k3 j hj, List.length_cons]
    by_cases e : j = o
    · subst e
      rw [if_neg (by omega), if_pos (by omega), Nat.sub_self]
      simp [hj]
    · by_cases c : o + 1 ≤ j ∧ j < o + 1 + r.length
      · rw [if_pos c, if_pos (by omega), show j - o = (j - (o + 1)) + 1 by omega]
        rfl
      · rw [if_neg c, if_neg (by omega), Array.getElem?_setIfInBounds_ne (by omega)]
theorem below_setCells {B b : Nat} {a : World} (hb : B ≤ b) : ∀ (vs : List Value) (o : Nat) (w : World), Below B a w → Below B a (w.setCells b o vs)
  | [], _, _, h => h
  | v :: r, o, w, h => below_setCells hb r (o + 1) _ (h.setCell hb v)
theorem iown_of {w : World} {B g n cap : Nat} {cur : Array Value} {ys : List Int} (hh : w.heap[g]? = some (.cells cur 3)) (hB : B ≤ g) (hn : n ≤ cap) (hm : cap ≤ maxLen) (hs : cur.size = cap) (hl : ys.length = n) (hc : ∀ j (hj : j < n), cur[j]? = some (.int .i64 (ys[j]'(by omega)))) : IOwn w B (.slice (some ⟨g, 0, none⟩) n cap) ys := by
  subst hl
  refine ⟨by simp [ints], .inr ⟨g, cap, cur, rfl, hB, hh, hn, hm, by omega, ?_⟩⟩
  apply List.ext_getElem?
  intro j
  rw [Nat.mul_one, List.getElem?_take]
  by_cases hj : j < ys.length
  · rw [if_pos hj, Array.getElem?_toList, hc j hj]
    simp [ints, hj]
  · rw [if_neg hj]
    exact (List.getElem?_eq_none (by simp only [ints, List.length_map]; omega)).symm

set_option maxRecDepth 100000 in
set_option maxHeartbeats 1000000 in
theorem insert_own {w : World} {B : Nat} {v : Value} {xs : List Int} (h : IOwn w B v xs) (hn : xs.length ≤ 1000000) (i : Nat) (hi : i ≤ xs.length) (x : Int) (vb : Nat) (hvb : w.heap[vb]? = some (.cells #[.int .i64 x] 3)) (hne : ∀ y, v.ownBlock = some y → vb ≠ y) (hB : B ≤ w.heap.size) :
    Calls Tryd.prog 80 #[v, .int .i64 (i : Int), .slice (some ⟨vb, 0, none⟩) 1 1] w fun e w' => ∃ v', e = .returned v' ∧ IOwn w' B v' (xs.take i ++ x :: xs.drop i) ∧ Below B w w' := by
  have hvs : ∀ (j : Nat) (u : Value), [Value.int .i64 x][j]? = some u → w.cell? ⟨vb, 0 + j, none⟩ = some u := fun j u hu => by
    rw [Nat.zero_add, cell_of_row w vb j _ _ (0, 0) hvb]
    simpa using hu
  have h1v : ∀ u ∈ [Value.int .i64 x], u.oneCell' = true := by simp [Value.oneCell']
  have hzl : ∀ k, (Builtin.zeroCells (Value.int .i64 0).cells k).size = k := fun k => by simp [Builtin.zeroCells, Value.cells]
  have hlen : (xs.take i ++ x :: xs.drop i).length = xs.length + 1 := by simp; omega
  rcases h.2 with ⟨rfl, h0⟩ | ⟨g, cap, cur, rfl, hg, hh, hnc, hcm, hcs, ht⟩
  · obtain rfl : xs = [] := List.eq_nil_of_length_eq_zero h0
    obtain rfl : i = 0 := by simpa using hi
    refine (Tryd.slices_Insert_int_end_grow none 0 0 vb 0 1 1 [] [.int .i64 x] w (by omega) (by omega) (by omega) (by omega) rfl rfl (fun _ => rfl) (fun a ha => by cases ha) hvs h1v).mono ?_
    rintro e w' ⟨rfl, rfl⟩
    have hge := grownCap_ge w (0 + 1) 0 3
    have hle := grownCap_le_maxLen w (0 + 1) 0 3 (by unfold maxLen; omega)
    refine ⟨_, rfl, iown_of (heap_alloc_new w.drew _) hB hge hle (by rw [Array.size_append, hzl]; show 1 + (grownCap w (0 + 1) 0 3 - (0 + 1)) = _; omega) rfl (fun j hj => ?_), (Below.refl _ _).drew.alloc hB _⟩
    obtain rfl : j = 0 := by omega
    rw [Array.getElem?_append_left (by show 0 < 1; omega)]
    rfl
  · have hc : ∀ j (u : Value), (ints xs)[j]? = some u → w.cell? ⟨g, 0 + j, none⟩ = some u := fun j u hu => by
      rw [Nat.zero_add, cell_of_row w g j _ _ (0, 0) hh]
      rw [← ht, List.getElem?_take] at hu
      split at hu
      · rw [← hu, Array.getElem?_toList]
      · cases hu
    have hcur : ∀ j (hj : j < xs.length), cur[j]? = some (.int .i64 xs[j]) := fun j hj => by
      have : (ints xs)[j]? = some (.int .i64 xs[j]) := by simp [ints, hj]
      have h2 := hc j _ this
      rw [Nat.zero_add, cell_of_row w g j _ _ (0, 0) hh] at h2
      exact h2
    have h1c : ∀ u ∈ ints xs, u.oneCell' = true := by
      intro u hu
      simp [ints] at hu
      obtain ⟨a, -, rfl⟩ := hu
      rfl
    have hcl : (ints xs).length = xs.length := by simp [ints]
    have hs : cur.size = cap := by omega
    have hsome : ∀ j, j < cap → (w.cell? ⟨g, j, none⟩).isSome = true := fun j hj => by
      rw [cell_of_row w g j _ _ (0, 0) hh, Array.getElem?_eq_getElem (by omega)]; rfl
    have hfz : ∀ j, w.frozen? ⟨g, j, none⟩ = false := fun j => frozen_of_row hh j
    have hgl : g < w.heap.size := (Array.getElem?_eq_some_iff.1 hh).1
    have hm := hcm
    unfold maxLen at hm
    by_cases hin : i = xs.length
    · subst hin
      rw [List.take_length, List.drop_length] at hlen ⊢
      by_cases hr : xs.length + 1 ≤ cap
      · refine (Tryd.slices_Insert_int_end_room g 0 xs.length cap vb 0 1 1 [.int .i64 x] w (by omega) hr (by omega) rfl (fun j hj => hsome _ (by omega)) (fun j hj => hfz _) hvs h1v).mono ?_
        rintro e w' ⟨rfl, rfl⟩
        obtain ⟨c2, k1, k2, k3⟩ := setCells_row g [.int .i64 x] (0 + xs.length) w cur 3 hh
        refine ⟨_, rfl, iown_of k1 hg hr hcm (by omega) hlen (fun j hj => ?_), below_setCells hg _ _ _ (Below.refl _ _)⟩
        rw [k3 j (by omega)]
        by_cases c : j < xs.length
        · rw [if_neg (by simp; omega), hcur j c, List.getElem_append_left c]
        · obtain rfl : j = xs.length := by omega
          rw [if_pos (by simp)]
          simp
      · refine (Tryd.slices_Insert_int_end_grow (some ⟨g, 0, none⟩) xs.length cap vb 0 1 1 (ints xs) [.int .i64 x] w (by omega) hnc (by omega) (by omega) hcl rfl (fun c => by cases c) (fun a ha j u hu => by cases ha; have := hc j u hu; rw [Nat.zero_add] at this; rw [addr0]; exact this) hvs h1v).mono ?_
        rintro e w' ⟨rfl, rfl⟩
        have hge := grownCap_ge w (xs.length + 1) cap 3
        have hle := grownCap_le_maxLen w (xs.length + 1) cap 3 (by unfold maxLen; omega)
        refine ⟨_, rfl, iown_of (heap_alloc_new w.drew _) hB hge hle (by rw [Array.size_append, hzl]; simp [hcl]; omega) hlen (fun j hj => ?_), (Below.refl _ _).drew.alloc hB _⟩
        rw [Array.getElem?_append_left (by simp [hcl]; omega)]
        have e2 : (ints xs ++ [Value.int .i64 x]) = ints (xs ++ [x]) := by simp [ints]
        rw [e2, List.getElem?_toArray]
        simp only [ints, List.getElem?_map]
        rw [List.getElem?_eq_getElem (by simpa using hj)]
        rfl
    · have hlt : i < xs.length := by omega
      have hvg : vb ≠ g := hne g rfl
      by_cases hr : xs.length + 1 ≤ cap
      · refine (Tryd.slices_Insert_int_shift g 0 xs.length cap i vb 0 1 1 (ints xs) [.int .i64 x] w hlt (by omega) hr (by omega) hvg hcl rfl hc (fun j hj => by rw [Nat.zero_add]; exact hsome j (by omega)) (fun j hj => by rw [Nat.zero_add]; exact hfz j) hvs h1c h1v 3 3 1 cap (by unfold World.shape?; rw [hvb]; rfl) (by unfold World.shape?; rw [hh]; simp [hs]) (by omega) (frozen_of_row hvb 0) (frozen_of_row hvb 1)).mono ?_
        rintro e w' ⟨rfl, rfl⟩
        obtain ⟨c2, k1, k2, k3⟩ := setCells_row g ((ints xs).drop i) (0 + (i + 1)) w.drew cur 3 hh
        obtain ⟨c3, m1, m2, m3⟩ := setCells_row g [.int .i64 x] (0 + i) _ c2 3 k1
        refine ⟨_, rfl, iown_of m1 hg hr hcm (by omega) hlen (fun j hj => ?_), below_setCells hg _ _ _ (below_setCells hg _ _ _ (Below.refl _ _).drew)⟩
        rw [m3 j (by omega), k3 j (by omega)]
        simp only [List.length_cons, List.length_nil, List.length_drop, hcl]
        by_cases c : j = i
        · subst c
          rw [if_pos (by omega)]
          rw [List.getElem_append_right (by simp; omega)]
          simp only [List.length_take, show j - min j xs.length = 0 by omega, List.getElem_cons_zero, show j - (0 + j) = 0 by omega]
          rfl
        · rw [if_neg (by omega)]
          by_cases c2 : j < i
          · rw [if_neg (by omega), hcur j (by omega), List.getElem_append_left (by simp; omega), List.getElem_take]
          · rw [if_pos (by omega), List.getElem?_drop]
            rw [List.getElem_append_right (by simp; omega)]
            simp only [List.length_take]
            have e3 : j - min i xs.length = (j - 1 - i) + 1 := by omega
            simp only [e3, List.getElem_cons_succ, List.getElem_drop]
            have e4 : i + (j - (0 + (i + 1))) = i + (j - 1 - i) := by omega
            rw [e4]
            simp only [ints, List.getElem?_map]
            rw [List.getElem?_eq_getElem (by omega)]
            rfl
      · refine (Tryd.slices_Insert_int_grow g 0 xs.length cap i vb 0 1 1 (ints xs) [.int .i64 x] w hlt (by omega) hnc (by omega) (by omega) hcl rfl hc hvs h1c h1v).mono ?_
        rintro e w' ⟨rfl, rfl⟩
        have hge := grownCap_ge w (xs.length + 1) cap 3
        have hle := grownCap_le_maxLen w (xs.length + 1) cap 3 (by unfold maxLen; omega)
        obtain ⟨C, hC⟩ : ∃ C, C = ((ints xs).take i).toArray ++ Builtin.zeroCells (Value.int .i64 0).cells (xs.length + 1 - i) ++ Builtin.zeroCells (Value.int .i64 0).cells (grownCap w (xs.length + 1) cap 3 - (xs.length + 1)) := ⟨_, rfl⟩
        have hCs : C.size = grownCap w (xs.length + 1) cap 3 := by
          rw [hC, Array.size_append, Array.size_append, hzl, hzl]
          simp [hcl]
          omega
        have hCt : ∀ j (hj : j < i), C[j]? = some (.int .i64 (xs[j]'(by omega))) := fun j hj => by
          rw [hC, Array.getElem?_append_left (by rw [Array.size_append, hzl]; simp [hcl]; omega), Array.getElem?_append_left (by simp [hcl]; omega), List.getElem?_toArray, List.getElem?_take, if_pos hj]
          simp only [ints, List.getElem?_map]
          rw [List.getElem?_eq_getElem (by omega)]
          rfl
        rw [← hC]
        clear hC
        obtain ⟨c2, k1, k2, k3⟩ := setCells_row w.heap.size [.int .i64 x] i (w.alloc (.cells C 3)).drew C 3 (heap_alloc_new w _)
        obtain ⟨c3, m1, m2, m3⟩ := setCells_row w.heap.size ((ints xs).drop i) (i + 1) _ c2 3 (show (((w.alloc (.cells C 3)).drew.setCells w.heap.size i [.int .i64 x]).drew).heap[w.heap.size]? = _ from k1)
        refine ⟨_, rfl, iown_of m1 hB hge hle (by omega) hlen (fun j hj => ?_), below_setCells hB _ _ _ (below_setCells hB _ _ _ ((Below.refl _ _).alloc hB _).drew).drew⟩
        rw [m3 j (by omega), k3 j (by omega)]
        simp only [List.length_cons, List.length_nil, List.length_drop, hcl]
        by_cases c : j = i
        · subst c
          rw [if_neg (by omega), if_pos (by omega)]
          rw [List.getElem_append_right (by simp; omega)]
          simp only [List.length_take, show j - min j xs.length = 0 by omega, List.getElem_cons_zero, Nat.sub_self]
          rfl
        · by_cases c2 : j < i
          · rw [if_neg (by omega), if_neg (by omega), hCt j c2, List.getElem_append_left (by simp; omega), List.getElem_take]
          · rw [if_pos (by omega), List.getElem?_drop]
            rw [List.getElem_append_right (by simp; omega)]
            simp only [List.length_take]
            have e3 : j - min i xs.length = (j - 1 - i) + 1 := by omega
            simp only [e3, List.getElem_cons_succ, List.getElem_drop]
            have e4 : i + (j - (i + 1)) = i + (j - 1 - i) := by omega
            rw [e4]
            simp only [ints, List.getElem?_map]
            rw [List.getElem?_eq_getElem (by omega)]
            rfl
end Go.Proofs.YtnhooalibadeeaaDoor
