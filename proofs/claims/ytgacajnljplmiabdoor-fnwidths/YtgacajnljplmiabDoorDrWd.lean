/- The drawing of words. -/
import Derived.Test.YtgacajnljplmiabDoorDrwA
import Derived.Test.YtgacajnljplmiabDoorLina
set_option linter.unusedVariables false
namespace Go.Proofs.YtgacajnljplmiabDoor
open Go.RowKit
open Doc1

theorem cur_gr {g : Nat} {C : Value} {M : Nat} {w w' : World} {r : Option Nat} (h : CurAt g C M w) (hg : w.grownBy w' r) (hr : r ≠ some g) : CurAt g C M w' := by
  have e := hg.block g h.lt (fun c => hr c.symm)
  refine ⟨(World.cell?_of_block e).trans h.c0, ?_, fun j => (World.frozen?_of_block e).trans (h.fz j)⟩
  obtain ⟨i, x, a, b, c, d, f⟩ := h.ex
  exact ⟨i, x, (World.cell?_of_block e).trans a, (World.cell?_of_block e).trans b, c, d, f⟩
theorem gr_far {g : Nat} {w w4 w5 : World} {r : Option Nat} (h : w.grownBy w4 (some g)) (hg : w4.grownBy w5 r) (hr : ∀ y, r = some y → w.heap.size ≤ y) : w.grownBy w5 (some g) :=
  ⟨hg.os.trans h.os, hg.tape.trans h.tape, hg.output.trans h.output, Nat.le_trans h.size hg.size, fun k hk hne => (hg.block k (Nat.lt_of_lt_of_le hk h.size) (fun e => by have := hr k e.symm; omega)).trans (h.block k hk hne)⟩
def sevenW : List ByteArray := [⟨#[97]⟩, ⟨#[116, 111]⟩, ⟨#[116, 104, 101]⟩, ⟨#[119, 111, 114, 100]⟩, ⟨#[108, 105, 110, 101, 115]⟩, ⟨#[98, 114, 111, 107, 101, 110]⟩, ⟨#[112, 97, 114, 97, 103, 114, 97, 112, 104]⟩]
def threeW : List ByteArray := [⟨#[]⟩, ⟨#[97, 32, 98]⟩, ⟨#[65]⟩]
theorem seven_le : ∀ s ∈ sevenW, s.size ≤ 9 := by decide
theorem threeW_le : ∀ s ∈ threeW, s.size ≤ 9 := by decide
/-- Where the drawing stands. -/
structure WI (g : Nat) (C : Value) (M : Nat) (w : World) (v : Value) (L : List ByteArray) (wr : World) (k : Nat) : Prop where
  cur : CurAt g C (M + 6 + 2 * k) wr
  gr : w.grownBy wr (some g)
  own : SOwn wr w.heap.size v L
  len : L.length ≤ k
  sm : ∀ x ∈ L, x.size ≤ 9
def WdPost (g : Nat) (C : Value) (M : Nat) (w : World) (e : Ending) (w' : World) : Prop := ∃ v L, e = .returned v ∧ SOwn w' w.heap.size v L ∧ L.length ≤ 61 ∧ (∀ x ∈ L, x.size ≤ 9) ∧ CurAt g C (M + 200) w' ∧ w.grownBy w' (some g)
theorem own_set0 {w : World} {B : Nat} {v : Value} {x : ByteArray} {L : List ByteArray} (h : SOwn w B v (x :: L)) (y : ByteArray) : ∃ q cap, v = .slice (some ⟨q, 0, none⟩) (x :: L).length cap ∧ B ≤ q ∧ (∃ z, w.cell? ⟨q, 0, none⟩ = some z) ∧ w.frozen? ⟨q, 0, none⟩ = false ∧ SOwn (w.setCell ⟨q, 0, none⟩ (.string y)) B v (y :: L) := by
  rcases h.2 with ⟨-, h0⟩ | ⟨q, cap, cur, rfl, hb, hg, h1, h2, h3, h4⟩
  · simp at h0
  · have hp : 0 < cur.size := by rw [h3]; simp at h1; omega
    refine ⟨q, cap, rfl, hb, ⟨cur[0], by unfold World.cell?; rw [hg]; simp [hp]⟩, by unfold World.frozen?; rw [hg]; rfl, ?_⟩
    refine ⟨by simp [encSt], .inr ⟨q, cap, cur.set 0 (.string y) hp, rfl, hb, ?_, h1, h2, by rw [Array.size_set]; exact h3, ?_⟩⟩
    · obtain ⟨hlt, hk⟩ := Array.getElem?_eq_some_iff.1 hg
      show (w.heap.modify q _)[q]? = _
      rw [Array.getElem?_eq_getElem (by rw [Array.size_modify]; exact hlt), Array.getElem_modify_self, hk]
      simp [Array.setIfInBounds, hp]
    · rw [Array.toList_set]
      have e : (x :: L).length * 1 = L.length + 1 := by simp
      have e2 : (y :: L).length * 1 = L.length + 1 := by simp
      rw [e] at h4
      rw [e2]
      cases hc : cur.toList with
      | nil => rw [hc] at h4; simp [encSt] at h4
      | cons a t =>
        rw [hc] at h4
        simp [encSt] at h4 ⊢
        exact h4.2

set_option maxRecDepth 100000 in
set_option maxHeartbeats 4000000 in
theorem words_any (g : Nat) (C : Value) (M : Nat) (w : World) (hcur : CurAt g C M w) (hco : CodeAt g C w) (hM : M ≤ 1000000000000000) :
    Calls Tryd.prog 51 #[.pointer (some ⟨g, 0, none⟩)] w (WdPost g C M w) := by
  obtain ⟨i0, hi0, hz0, hz1, hz2⟩ := info_parts Tryd.infoStr
  have hgl : g < w.heap.size := hcur.lt
  have P1 := hide (pick_any g C M 12 w hcur hco (by omega))
  have HCO := hide hco
  clear hcur hco
  go_enter Tryd.func51, Tryd.ntmps51
  go_wp2_with fail
  refine P1.out.mono ?_
  rintro e w1 ⟨y, rfl, hy0, hy1, hy2, hc1, hg1⟩
  have hy6 : y ≤ 11 := by omega
  have P2 := hide (one_any g C (M + 2) 30 w1 hc1 (HCO.out.grown hg1) (by omega))
  have HG1 := hide hg1
  clear P1 hc1 hg1 hy2
  go_wp2_with fail
  refine P2.out.mono ?_
  rintro e w2 ⟨b2, rfl, hc2, hg2⟩
  have HG2 := hide (HG1.out.trans hg2)
  have hc2' := hc2.mono (show M + 2 + 2 ≤ M + 4 by omega)
  clear P2 hg2 hc2 HG1
  -- how many
  cases b2 with
  | true =>
    have P3 := hide (pick_any g C (M + 4) 2 w2 hc2' (HCO.out.grown HG2.out) (by omega))
    clear hc2'
    go_wp2_with fail
    refine P3.out.mono ?_
    rintro e w3 ⟨y3, rfl, k0, k1, k2, hc3, hg3⟩
    have k3 : y3 ≤ 1 := by have := k2 (by omega); omega
    have e3 : IntKind.i64.wrap (60 + y3) = 60 + y3 := by rw [IntKind.wrap_i64]; omega
    obtain ⟨n0, hn0⟩ : ∃ n0 : Nat, (60 : Int) + y3 = (n0 : Int) := ⟨(60 + y3).toNat, by omega⟩
    have hn61 : n0 ≤ 61 := by omega
    have R0 : Hid (WI g C M w (.slice none 0 0) [] w3 0) := hide ⟨hc3.mono (by omega), HG2.out.trans hg3, World.ownsRow_nil _ _ _ _, by simp, fun x hx => by cases hx⟩
    clear P3 hc3 hg3 k2 hy0 hy1 hy6
    go_wp2
    (try rw [hn0])
    clear hn0 e3 k0 k1 k3
    go_loopw [3, 4] (fun v n wr => ∃ j : Nat, j ≤ n0 ∧ n = .int .i64 ((n0 - j : Nat) : Int) ∧ ∃ v0, v0 = v ∧ ∃ L, Hid (WI g C M w v0 L wr j)) (fun _ n _ => (intOf n).toNat)
    case atStart => exact ⟨0, by omega, by simp, _, rfl, [], R0⟩
    case round =>
      obtain ⟨j, hj, rfl, v, hv, L, HD⟩ := hrel
      subst hv
      clear R0
      have hsz := HD.out.gr.size
      have hLl : L.length ≤ 61 := by have := HD.out.len; omega
      by_cases hn : j < n0
      · have d1 : decide ((0 : Int) < ((n0 - j : Nat) : Int)) = true := decide_eq_true (by omega)
        have d1' : decide (0 < n0 - j) = true := decide_eq_true (by omega)
        have ew : IntKind.i64.wrap (((n0 - j : Nat) : Int) - 1) = ((n0 - (j + 1) : Nat) : Int) := by rw [IntKind.wrap_i64]; omega
        have ew2 : ((n0 - j : Nat) : Int) - 1 = ((n0 - (j + 1) : Nat) : Int) := by omega
        have HOF := hide (of_any g C (M + 6 + 2 * j) 9 wr.heap.size 0 7 7 _ (HD.out.cur.alloc (.cells (sevenW.map Value.string).toArray 9)) ((HCO.out.grown HD.out.gr).alloc (.cells (sevenW.map Value.string).toArray 9)) (by omega) (by omega) (texts_new wr sevenW 9 9 seven_le) (by omega) (by omega) (by omega))
        have hga := World.grownBy_alloc wr (.cells (sevenW.map Value.string).toArray 9) (some g)
        have HGA := hide hga
        clear hga
        go_wp2_with fail
        refine HOF.out.mono ?_
        rintro e w4 ⟨t4, rfl, ht4, hc4, hg4⟩
        have hgb := HGA.out.trans hg4
        have HG4 := hide (HD.out.gr.trans hgb)
        have HO4 := hide (own_grown HD.out.own hgb (fun b hb' e => by have := (World.ownsRow.lt HD.out.own b hb').1; have := Option.some.inj e; omega))
        have hs4 := HG4.out.size
        have HC4 := hide hc4
        clear HOF hc4 hg4 hgb
        go_wp2_with (at_builtin; refine wpList_append_loc _ rfl _ _ 23 rfl w.heap.size 9 i0 (.string ⟨#[]⟩) 1 16 Tryd.underlying23 hi0 hz0 hz1 hz2 rfl (by decide) _ _ _ rfl (World.ownsRow.alloc HO4.out _) ⟨w4.heap.size, 0, none⟩ 1 1 [.string t4] rfl rfl (World.news_of_block (cs := #[.string t4]) (t := 9) (fr := (0, 0)) (heap_alloc_new w4 _)) (by simp [Value.oneCell']) (by unfold maxLen; omega) (by omega) (by simp; omega) ?_; intro v5 w5 own5 grow5 loc5; have HN : Hid (WI g C M w v5 (L ++ [t4]) w5 (j + 1)) := hide ⟨(cur_gr (HC4.out.alloc _) grow5 (fun e => (by have := (World.ownsRow.lt HO4.out g e).1; omega))).mono (by omega), gr_far (gr_far HG4.out (World.grownBy_alloc w4 _ none) (fun y hy => by cases hy)) grow5 (fun y hy => (World.ownsRow.lt HO4.out y hy).1), SOwn.app1 own5, (by rw [List.length_append]; have := HD.out.len; simp only [List.length_singleton]; omega), fun x hx => (List.mem_append.1 hx).elim (HD.out.sm x) (fun h => by rw [List.mem_singleton.1 h]; exact ht4)⟩; clear own5 grow5 loc5)
        exact ⟨⟨j + 1, by omega, by first | rfl | (rw [ew2]) | go_num, v5, rfl, _, HN⟩, by simp [intOf]; omega⟩
      · have hjn : j = n0 := by omega
        have d1 : decide ((0 : Int) < ((n0 - j : Nat) : Int)) = false := decide_eq_false (by omega)
        have d1' : decide (0 < n0 - j) = false := decide_eq_false (by omega)
        cases L with
        | nil =>
          obtain ⟨av, cv, hv, -, -⟩ := own_shp HD.out.own
          subst hv
          have HE : Hid (WdPost g C M w (.returned (.slice av ([] : List ByteArray).length cv)) wr) := hide ⟨_, [], rfl, HD.out.own, by simp, (fun x hx => by cases hx), HD.out.cur.mono (by omega), HD.out.gr⟩
          go_wp2
          go_ret
          exact HE.out
        | cons x L =>
          have P6 := hide (one_any g C _ 30 wr HD.out.cur (HCO.out.grown HD.out.gr) (by omega))
          obtain ⟨av, cv, hv, hcl, hcm⟩ := own_shp HD.out.own
          subst hv
          have hpl : decide ((0 : Int) < (((x :: L).length : Nat) : Int)) = true := decide_eq_true (by simp only [List.length_cons]; omega)
          have hpl' : decide (0 < (x :: L).length) = true := decide_eq_true (by simp)
          obtain ⟨LN, hLN⟩ : ∃ LN, LN = (x :: L).length := ⟨_, rfl⟩
          rw [← hLN] at hpl hpl' hLl ⊢
          have hLN1 : 0 < LN := by rw [hLN]; simp
          unfold maxLen at hcm
          rw [← hLN] at hcl
          have HLN := hide hLN
          clear hLN
          go_wp2_with fail
          refine P6.out.mono ?_
          rintro e w6 ⟨b6, rfl, hc6, hg6⟩
          have HG6 := hide (HD.out.gr.trans hg6)
          have HO6 := hide (own_grown HD.out.own hg6 (fun b hb' e => by have := (World.ownsRow.lt HD.out.own b hb').1; have := Option.some.inj e; omega))
          have hs6 := HG6.out.size
          cases b6 with
          | false =>
            have HE : Hid (WdPost g C M w (.returned (.slice av LN cv)) w6) := hide (by rw [HLN.out]; exact ⟨_, x :: L, rfl, HO6.out, by rw [← HLN.out]; omega, HD.out.sm, hc6.mono (by omega), HG6.out⟩)
            clear hc6 hg6 P6
            go_wp2
            go_ret
            exact HE.out
          | true =>
            have HOF := hide (of_any g C _ 9 w6.heap.size 0 3 3 _ (hc6.alloc (.cells (threeW.map Value.string).toArray 9)) ((HCO.out.grown HG6.out).alloc (.cells (threeW.map Value.string).toArray 9)) (by omega) (by omega) (texts_new w6 threeW 9 9 threeW_le) (by omega) (by omega) (by omega))
            have HGA := hide (World.grownBy_alloc w6 (.cells (threeW.map Value.string).toArray 9) (some g))
            clear hc6 hg6 P6
            go_wp2_with fail
            refine HOF.out.mono ?_
            rintro e w7 ⟨t7, rfl, ht7, hc7, hg7⟩
            have hgb := HGA.out.trans hg7
            have HG7 := hide (HG6.out.trans hgb)
            have ho7 := own_grown HO6.out hgb (fun b hb' e => by have := (World.ownsRow.lt HO6.out b hb').1; have := Option.some.inj e; omega)
            obtain ⟨q, cap, hv, hq, ⟨z, hz⟩, hf, ho8⟩ := own_set0 ho7 t7
            injection hv with hv1 hv2 hv3
            subst hv1 hv3
            have HE : Hid (WdPost g C M w (.returned (.slice (some ⟨q, 0, none⟩) LN cv)) (w7.setCell ⟨q, 0, none⟩ (.string t7))) := hide (by
              rw [HLN.out]
              refine ⟨_, t7 :: L, rfl, ho8, by have := HLN.out; simp only [List.length_cons] at this ⊢; omega, fun y hy => ?_, (cur_gr hc7 (grown_set (grown_self w7 (some q)) 0 _) (fun e => by have := Option.some.inj e; omega)).mono (by omega), gr_far HG7.out (grown_set (grown_self w7 (some q)) 0 _) (fun y hy => by have := Option.some.inj hy; omega)⟩
              rcases List.mem_cons.1 hy with rfl | hy
              · exact ht7
              · exact HD.out.sm y (by simp [hy]))
            have hi1 : (0 : Int) < (LN : Int) := by omega
            clear HOF hc7 hg7 hgb ho7 ho8
            go_wp2
            go_ret
            exact HE.out
  | false =>
    obtain ⟨n0, hn0⟩ : ∃ n0 : Nat, y = (n0 : Int) := ⟨y.toNat, by omega⟩
    subst hn0
    have hn61 : n0 ≤ 61 := by omega
    have R0 : Hid (WI g C M w (.slice none 0 0) [] w2 0) := hide ⟨hc2'.mono (by omega), HG2.out, World.ownsRow_nil _ _ _ _, by simp, fun x hx => by cases hx⟩
    clear hc2' hy0 hy1 hy6
    go_wp2
    go_loopw [3, 4] (fun v n wr => ∃ j : Nat, j ≤ n0 ∧ n = .int .i64 ((n0 - j : Nat) : Int) ∧ ∃ v0, v0 = v ∧ ∃ L, Hid (WI g C M w v0 L wr j)) (fun _ n _ => (intOf n).toNat)
    case atStart => exact ⟨0, by omega, by simp, _, rfl, [], R0⟩
    case round =>
      obtain ⟨j, hj, rfl, v, hv, L, HD⟩ := hrel
      subst hv
      clear R0
      have hsz := HD.out.gr.size
      have hLl : L.length ≤ 61 := by have := HD.out.len; omega
      by_cases hn : j < n0
      · have d1 : decide ((0 : Int) < ((n0 - j : Nat) : Int)) = true := decide_eq_true (by omega)
        have d1' : decide (0 < n0 - j) = true := decide_eq_true (by omega)
        have ew : IntKind.i64.wrap (((n0 - j : Nat) : Int) - 1) = ((n0 - (j + 1) : Nat) : Int) := by rw [IntKind.wrap_i64]; omega
        have ew2 : ((n0 - j : Nat) : Int) - 1 = ((n0 - (j + 1) : Nat) : Int) := by omega
        have HOF := hide (of_any g C (M + 6 + 2 * j) 9 wr.heap.size 0 7 7 _ (HD.out.cur.alloc (.cells (sevenW.map Value.string).toArray 9)) ((HCO.out.grown HD.out.gr).alloc (.cells (sevenW.map Value.string).toArray 9)) (by omega) (by omega) (texts_new wr sevenW 9 9 seven_le) (by omega) (by omega) (by omega))
        have hga := World.grownBy_alloc wr (.cells (sevenW.map Value.string).toArray 9) (some g)
        have HGA := hide hga
        clear hga
        go_wp2_with fail
        refine HOF.out.mono ?_
        rintro e w4 ⟨t4, rfl, ht4, hc4, hg4⟩
        have hgb := HGA.out.trans hg4
        have HG4 := hide (HD.out.gr.trans hgb)
        have HO4 := hide (own_grown HD.out.own hgb (fun b hb' e => by have := (World.ownsRow.lt HD.out.own b hb').1; have := Option.some.inj e; omega))
        have hs4 := HG4.out.size
        have HC4 := hide hc4
        clear HOF hc4 hg4 hgb
        go_wp2_with (at_builtin; refine wpList_append_loc _ rfl _ _ 23 rfl w.heap.size 9 i0 (.string ⟨#[]⟩) 1 16 Tryd.underlying23 hi0 hz0 hz1 hz2 rfl (by decide) _ _ _ rfl (World.ownsRow.alloc HO4.out _) ⟨w4.heap.size, 0, none⟩ 1 1 [.string t4] rfl rfl (World.news_of_block (cs := #[.string t4]) (t := 9) (fr := (0, 0)) (heap_alloc_new w4 _)) (by simp [Value.oneCell']) (by unfold maxLen; omega) (by omega) (by simp; omega) ?_; intro v5 w5 own5 grow5 loc5; have HN : Hid (WI g C M w v5 (L ++ [t4]) w5 (j + 1)) := hide ⟨(cur_gr (HC4.out.alloc _) grow5 (fun e => (by have := (World.ownsRow.lt HO4.out g e).1; omega))).mono (by omega), gr_far (gr_far HG4.out (World.grownBy_alloc w4 _ none) (fun y hy => by cases hy)) grow5 (fun y hy => (World.ownsRow.lt HO4.out y hy).1), SOwn.app1 own5, (by rw [List.length_append]; have := HD.out.len; simp only [List.length_singleton]; omega), fun x hx => (List.mem_append.1 hx).elim (HD.out.sm x) (fun h => by rw [List.mem_singleton.1 h]; exact ht4)⟩; clear own5 grow5 loc5)
        exact ⟨⟨j + 1, by omega, by first | rfl | (rw [ew2]) | go_num, v5, rfl, _, HN⟩, by simp [intOf]; omega⟩
      · have hjn : j = n0 := by omega
        have d1 : decide ((0 : Int) < ((n0 - j : Nat) : Int)) = false := decide_eq_false (by omega)
        have d1' : decide (0 < n0 - j) = false := decide_eq_false (by omega)
        cases L with
        | nil =>
          obtain ⟨av, cv, hv, -, -⟩ := own_shp HD.out.own
          subst hv
          have HE : Hid (WdPost g C M w (.returned (.slice av ([] : List ByteArray).length cv)) wr) := hide ⟨_, [], rfl, HD.out.own, by simp, (fun x hx => by cases hx), HD.out.cur.mono (by omega), HD.out.gr⟩
          go_wp2
          go_ret
          exact HE.out
        | cons x L =>
          have P6 := hide (one_any g C _ 30 wr HD.out.cur (HCO.out.grown HD.out.gr) (by omega))
          obtain ⟨av, cv, hv, hcl, hcm⟩ := own_shp HD.out.own
          subst hv
          have hpl : decide ((0 : Int) < (((x :: L).length : Nat) : Int)) = true := decide_eq_true (by simp only [List.length_cons]; omega)
          have hpl' : decide (0 < (x :: L).length) = true := decide_eq_true (by simp)
          obtain ⟨LN, hLN⟩ : ∃ LN, LN = (x :: L).length := ⟨_, rfl⟩
          rw [← hLN] at hpl hpl' hLl ⊢
          have hLN1 : 0 < LN := by rw [hLN]; simp
          unfold maxLen at hcm
          rw [← hLN] at hcl
          have HLN := hide hLN
          clear hLN
          go_wp2_with fail
          refine P6.out.mono ?_
          rintro e w6 ⟨b6, rfl, hc6, hg6⟩
          have HG6 := hide (HD.out.gr.trans hg6)
          have HO6 := hide (own_grown HD.out.own hg6 (fun b hb' e => by have := (World.ownsRow.lt HD.out.own b hb').1; have := Option.some.inj e; omega))
          have hs6 := HG6.out.size
          cases b6 with
          | false =>
            have HE : Hid (WdPost g C M w (.returned (.slice av LN cv)) w6) := hide (by rw [HLN.out]; exact ⟨_, x :: L, rfl, HO6.out, by rw [← HLN.out]; omega, HD.out.sm, hc6.mono (by omega), HG6.out⟩)
            clear hc6 hg6 P6
            go_wp2
            go_ret
            exact HE.out
          | true =>
            have HOF := hide (of_any g C _ 9 w6.heap.size 0 3 3 _ (hc6.alloc (.cells (threeW.map Value.string).toArray 9)) ((HCO.out.grown HG6.out).alloc (.cells (threeW.map Value.string).toArray 9)) (by omega) (by omega) (texts_new w6 threeW 9 9 threeW_le) (by omega) (by omega) (by omega))
            have HGA := hide (World.grownBy_alloc w6 (.cells (threeW.map Value.string).toArray 9) (some g))
            clear hc6 hg6 P6
            go_wp2_with fail
            refine HOF.out.mono ?_
            rintro e w7 ⟨t7, rfl, ht7, hc7, hg7⟩
            have hgb := HGA.out.trans hg7
            have HG7 := hide (HG6.out.trans hgb)
            have ho7 := own_grown HO6.out hgb (fun b hb' e => by have := (World.ownsRow.lt HO6.out b hb').1; have := Option.some.inj e; omega)
            obtain ⟨q, cap, hv, hq, ⟨z, hz⟩, hf, ho8⟩ := own_set0 ho7 t7
            injection hv with hv1 hv2 hv3
            subst hv1 hv3
            have HE : Hid (WdPost g C M w (.returned (.slice (some ⟨q, 0, none⟩) LN cv)) (w7.setCell ⟨q, 0, none⟩ (.string t7))) := hide (by
              rw [HLN.out]
              refine ⟨_, t7 :: L, rfl, ho8, by have := HLN.out; simp only [List.length_cons] at this ⊢; omega, fun y hy => ?_, (cur_gr hc7 (grown_set (grown_self w7 (some q)) 0 _) (fun e => by have := Option.some.inj e; omega)).mono (by omega), gr_far HG7.out (grown_set (grown_self w7 (some q)) 0 _) (fun y hy => by have := Option.some.inj hy; omega)⟩
              rcases List.mem_cons.1 hy with rfl | hy
              · exact ht7
              · exact HD.out.sm y (by simp [hy]))
            have hi1 : (0 : Int) < (LN : Int) := by omega
            clear HOF hc7 hg7 hgb ho7 ho8
            go_wp2
            go_ret
            exact HE.out
end Go.Proofs.YtgacajnljplmiabDoor
