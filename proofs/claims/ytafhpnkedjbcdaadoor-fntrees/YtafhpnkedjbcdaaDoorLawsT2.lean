/- The law FnTrees: a document comes back from its tree, and sizes of parts add up. -/
import Derived.Test.YtafhpnkedjbcdaaDoorTreeL1
namespace Go.Proofs.YtafhpnkedjbcdaaDoor
open Go.RowKit
open Doc1

theorem code_on {C : Value} {w w' : World} (h : CodeAt w.heap.size C w) (hb : Below w.heap.size w w') : CodeAt w'.heap.size C w' := by
  cases h with
  | nil _ a cap => exact .nil w' a cap
  | row _ b o len cap hne hl h =>
    by_cases h0 : len = 0
    · subst h0; exact .nil w' _ cap
    · obtain ⟨x0, _, _, hx0⟩ := h 0 (by omega)
      have hlt : b < w.heap.size := by
        unfold World.cell? at hx0
        cases e : w.heap[b]? with
        | none => simp [e] at hx0
        | some o => exact (Array.getElem?_eq_some_iff.1 e).1
      refine .row w' b o len cap (by have := hb.size; omega) hl (fun i hi => ?_)
      obtain ⟨x, h1, h2, hx⟩ := h i hi
      exact ⟨x, h1, h2, (World.cell?_of_block (hb.block b hlt)).trans hx⟩
theorem fl_small {l : List Nd} (h : goodT l = true) {k : Nat} (hk : k < l.length) : (fl l k).length ≤ 300 := by
  have hs : (layL l).isSome = true := by rw [lay_good]; exact h
  obtain ⟨y, hy⟩ := Option.isSome_iff_exists.1 hs
  have hL := laid_of hy
  obtain ⟨e1, e2⟩ := hL.seg k hk
  have := good_fl h
  rw [hL.text] at e2
  omega
theorem inK_at {l : List Nd} {k : Int} (h : inK l k = true) : goodT l = true ∧ ∃ m : Nat, k = m ∧ m < l.length := by
  unfold inK at h
  have := of_decide_eq_true h
  exact ⟨this.1, k.toNat, by omega, by omega⟩
theorem sizeA_at {l : List Nd} {m : Nat} (hg : goodT l = true) (h : m < l.length) : sizeA l (m : Int) = ((fl l m).length : Int) ∧ inK l (m : Int) = true := by
  have c : goodT l = true ∧ (0 : Int) ≤ m ∧ (m : Int) < l.length := ⟨hg, by omega, by omega⟩
  unfold sizeA inK
  rw [if_pos c, decide_eq_true c]
  simp
theorem kidsA_at {l : List Nd} {m : Nat} (hg : goodT l = true) (h : m < l.length) : kidsA l (m : Int) = kids l m := by
  unfold kidsA
  rw [if_pos ⟨hg, by omega, by omega⟩]
  simp
theorem kidsA_no {l : List Nd} {k : Int} (h : inK l k = false) : kidsA l k = [] := by
  unfold kidsA
  rw [if_neg (by unfold inK at h; exact of_decide_eq_false h)]
theorem kidsA_le (l : List Nd) (k : Int) : (kidsA l k).length ≤ l.length := by
  unfold kidsA
  split
  · exact kidsU_len l k.toNat l.length
  · simp
theorem kids_at {l : List Nd} {m : Nat} {i : Nat} (h : i ∈ kids l m) : i < l.length ∧ ∃ hi : i < l.length, l[i].up = (m : Int) := by
  obtain ⟨h1, h2, h3⟩ := kidsU_mem l.length h
  refine ⟨h2, h2, ?_⟩
  unfold ndAt at h3
  simpa [h2] using h3
def kSum (l : List Nd) (K : List Nat) : Int := (K.map (fun i => ((fl l i).length : Int))).sum
theorem kSum_snoc (l : List Nd) (K : List Nat) (i : Nat) : kSum l (K ++ [i]) = kSum l K + ((fl l i).length : Int) := by simp [kSum]
theorem kSum_nn (l : List Nd) (K : List Nat) : 0 ≤ kSum l K := by
  induction K with
  | nil => simp [kSum]
  | cons a K ih => simp only [kSum, List.map_cons, List.sum_cons] at ih ⊢; omega
theorem kSum_take (l : List Nd) (K : List Nat) (j : Nat) : kSum l (K.take j) ≤ kSum l K := by
  have e : kSum l K = kSum l (K.take j) + kSum l (K.drop j) := by
    unfold kSum
    rw [← List.sum_append, ← List.map_append, List.take_append_drop]
  have := kSum_nn l (K.drop j)
  omega

theorem drawTreeOf_any (C : Value) (w : World) (hco : CodeAt w.heap.size C w) :
    Calls Tryd.prog 26 #[C] w (DrawnPost w) := by
  have H := hidI (drawGoodText_any C w hco)
  obtain ⟨a, len, cap, rfl⟩ := hco.shape
  clear hco
  go_enter Tryd.func26, Tryd.ntmps26
  go_wp2_with fail
  refine H.out.mono ?_
  rintro e w1 ⟨s, rfl, hs, hb⟩
  go_wp2
  go_ret
  exact ⟨s, rfl, hs, hb⟩

set_option maxRecDepth 100000 in
set_option maxHeartbeats 8000000 in
theorem law_trees (C C2 : Value) (w : World) (hco : CodeAt w.heap.size C w) (hco2 : CodeAt w.heap.size C2 w) (hlen : ∀ a len cap, C = .slice a len cap → len ≤ 140737488355328) (hlen2 : ∀ a len cap, C2 = .slice a len cap → len ≤ 140737488355328) (hT : Tab w) :
    Calls Tryd.prog 5 #[C, C2] w fun e w' => e = .returned (.bool true) ∧ Below w.heap.size w w' := by
  have H0 := hidI (drawTreeOf_any C w hco)
  replace hco2 := hidI hco2
  obtain ⟨a, len, cap, rfl⟩ := hco.shape
  obtain ⟨a2, len2, cap2, hC2⟩ := hco2.out.shape
  have l1 := hlen a len cap rfl
  have l2 := hlen2 a2 len2 cap2 hC2
  clear hlen hlen2 hco
  subst hC2
  by_cases hl : (len : Int) + len2 ≤ 1048576
  · go_enter Tryd.func5, Tryd.ntmps5
    go_wp2_with fail
    refine H0.out.mono ?_
    rintro e w1 ⟨s, rfl, hs, hb1⟩
    clear H0
    have hs' : s.size ≤ 1048576 := by omega
    have T1 := hidI (hT.below hb1)
    cases hd : doc s.data.toList with
    | true =>
      obtain ⟨tg1, tg2⟩ := tree_good hd
      have hfa : Hid (flatA (tree s.data.toList) = s) := hidI (by unfold flatA; rw [if_pos tg1, tg2]; simp [ba])
      have htl : (tree s.data.toList).length ≤ 10000000 := by
        have h1 := tree_len s.data.toList
        have h2 : s.data.toList.length = s.size := by simp
        omega
      have A1 := hidI (treeI_yes s w1 hs' T1.out hd)
      go_wp2_with fail
      refine A1.out.mono ?_
      rintro e w2 ⟨v1, rfl, o1, hb'⟩
      have hb2 := hb1.trans (hb'.mono hb1.size)
      clear A1 hb' hb1 T1
      have A2 := hidI (treeS_yes s w2 hs' hd)
      have O1 := hidI o1
      obtain ⟨x1, c1, rfl, -, -⟩ := own_shp o1
      clear o1
      go_wp2_with fail
      refine A2.out.mono ?_
      rintro e w3 ⟨v2, rfl, o2, hb'⟩
      have hb3 := hb2.trans (hb'.mono hb2.size)
      have O3 := hidI (O1.out.below hb')
      clear A2 hb' hb2 O1
      have S := hidI (sameNodes_own O3.out o2 htl)
      clear o2
      go_wp2_with fail
      refine S.out.mono ?_
      rintro e w4 ⟨rfl, hb'⟩
      have hb4 := hb3.trans (hb'.mono hb3.size)
      have o4 := O3.out.below hb'
      clear S hb' hb3 O3
      obtain ⟨gt, cp, ev, -, htr⟩ := tree_row o4 hd
      cases ev
      clear o4
      have htr := hidI htr
      have T4 := hidI (hT.below hb4)
      have F := hidI (flatI htr.out.nin T4.out)
      rw [hfa.out, tg1] at F
      have hcp := htr.out.cap
      go_wp2_with fail
      refine F.out.mono ?_
      rintro e w5 ⟨rfl, hb'⟩
      have hb5 := hb4.trans (hb'.mono hb4.size)
      have htr5 := hidI (htr.out.later hb' htr.out.lt)
      clear F hb' T4 hb4 htr
      have T5 := hidI (hT.below hb5)
      have G := hidI (goodI htr5.out.nin T5.out)
      rw [tg1] at G
      go_wp2_with fail
      refine G.out.mono ?_
      rintro e w6 ⟨rfl, hb'⟩
      have hb6 := hb5.trans (hb'.mono hb5.size)
      clear G hb' T5 hb5 htr5 hfa tg1 tg2 hd htl
      have K := hidI (drawKidsOf_any (.slice a2 len2 cap2) _ (code_on hco2.out hb6))
      go_wp2_with fail
      refine K.out.mono ?_
      rintro e w7 ⟨gl, cl, l, k, rfl, -, htl, hk0, hk1, hb'⟩
      have hb7 := hb6.trans (hb'.mono hb6.size)
      have hll := htl.len
      have hcl := htl.cap
      have htl := hidI htl
      clear K hb' hb6
      have T7 := hidI (hT.below hb7)
      have A1 := hidI (kidsI k htl.out.nin T7.out)
      go_wp2_with fail
      refine A1.out.mono ?_
      rintro e w8 ⟨v1, rfl, o1, hb'⟩
      have hb8 := hb7.trans (hb'.mono hb7.size)
      have htl8 := hidI (htl.out.later hb' htl.out.lt)
      clear A1 hb' hb7 T7 htl
      have A2 := hidI (kidsS k htl8.out.nin)
      have O1 := hidI o1
      obtain ⟨x1, c1, rfl, hc1, hc2⟩ := own_shp o1
      clear o1
      go_wp2_with fail
      refine A2.out.mono ?_
      rintro e w9 ⟨v2, rfl, o2, hb'⟩
      have hb9 := hb8.trans (hb'.mono hb8.size)
      have htl9 := hidI (htl8.out.later hb' htl8.out.lt)
      have O9 := hidI (own_below O1.out hb')
      clear A2 hb' hb8 htl8 O1
      have e9 := natI_len (kidsA l k)
      have S := hidI (sameInts_own (l := natI (kidsA l k)) (by rw [e9]; exact O9.out) (by rw [e9]; exact o2) (by have := kidsA_le l k; omega))
      clear o2
      go_wp2_with fail
      refine S.out.mono ?_
      rintro e wa ⟨rfl, hb'⟩
      have hba := hb9.trans (hb'.mono hb9.size)
      have htla := hidI (htl9.out.later hb' htl9.out.lt)
      have Oa := hidI (own_below O9.out hb')
      clear S hb' hb9 htl9 O9
      cases hin : inK l k with
      | false =>
        have ek := kidsA_no hin
        rw [ek] at hc1
        simp only [ek]
        clear ek Oa
        go_wp2
        go_ret
        exact ⟨rfl, hba⟩
      | true =>
        obtain ⟨hg, m, rfl, hm⟩ := inK_at hin
        obtain ⟨es, -⟩ := sizeA_at hg hm
        have ek := kidsA_at hg hm
        have Ta := hidI (hT.below hba)
        have Z := hidI (sizeI (m : Int) htla.out.nin Ta.out)
        rw [es, hin] at Z
        rw [ek] at Oa hc1
        simp only [ek]
        have FS := hidI (fl_sum hg hm)
        have hf3 := fl_small hg hm
        have HG := hidI hg
        clear es ek hin e9 hg
        go_wp2_with fail
        refine Z.out.mono ?_
        rintro e wb ⟨rfl, hb'⟩
        have hbb := hba.trans (hb'.mono hba.size)
        have htlb := hidI (htla.out.later hb' htla.out.lt)
        have Ob := hidI (own_below Oa.out hb')
        clear Z hb' Ta hba htla Oa
        have c0 := htlb.out.at'.c0 m hm
        have c1' := htlb.out.at'.c1 m hm
        have bsz := htlb.out.sz m hm
        have m1 : (m : Int) < (l.length : Int) := by omega
        obtain ⟨B0, hB0⟩ : ∃ B0 : Int, B0 = (if l[m].name.toList = [] then 0 else 2) := ⟨_, rfl⟩
        have hB2 : 0 ≤ B0 ∧ B0 ≤ 2 := by rw [hB0]; split <;> omega
        have FS2 : Hid (((fl l m).length : Int) = ((l[m].text.size : Int) + B0) + kSum l (kids l m)) := hidI (by rw [FS.out, ← hB0]; rfl)
        have HB0 := hidI hB0
        clear FS hB0
        have hkl : (kids l m).length ≤ 1000 := by have := kidsU_len l m l.length; unfold kids; omega
        have e2 := natI_len (kids l m)
        have key : ∀ b : Bool, l[m].name.toList.isEmpty = b → B0 = (if b then 0 else 2) := fun b hb => by
          rw [HB0.out]
          cases b
          · rw [if_neg (fun c => by rw [c] at hb; simp at hb)]; rfl
          · rw [if_pos (by simpa using hb)]; rfl
        have KEY := hidI key
        clear key HB0
        have hzs : 0 ≤ kSum l (kids l m) ∧ kSum l (kids l m) ≤ 300 := by
          have := kSum_nn l (kids l m)
          have := FS2.out
          omega
        cases en : l[m].name.toList.isEmpty
        · have hB1 := KEY.out _ en
          simp only [Bool.false_eq_true, if_false] at hB1
          subst hB1
          go_wp2
          go_loopw [20, 123] (fun sm i wr => ∃ j : Nat, j ≤ (kids l m).length ∧ i = .int .i64 j ∧ sm = .int .i64 (((l[m].text.size : Int) + 2) + kSum l ((kids l m).take j)) ∧ Below w.heap.size w wr ∧ Hid (Below wb.heap.size wb wr)) (fun _ i _ => (kids l m).length - (intOf i).toNat)
          case atStart => exact ⟨0, by omega, rfl, by simp [kSum], hbb, hidI (Below.refl _ _)⟩
          case round =>
            obtain ⟨j, hj, rfl, rfl, hbr, hbw⟩ := hrel
            have hz1 := kSum_take l (kids l m) j
            have hz0 := kSum_nn l ((kids l m).take j)
            by_cases hlt : j < (kids l m).length
            · have kat := kids_at (List.getElem_mem hlt)
              obtain ⟨hi, hi2, hup⟩ := kat
              obtain ⟨gk, ck, ev, k1, k2, -, k3, k4, -⟩ := own_cat (own_below Ob.out hbw.out) (by omega)
              cases ev
              have kc := k4 j (.int .i64 ((kids l m)[j] : Int)) (by simp [ints, natI, hlt])
              have htr := hidI (htlb.out.later hbw.out htlb.out.lt)
              have hs1 := fl_small HG.out hi
              have hsn : kSum l ((kids l m).take (j + 1)) = kSum l ((kids l m).take j) + ((fl l (kids l m)[j]).length : Int) := by
                rw [List.take_add_one, List.getElem?_eq_getElem hlt, Option.toList_some, kSum_snoc]
              have hz2 := kSum_take l (kids l m) (j + 1)
              have Z := hidI (sizeI ((kids l m)[j] : Int) htr.out.nin (hT.below hbr))
              rw [(sizeA_at HG.out hi).1, (sizeA_at HG.out hi).2] at Z
              rw [hsn] at hz2
              have HSN := hidI hsn
              clear hsn k4 k3
              generalize hq : kSum l ((kids l m).take j) = q at *
              generalize hf : (fl l (kids l m)[j]).length = f at *
              have hq' := hidI hq
              have hf' := hidI hf
              clear hq hf
              go_wp2_with fail
              refine Z.out.mono ?_
              rintro e wc ⟨rfl, hb'⟩
              have hbc := hbr.trans (hb'.mono hbr.size)
              have hbd := hidI (hbw.out.trans (hb'.mono hbw.out.size))
              have c2 := (htr.out.later hb' htr.out.lt).at'.c2 _ hi
              rw [hup] at c2
              clear Z hb' htr hbw
              go_wp2
              go_roundw
              case rel => exact ⟨j + 1, by omega, by go_num, by rw [HSN.out]; go_num, hbc, hbd⟩
              case measure => simp [intOf]; omega
            · obtain rfl : j = (kids l m).length := by omega
              rw [List.take_length] at *
              have fs3 := FS2.out
              generalize hq : kSum l (kids l m) = q at *
              generalize hf : (fl l m).length = f at *
              go_wp2
              go_ret
              exact ⟨by rw [fs3]; simp, hbr⟩
        · have hB1 := KEY.out _ en
          simp only [if_true] at hB1
          subst hB1
          go_wp2
          go_loopw [20, 123] (fun sm i wr => ∃ j : Nat, j ≤ (kids l m).length ∧ i = .int .i64 j ∧ sm = .int .i64 (((l[m].text.size : Int) + 0) + kSum l ((kids l m).take j)) ∧ Below w.heap.size w wr ∧ Hid (Below wb.heap.size wb wr)) (fun _ i _ => (kids l m).length - (intOf i).toNat)
          case atStart => exact ⟨0, by omega, rfl, by simp [kSum], hbb, hidI (Below.refl _ _)⟩
          case round =>
            obtain ⟨j, hj, rfl, rfl, hbr, hbw⟩ := hrel
            have hz1 := kSum_take l (kids l m) j
            have hz0 := kSum_nn l ((kids l m).take j)
            by_cases hlt : j < (kids l m).length
            · have kat := kids_at (List.getElem_mem hlt)
              obtain ⟨hi, hi2, hup⟩ := kat
              obtain ⟨gk, ck, ev, k1, k2, -, k3, k4, -⟩ := own_cat (own_below Ob.out hbw.out) (by omega)
              cases ev
              have kc := k4 j (.int .i64 ((kids l m)[j] : Int)) (by simp [ints, natI, hlt])
              have htr := hidI (htlb.out.later hbw.out htlb.out.lt)
              have hs1 := fl_small HG.out hi
              have hsn : kSum l ((kids l m).take (j + 1)) = kSum l ((kids l m).take j) + ((fl l (kids l m)[j]).length : Int) := by
                rw [List.take_add_one, List.getElem?_eq_getElem hlt, Option.toList_some, kSum_snoc]
              have hz2 := kSum_take l (kids l m) (j + 1)
              have Z := hidI (sizeI ((kids l m)[j] : Int) htr.out.nin (hT.below hbr))
              rw [(sizeA_at HG.out hi).1, (sizeA_at HG.out hi).2] at Z
              rw [hsn] at hz2
              have HSN := hidI hsn
              clear hsn k4 k3
              generalize hq : kSum l ((kids l m).take j) = q at *
              generalize hf : (fl l (kids l m)[j]).length = f at *
              have hq' := hidI hq
              have hf' := hidI hf
              clear hq hf
              go_wp2_with fail
              refine Z.out.mono ?_
              rintro e wc ⟨rfl, hb'⟩
              have hbc := hbr.trans (hb'.mono hbr.size)
              have hbd := hidI (hbw.out.trans (hb'.mono hbw.out.size))
              have c2 := (htr.out.later hb' htr.out.lt).at'.c2 _ hi
              rw [hup] at c2
              clear Z hb' htr hbw
              go_wp2
              go_roundw
              case rel => exact ⟨j + 1, by omega, by go_num, by rw [HSN.out]; go_num, hbc, hbd⟩
              case measure => simp [intOf]; omega
            · obtain rfl : j = (kids l m).length := by omega
              rw [List.take_length] at *
              have fs3 := FS2.out
              generalize hq : kSum l (kids l m) = q at *
              generalize hf : (fl l m).length = f at *
              go_wp2
              go_ret
              exact ⟨by rw [fs3]; simp, hbr⟩
    | false =>
      have A1 := hidI (treeI_no s w1 hs' T1.out hd)
      go_wp2_with fail
      refine A1.out.mono ?_
      rintro e w2 ⟨rfl, hb'⟩
      have hb2 := hb1.trans (hb'.mono hb1.size)
      clear A1 hb' hb1 T1
      have A2 := hidI (treeS_no s w2 hs' hd)
      go_wp2_with fail
      refine A2.out.mono ?_
      rintro e w' ⟨rfl, hw⟩
      replace hw := hw.symm; subst hw
      clear A2
      have S := hidI (sameNodes_zero none none 0 0 w2)
      go_wp2_with fail
      refine S.out.mono ?_
      rintro e w' ⟨rfl, hw⟩
      replace hw := hw.symm; subst hw
      have hb6 := hb2
      clear S hb2
      have K := hidI (drawKidsOf_any (.slice a2 len2 cap2) _ (code_on hco2.out hb6))
      go_wp2_with fail
      refine K.out.mono ?_
      rintro e w7 ⟨gl, cl, l, k, rfl, -, htl, hk0, hk1, hb'⟩
      have hb7 := hb6.trans (hb'.mono hb6.size)
      have hll := htl.len
      have hcl := htl.cap
      have htl := hidI htl
      clear K hb' hb6
      have T7 := hidI (hT.below hb7)
      have A1 := hidI (kidsI k htl.out.nin T7.out)
      go_wp2_with fail
      refine A1.out.mono ?_
      rintro e w8 ⟨v1, rfl, o1, hb'⟩
      have hb8 := hb7.trans (hb'.mono hb7.size)
      have htl8 := hidI (htl.out.later hb' htl.out.lt)
      clear A1 hb' hb7 T7 htl
      have A2 := hidI (kidsS k htl8.out.nin)
      have O1 := hidI o1
      obtain ⟨x1, c1, rfl, hc1, hc2⟩ := own_shp o1
      clear o1
      go_wp2_with fail
      refine A2.out.mono ?_
      rintro e w9 ⟨v2, rfl, o2, hb'⟩
      have hb9 := hb8.trans (hb'.mono hb8.size)
      have htl9 := hidI (htl8.out.later hb' htl8.out.lt)
      have O9 := hidI (own_below O1.out hb')
      clear A2 hb' hb8 htl8 O1
      have e9 := natI_len (kidsA l k)
      have S := hidI (sameInts_own (l := natI (kidsA l k)) (by rw [e9]; exact O9.out) (by rw [e9]; exact o2) (by have := kidsA_le l k; omega))
      clear o2
      go_wp2_with fail
      refine S.out.mono ?_
      rintro e wa ⟨rfl, hb'⟩
      have hba := hb9.trans (hb'.mono hb9.size)
      have htla := hidI (htl9.out.later hb' htl9.out.lt)
      have Oa := hidI (own_below O9.out hb')
      clear S hb' hb9 htl9 O9
      cases hin : inK l k with
      | false =>
        have ek := kidsA_no hin
        rw [ek] at hc1
        simp only [ek]
        clear ek Oa
        go_wp2
        go_ret
        exact ⟨rfl, hba⟩
      | true =>
        obtain ⟨hg, m, rfl, hm⟩ := inK_at hin
        obtain ⟨es, -⟩ := sizeA_at hg hm
        have ek := kidsA_at hg hm
        have Ta := hidI (hT.below hba)
        have Z := hidI (sizeI (m : Int) htla.out.nin Ta.out)
        rw [es, hin] at Z
        rw [ek] at Oa hc1
        simp only [ek]
        have FS := hidI (fl_sum hg hm)
        have hf3 := fl_small hg hm
        have HG := hidI hg
        clear es ek hin e9 hg
        go_wp2_with fail
        refine Z.out.mono ?_
        rintro e wb ⟨rfl, hb'⟩
        have hbb := hba.trans (hb'.mono hba.size)
        have htlb := hidI (htla.out.later hb' htla.out.lt)
        have Ob := hidI (own_below Oa.out hb')
        clear Z hb' Ta hba htla Oa
        have c0 := htlb.out.at'.c0 m hm
        have c1' := htlb.out.at'.c1 m hm
        have bsz := htlb.out.sz m hm
        have m1 : (m : Int) < (l.length : Int) := by omega
        obtain ⟨B0, hB0⟩ : ∃ B0 : Int, B0 = (if l[m].name.toList = [] then 0 else 2) := ⟨_, rfl⟩
        have hB2 : 0 ≤ B0 ∧ B0 ≤ 2 := by rw [hB0]; split <;> omega
        have FS2 : Hid (((fl l m).length : Int) = ((l[m].text.size : Int) + B0) + kSum l (kids l m)) := hidI (by rw [FS.out, ← hB0]; rfl)
        have HB0 := hidI hB0
        clear FS hB0
        have hkl : (kids l m).length ≤ 1000 := by have := kidsU_len l m l.length; unfold kids; omega
        have e2 := natI_len (kids l m)
        have key : ∀ b : Bool, l[m].name.toList.isEmpty = b → B0 = (if b then 0 else 2) := fun b hb => by
          rw [HB0.out]
          cases b
          · rw [if_neg (fun c => by rw [c] at hb; simp at hb)]; rfl
          · rw [if_pos (by simpa using hb)]; rfl
        have KEY := hidI key
        clear key HB0
        have hzs : 0 ≤ kSum l (kids l m) ∧ kSum l (kids l m) ≤ 300 := by
          have := kSum_nn l (kids l m)
          have := FS2.out
          omega
        cases en : l[m].name.toList.isEmpty
        · have hB1 := KEY.out _ en
          simp only [Bool.false_eq_true, if_false] at hB1
          subst hB1
          go_wp2
          go_loopw [20, 123] (fun sm i wr => ∃ j : Nat, j ≤ (kids l m).length ∧ i = .int .i64 j ∧ sm = .int .i64 (((l[m].text.size : Int) + 2) + kSum l ((kids l m).take j)) ∧ Below w.heap.size w wr ∧ Hid (Below wb.heap.size wb wr)) (fun _ i _ => (kids l m).length - (intOf i).toNat)
          case atStart => exact ⟨0, by omega, rfl, by simp [kSum], hbb, hidI (Below.refl _ _)⟩
          case round =>
            obtain ⟨j, hj, rfl, rfl, hbr, hbw⟩ := hrel
            have hz1 := kSum_take l (kids l m) j
            have hz0 := kSum_nn l ((kids l m).take j)
            by_cases hlt : j < (kids l m).length
            · have kat := kids_at (List.getElem_mem hlt)
              obtain ⟨hi, hi2, hup⟩ := kat
              obtain ⟨gk, ck, ev, k1, k2, -, k3, k4, -⟩ := own_cat (own_below Ob.out hbw.out) (by omega)
              cases ev
              have kc := k4 j (.int .i64 ((kids l m)[j] : Int)) (by simp [ints, natI, hlt])
              have htr := hidI (htlb.out.later hbw.out htlb.out.lt)
              have hs1 := fl_small HG.out hi
              have hsn : kSum l ((kids l m).take (j + 1)) = kSum l ((kids l m).take j) + ((fl l (kids l m)[j]).length : Int) := by
                rw [List.take_add_one, List.getElem?_eq_getElem hlt, Option.toList_some, kSum_snoc]
              have hz2 := kSum_take l (kids l m) (j + 1)
              have Z := hidI (sizeI ((kids l m)[j] : Int) htr.out.nin (hT.below hbr))
              rw [(sizeA_at HG.out hi).1, (sizeA_at HG.out hi).2] at Z
              rw [hsn] at hz2
              have HSN := hidI hsn
              clear hsn k4 k3
              generalize hq : kSum l ((kids l m).take j) = q at *
              generalize hf : (fl l (kids l m)[j]).length = f at *
              have hq' := hidI hq
              have hf' := hidI hf
              clear hq hf
              go_wp2_with fail
              refine Z.out.mono ?_
              rintro e wc ⟨rfl, hb'⟩
              have hbc := hbr.trans (hb'.mono hbr.size)
              have hbd := hidI (hbw.out.trans (hb'.mono hbw.out.size))
              have c2 := (htr.out.later hb' htr.out.lt).at'.c2 _ hi
              rw [hup] at c2
              clear Z hb' htr hbw
              go_wp2
              go_roundw
              case rel => exact ⟨j + 1, by omega, by go_num, by rw [HSN.out]; go_num, hbc, hbd⟩
              case measure => simp [intOf]; omega
            · obtain rfl : j = (kids l m).length := by omega
              rw [List.take_length] at *
              have fs3 := FS2.out
              generalize hq : kSum l (kids l m) = q at *
              generalize hf : (fl l m).length = f at *
              go_wp2
              go_ret
              exact ⟨by rw [fs3]; simp, hbr⟩
        · have hB1 := KEY.out _ en
          simp only [if_true] at hB1
          subst hB1
          go_wp2
          go_loopw [20, 123] (fun sm i wr => ∃ j : Nat, j ≤ (kids l m).length ∧ i = .int .i64 j ∧ sm = .int .i64 (((l[m].text.size : Int) + 0) + kSum l ((kids l m).take j)) ∧ Below w.heap.size w wr ∧ Hid (Below wb.heap.size wb wr)) (fun _ i _ => (kids l m).length - (intOf i).toNat)
          case atStart => exact ⟨0, by omega, rfl, by simp [kSum], hbb, hidI (Below.refl _ _)⟩
          case round =>
            obtain ⟨j, hj, rfl, rfl, hbr, hbw⟩ := hrel
            have hz1 := kSum_take l (kids l m) j
            have hz0 := kSum_nn l ((kids l m).take j)
            by_cases hlt : j < (kids l m).length
            · have kat := kids_at (List.getElem_mem hlt)
              obtain ⟨hi, hi2, hup⟩ := kat
              obtain ⟨gk, ck, ev, k1, k2, -, k3, k4, -⟩ := own_cat (own_below Ob.out hbw.out) (by omega)
              cases ev
              have kc := k4 j (.int .i64 ((kids l m)[j] : Int)) (by simp [ints, natI, hlt])
              have htr := hidI (htlb.out.later hbw.out htlb.out.lt)
              have hs1 := fl_small HG.out hi
              have hsn : kSum l ((kids l m).take (j + 1)) = kSum l ((kids l m).take j) + ((fl l (kids l m)[j]).length : Int) := by
                rw [List.take_add_one, List.getElem?_eq_getElem hlt, Option.toList_some, kSum_snoc]
              have hz2 := kSum_take l (kids l m) (j + 1)
              have Z := hidI (sizeI ((kids l m)[j] : Int) htr.out.nin (hT.below hbr))
              rw [(sizeA_at HG.out hi).1, (sizeA_at HG.out hi).2] at Z
              rw [hsn] at hz2
              have HSN := hidI hsn
              clear hsn k4 k3
              generalize hq : kSum l ((kids l m).take j) = q at *
              generalize hf : (fl l (kids l m)[j]).length = f at *
              have hq' := hidI hq
              have hf' := hidI hf
              clear hq hf
              go_wp2_with fail
              refine Z.out.mono ?_
              rintro e wc ⟨rfl, hb'⟩
              have hbc := hbr.trans (hb'.mono hbr.size)
              have hbd := hidI (hbw.out.trans (hb'.mono hbw.out.size))
              have c2 := (htr.out.later hb' htr.out.lt).at'.c2 _ hi
              rw [hup] at c2
              clear Z hb' htr hbw
              go_wp2
              go_roundw
              case rel => exact ⟨j + 1, by omega, by go_num, by rw [HSN.out]; go_num, hbc, hbd⟩
              case measure => simp [intOf]; omega
            · obtain rfl : j = (kids l m).length := by omega
              rw [List.take_length] at *
              have fs3 := FS2.out
              generalize hq : kSum l (kids l m) = q at *
              generalize hf : (fl l m).length = f at *
              go_wp2
              go_ret
              exact ⟨by rw [fs3]; simp, hbr⟩
  · go_enter Tryd.func5, Tryd.ntmps5
    go_wp2
    go_ret
    exact ⟨rfl, Below.refl _ _⟩
end Go.Proofs.YtafhpnkedjbcdaaDoor
