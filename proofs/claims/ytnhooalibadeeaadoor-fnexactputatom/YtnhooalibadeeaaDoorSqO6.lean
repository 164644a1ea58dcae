/- slices.DeleteFunc over a row of numbers of one's own; shownOf. -/
import Derived.Test.YtnhooalibadeeaaDoorSqO5
import Derived.Laws.CopyOwn
set_option linter.unusedVariables false
namespace Go.Proofs.YtnhooalibadeeaaDoor
open Go.RowKit
open Doc1

/-- How the row stands between two rounds: i numbers are kept of the first j. -/
structure DelI (l : List Am) (o : List Nat) (N B : Nat) (w : World) (g i j : Nat) (wr : World) : Prop where
  le : i ≤ j ∧ j ≤ o.length
  row : ∃ cs, RowI wr g cs ∧ cs.length = N ∧ cs.take i = ints (oI (shw l (o.take j))) ∧ ∀ m (hm : m < o.length), j ≤ m → cs[m]? = some (.int .i64 ((o[m] : Nat) : Int))
  len : i = (shw l (o.take j)).length
  bel : Below B w wr
theorem DelI.skip {l : List Am} {o : List Nat} {N B : Nat} {w wr : World} {g i j : Nat} (h : DelI l o N B w g i j wr) (hj : j < o.length) (hn : gnN l o[j] = true) : DelI l o N B w g i (j + 1) wr := by
  obtain ⟨cs, hr, hl, ht, hd⟩ := h.row
  have e : shw l (o.take (j + 1)) = shw l (o.take j) := by rw [shw_take hj, hn]; simp
  exact ⟨⟨by have := h.le.1; omega, hj⟩, ⟨cs, hr, hl, by rw [e]; exact ht, fun m hm hjm => hd m hm (by omega)⟩, by rw [e]; exact h.len, h.bel⟩
theorem DelI.keep {l : List Am} {o : List Nat} {N B : Nat} {w wr : World} {g i j : Nat} (h : DelI l o N B w g i j wr) (hN : o.length ≤ N) (hB : B ≤ g) (hj : j < o.length) (hij : i < j) (hn : gnN l o[j] = false) : DelI l o N B w g (i + 1) (j + 1) (wr.setCell ⟨g, i, none⟩ (.int .i64 ((o[j] : Nat) : Int))) := by
  obtain ⟨cs, hr, hl, ht, hd⟩ := h.row
  have e : shw l (o.take (j + 1)) = shw l (o.take j) ++ [o[j]] := by rw [shw_take hj, hn]; simp
  have hic : i < cs.length := by omega
  refine ⟨⟨by omega, hj⟩, ⟨cs.set i (.int .i64 ((o[j] : Nat) : Int)), hr.set _ _, by simp [hl], ?_, fun m hm hjm => ?_⟩, by rw [e, List.length_append, ← h.len]; rfl, h.bel.setCell hB _⟩
  · rw [List.take_succ_eq_append_getElem (by simpa using hic), List.take_set_of_le (Nat.le_refl _), ht, e]
    simp [ints, oI]
  · rw [List.getElem?_set_ne (by omega)]
    exact hd m hm (by omega)

set_option maxRecDepth 100000 in
set_option maxHeartbeats 4000000 in
theorem deleteO_any {w : World} {B : Nat} {l : List Am} (bl : Nat) (hC : ∀ w', Below B w w' → ∀ k, k < l.length → Calls Tryd.prog 74 #[.int .i64 (k : Int), .pointer (some ⟨bl, 0, none⟩)] w' fun e w'' => e = .returned (.bool (gnN l k)) ∧ w'' = w') {v : Value} {o : List Nat} (hv : IOwn w B v (oI o)) (ho : ∀ j ∈ o, j < l.length) (hol : o.length ≤ 1000000) :
    Calls Tryd.prog 73 #[v, .func (.func 74) #[] #[.pointer (some ⟨bl, 0, none⟩)]] w fun e w' => ∃ v', e = .returned v' ∧ IOwn w' B v' (oI (shw l o)) ∧ Below B w w' := by
  have X := hide (indexG_any bl (hC w (Below.refl _ _)) hv ho hol)
  have C := hide hC
  have HO := hide ho
  cases hf : o.findIdx? (gnN l) with
  | none =>
    have hall := List.findIdx?_eq_none_iff.1 hf
    have hs : shw l o = o := List.filter_eq_self.2 (fun p hp => by rw [hall p hp]; rfl)
    rw [show fidx (gnN l) o = -1 by unfold fidx; rw [hf]] at X
    obtain ⟨av, cv, rfl, -, -⟩ := own_shp hv
    have HV := hide hv
    rw [hs]
    clear hall hs hf hv ho hC
    go_enter Tryd.func73, Tryd.ntmps73
    go_wp2_with fail
    refine X.out.mono ?_
    rintro e w2 ⟨rfl, hw⟩
    replace hw := hw.symm
    subst hw
    go_wp2
    go_ret
    exact ⟨_, rfl, HV.out, Below.refl _ _⟩
  | some k =>
    obtain ⟨hk, hp, hno⟩ := List.findIdx?_eq_some_iff_getElem.1 hf
    rw [show fidx (gnN l) o = (k : Int) by unfold fidx; rw [hf]] at X
    rcases hv.2 with ⟨-, h0⟩ | ⟨gv, cv, cur, rfl, hgv, hh, hnc, hcm, hcs, ht⟩
    · rw [oI_len] at h0; omega
    · rw [oI_len] at hnc ht X ⊢
      have hcl : cv = cur.size := by omega
      have D0 : DelI l o cv B w gv k (k + 1) w := by
        have e : shw l (o.take k) = o.take k := List.filter_eq_self.2 (fun p hp2 => by
          obtain ⟨m, hm, rfl⟩ := List.mem_take_iff_getElem.1 hp2
          have := hno m (by omega)
          simpa using this)
        have e2 : shw l (o.take (k + 1)) = o.take k := by rw [shw_take hk, hp, e]; simp
        have hcur : ∀ m (hm : m < o.length), cur.toList[m]? = some (.int .i64 ((o[m] : Nat) : Int)) := fun m hm => by
          have h3 : (ints (oI o))[m]? = some (.int .i64 ((o[m] : Nat) : Int)) := by rw [ints_at (oI o) (by rw [oI_len]; exact hm), oI_at]
          rw [← ht, List.getElem?_take] at h3
          split at h3
          · exact h3
          · cases h3
        refine ⟨⟨by omega, hk⟩, ⟨cur.toList, by unfold RowI; rw [Array.toArray_toList]; exact hh, by rw [Array.length_toList]; omega, ?_, fun m hm _ => hcur m hm⟩, by rw [e2, List.length_take]; omega, Below.refl _ _⟩
        rw [e2]
        have h4 := congrArg (List.take k) ht
        rw [List.take_take, Nat.mul_one, Nat.min_eq_left (by omega)] at h4
        rw [h4]
        simp [ints, oI, List.map_take]
      have HD := hide D0
      have hm := hcm
      unfold maxLen at hm
      clear D0 hno hp hf hv ho hC hh ht hcs hcl
      go_enter Tryd.func73, Tryd.ntmps73
      go_wp2_with fail
      refine X.out.mono ?_
      rintro e w2 ⟨rfl, hw⟩
      replace hw := hw.symm
      subst hw
      clear X
      go_wp2_with fail
      go_loopw [5, 6] (fun a b wr => ∃ i j : Nat, a = .int .i64 i ∧ b = .int .i64 j ∧ i < j ∧ Hid (DelI l o cv B w gv i j wr)) (fun _ b _ => o.length - (intOf b).toNat)
      case atStart => exact ⟨k, k + 1, rfl, by simp, by omega, HD⟩
      case round =>
        obtain ⟨i, j, rfl, rfl, hij, HDr⟩ := hrel
        have hjl := HDr.out.le.2
        by_cases hlt : j < o.length
        · obtain ⟨cs, hr, hcl2, -, hd⟩ := HDr.out.row
          have c0 : wr.cell? ⟨gv, j, none⟩ = some (.int .i64 ((o[j] : Nat) : Int)) := by rw [hr.cell]; exact hd j hlt (Nat.le_refl _)
          have N := hide (C.out wr HDr.out.bel o[j] (HO.out _ (List.getElem_mem hlt)))
          have ji : (j : Int) < (o.length : Int) := by omega
          have j0 : (0 : Int) ≤ (j : Int) := by omega
          have il : (i : Int) < (o.length : Int) := by omega
          have i0 : (0 : Int) ≤ (i : Int) := by omega
          have fi := frozen_of_row hr i
          obtain ⟨z, hz⟩ : ∃ z, wr.cell? ⟨gv, i, none⟩ = some z := ⟨cs[i]'(by omega), by rw [hr.cell]; exact List.getElem?_eq_getElem (by omega)⟩
          cases hn : gnN l o[j] with
          | true =>
            have HT := hide (HDr.out.skip hlt hn)
            rw [hn] at N
            clear hn hr hd HDr
            obtain ⟨y, hy⟩ : ∃ y, y = o[j] := ⟨_, rfl⟩
            rw [← hy] at N c0
            clear hy
            go_wp2_with (go_at_call 74; refine N.out.mono ?_; rintro e w3 ⟨rfl, hw3⟩; replace hw3 := hw3.symm; subst hw3)
            refine ⟨?_, by simp [intOf]; omega⟩
            exact ⟨_, _, _, _, _, _, _, _, _, _, _, _, _, _, _, _, _, _, _, _, _, _, _, ⟨i, j + 1, rfl, by go_num, by omega, HT⟩, rfl⟩
          | false =>
            have HT := hide (HDr.out.keep (by omega) hgv hlt hij hn)
            rw [hn] at N
            clear hn hr hd HDr
            obtain ⟨y, hy⟩ : ∃ y, y = o[j] := ⟨_, rfl⟩
            rw [← hy] at N c0 HT
            clear hy
            go_wp2_with (go_at_call 74; refine N.out.mono ?_; rintro e w3 ⟨rfl, hw3⟩; replace hw3 := hw3.symm; subst hw3)
            refine ⟨?_, by simp [intOf]; omega⟩
            exact ⟨_, _, _, _, _, _, _, _, _, _, _, _, _, _, _, _, _, _, _, _, _, _, _, ⟨i + 1, j + 1, by go_num, by go_num, by omega, HT⟩, rfl⟩
        · obtain rfl : j = o.length := by omega
          obtain ⟨cs, hrc, hcl2, htk, -⟩ := HDr.out.row
          have hli := hide HDr.out.len
          have hbel := hide HDr.out.bel
          have HC := hide (And.intro hcl2 htk)
          have i1 : (i : Int) ≤ (o.length : Int) := by omega
          have i0 : (0 : Int) ≤ (i : Int) := by omega
          rw [List.take_length] at hli HC
          have hil : i < o.length := by omega
          clear HDr htk hjl
          go_wp2_with (refine wpList_clear_ints (by rfl) _ (by rfl) (g := gv) (i := i) (n := o.length - i) (cs := cs) (by rfl) hrc (by omega) (by omega) ?_)
          intro cs' k1 k2
          go_wp2
          go_ret
          have e1 : cs'.take i = ints (oI (shw l o)) := k2.trans HC.out.2
          have HRR := (RowI.setRow (cs' := cs') hrc)
          have hsl : (shw l o).length = i := hli.out.symm
          refine ⟨_, rfl, iown_of HRR hgv (by omega) hcm (by have := HC.out.1; simp; omega) (by rw [oI_len]; exact hsl) (fun m hm2 => ?_), ?_⟩
          · have h5 : (ints (oI (shw l o)))[m]? = some (.int .i64 ((oI (shw l o))[m]'(by rw [oI_len]; omega))) := ints_at _ _
            have h6 := congrArg (fun (z : List Value) => z[m]?) e1
            simp only [List.getElem?_take, if_pos hm2] at h6
            rw [List.getElem?_toArray, h6]
            exact h5
          · exact below_setRow hbel.out hgv _

/-- The numbers of the atoms whose bytes are the text. -/
def shL (l : List Am) : List Nat := shw l (ordL l)
theorem ordL_mem {l : List Am} (h : goodQ l = true) : ∀ j ∈ ordL l, j < l.length := fun j hj => (ordK_mem (fun i hi => pr_le h hi)).1 hj
theorem ordL_len {l : List Am} (h : goodQ l = true) : (ordL l).length = l.length := ordK_len (fun i hi => pr_le h hi)

set_option maxRecDepth 100000 in
set_option maxHeartbeats 1000000 in
theorem shownOf_any {w : World} {a : Option Addr} {cap : Nat} {l : List Am} (h : AmIn w a cap l) (hgd : goodQ l = true) :
    Calls Tryd.prog 51 #[.slice a l.length cap] w fun e w' => ∃ v, e = .returned v ∧ IOwn w' w.heap.size v (oI (shL l)) ∧ Below w.heap.size w w' := by
  have hln := good_len hgd
  obtain ⟨w0, hw0⟩ : ∃ w0, w0 = w.alloc (.cells #[.slice a l.length cap] 23) := ⟨_, rfl⟩
  have hb0 : Below w.heap.size w w0 := by rw [hw0]; exact (Below.refl _ _).alloc (Nat.le_refl _) _
  have hh0 : w0.heap[w.heap.size]? = some (.cells #[.slice a l.length cap] 23) := by rw [hw0]; exact heap_alloc_new _ _
  have hs0 : w0.heap.size = w.heap.size + 1 := by rw [hw0]; simp
  have H := hide (h.later hb0)
  have HB0 := hide hb0
  have HS0 := hide hs0
  have O := hide (inOrder_any (h.later hb0) hgd)
  have HC : Hid (∀ w', Below w0.heap.size w0 w' → ∀ k, k < l.length → Calls Tryd.prog 74 #[.int .i64 (k : Int), .pointer (some ⟨w.heap.size, 0, none⟩)] w' fun e w'' => e = .returned (.bool (gnN l k)) ∧ w'' = w') := hide (fun w' hb k hk => by
    obtain ⟨g, rfl, hg, hc⟩ := ((h.later hb0).later hb).ad (by intro c; rw [c] at hk; simp at hk)
    exact shown1_any hc w.heap.size ((hb.block w.heap.size (by omega)).trans hh0) k hk)
  have HM := hide (ordL_mem hgd)
  have HL := hide (ordL_len hgd)
  have k0 : w0.cell? ⟨w.heap.size, 0, none⟩ = some (.slice a l.length cap) := by rw [cell_of_row _ _ 0 _ _ (0, 0) hh0]; rfl
  unfold shL
  obtain ⟨o, ho⟩ : ∃ o, o = ordL l := ⟨_, rfl⟩
  rw [← ho] at O HM HL ⊢
  clear h hb0 hh0 hgd hs0 ho
  go_enter Tryd.func51, Tryd.ntmps51
  rw [hw0] at k0
  go_wp2_with fail
  rw [← hw0] at k0 ⊢
  clear hw0 k0
  refine O.out.mono ?_
  rintro e w2 ⟨v, rfl, hv, hb2⟩
  have D := hide (deleteO_any (l := l) (o := o) w.heap.size (fun w' hb => HC.out w' (hb2.trans hb)) hv HM.out (by have := HL.out; omega))
  have HB2 := hide hb2
  clear hv hb2
  go_wp2_with fail
  refine D.out.mono ?_
  rintro e w3 ⟨v3, rfl, hv3, hb3⟩
  have HV3 := hide hv3
  have HB3 := hide (HB2.out.trans hb3)
  clear hv3 hb3 D
  go_wp2
  go_ret
  exact ⟨v3, rfl, own_mono HV3.out (by have := HS0.out; omega), HB0.out.trans (HB3.out.mono HB0.out.size)⟩
end Go.Proofs.YtnhooalibadeeaaDoor
