/- The contract of the model's ClashesOf. -/
import Derived.Test.YtojlnnlcbpjdlabDoorFoot7
import Derived.Test.YtojlnnlcbpjdlabDoorSameW2
set_option linter.unusedVariables false
namespace Go.Proofs.YtojlnnlcbpjdlabDoor
open Go.RowKit Go.Shelf
open Doc1

/-- How many clashes the model counts. -/
def clsM (la lb : List Pt) : Nat := (wmL (amid (rnL (normL lb)).1) (normL la)).1 + (wmL (amid (rnL (normL la)).1) (normL lb)).1 + ((byL la).zip (byL lb)).countP nz2
theorem zip_step {bx by_ : List UInt8} {k : Nat} (h1 : k < bx.length) (h2 : k < by_.length) : ((bx.zip by_).take (k + 1)).countP nz2 = ((bx.zip by_).take k).countP nz2 + (if nz2 (bx[k], by_[k]) = true then 1 else 0) := by
  have hz : k < (bx.zip by_).length := by simp; omega
  rw [List.take_succ_eq_append_getElem hz, List.countP_append, List.countP_singleton, List.getElem_zip]

set_option maxRecDepth 100000 in
set_option maxHeartbeats 4000000 in
theorem clashesS_bad {w : World} {ga ca gb cb : Nat} {la lb : List Pt} (ha : Pin w (some ⟨ga, 0, none⟩) ga ca la) (hb : Pin w (some ⟨gb, 0, none⟩) gb cb lb) (hs : samA la lb = false) :
    Calls Tryd.prog 5 #[.slice (some ⟨ga, 0, none⟩) la.length ca, .slice (some ⟨gb, 0, none⟩) lb.length cb] w fun e w' => e = .returned (.tuple #[.int .i64 0, .bool false]) ∧ Below w.heap.size w w' := by
  have G1 := hide (goodOpS ha)
  have G2 := hide (fun w' (h : Below w.heap.size w w') => goodOpS (hb.later h))
  unfold samA samK at hs
  cases h1 : goodO la with
  | false =>
    rw [h1] at G1
    clear ha hb hs h1 G2
    go_enter Tryd.func5, Tryd.ntmps5
    go_wp2_with fail
    refine G1.out.mono ?_
    rintro e w1 ⟨rfl, hb1⟩
    go_wp2
    go_ret2
    exact ⟨rfl, hb1⟩
  | true =>
    rw [h1] at G1
    cases h2 : goodO lb with
    | false =>
      rw [h2] at G2
      clear ha hb hs h1 h2
      go_enter Tryd.func5, Tryd.ntmps5
      go_wp2_with fail
      refine G1.out.mono ?_
      rintro e w1 ⟨rfl, hb1⟩
      go_wp2_with fail
      refine (G2.out w1 hb1).mono ?_
      rintro e w2 ⟨rfl, hb'⟩
      have hb2 := hb1.trans (hb'.mono hb1.size)
      go_wp2
      go_ret2
      exact ⟨rfl, hb2⟩
    | true =>
      rw [h2] at G2
      obtain ⟨q1, q2, -, -⟩ := goodO_parts h1
      obtain ⟨q3, q4, -, -⟩ := goodO_parts h2
      have S := hide (fun w' (h : Below w.heap.size w w') => l4Same_any (ha.later h) (hb.later h) q1 q3 q2 q4)
      rw [h1, h2, Bool.true_and, Bool.true_and] at hs
      rw [hs] at S
      clear ha hb hs h1 h2 q2 q4
      generalize decide (tkL la = tkL lb) = d at *
      go_enter Tryd.func5, Tryd.ntmps5
      go_wp2_with fail
      refine G1.out.mono ?_
      rintro e w1 ⟨rfl, hb1⟩
      go_wp2_with fail
      refine (G2.out w1 hb1).mono ?_
      rintro e w2 ⟨rfl, hb'⟩
      have hb2 := hb1.trans (hb'.mono hb1.size)
      clear hb' hb1 G1 G2
      go_wp2_with fail
      refine (S.out w2 hb2).mono ?_
      rintro e w3 ⟨rfl, hb'⟩
      have hb3 := hb2.trans (hb'.mono hb2.size)
      go_wp2
      go_ret2
      exact ⟨rfl, hb3⟩

set_option maxRecDepth 100000 in
set_option maxHeartbeats 4000000 in
theorem clashesS {w : World} {ga ca gb cb : Nat} {la lb : List Pt} (ha : Pin w (some ⟨ga, 0, none⟩) ga ca la) (hb : Pin w (some ⟨gb, 0, none⟩) gb cb lb) (hs : samA la lb = true) :
    Calls Tryd.prog 5 #[.slice (some ⟨ga, 0, none⟩) la.length ca, .slice (some ⟨gb, 0, none⟩) lb.length cb] w fun e w' => e = .returned (.tuple #[.int .i64 (clsM la lb : Int), .bool true]) ∧ Below w.heap.size w w' := by
  have G1 := hide (goodOpS ha)
  have G2 := hide (fun w' (h : Below w.heap.size w w') => goodOpS (hb.later h))
  unfold samA samK at hs
  simp only [Bool.and_eq_true, decide_eq_true_eq] at hs
  obtain ⟨⟨h1, h2, ht⟩, hlk⟩ := hs
  rw [h1] at G1
  rw [h2] at G2
  obtain ⟨q1, q2, -, -⟩ := goodO_parts h1
  obtain ⟨q3, q4, -, -⟩ := goodO_parts h2
  have S := hide (fun w' (h : Below w.heap.size w w') => l4Same_any (ha.later h) (hb.later h) q1 q3 q2 q4)
  rw [hlk, decide_eq_true ht] at S
  have WA := hide (fun w' (h : Below w.heap.size w w') => l4Within_any (ha.later h) (hb.later h) h1 h2)
  have WB := hide (fun w' (h : Below w.heap.size w w') => l4Within_any (hb.later h) (ha.later h) h2 h1)
  have BA := hide (fun w' (h : Below w.heap.size w w') => l4Bytes_any (ha.later h) q1 q2)
  have BB := hide (fun w' (h : Below w.heap.size w w') => l4Bytes_any (hb.later h) q3 q4)
  have la1 := byL_len la q2
  have lb1 := byL_len lb q4
  have bda := (all_bd la q2).1
  have hm1 := (wm_le (amid (rnL (normL lb)).1) (normL la) (goodO_pk (norm_goodO h1).1)).1
  have hm2 := (wm_le (amid (rnL (normL la)).1) (normL lb) (goodO_pk (norm_goodO h2).1)).1
  have n1 := (goodO_le (norm_goodO h1).1).1
  have n2 := (goodO_le (norm_goodO h2).1).1
  unfold clsM
  have hlen : (byL la).length = (byL lb).length := by omega
  have hx : (byL la).length ≤ 18000 := by omega
  clear ha hb h1 h2 hlk q2 q4 la1 lb1 bda ht
  generalize byL la = bx at *
  generalize byL lb = by_ at *
  generalize (wmL (amid (rnL (normL lb)).1) (normL la)).1 = m1 at *
  generalize (wmL (amid (rnL (normL la)).1) (normL lb)).1 = m2 at *
  go_enter Tryd.func5, Tryd.ntmps5
  go_wp2_with fail
  refine G1.out.mono ?_
  rintro e w1 ⟨rfl, hb1⟩
  go_wp2_with fail
  refine (G2.out w1 hb1).mono ?_
  rintro e w2 ⟨rfl, hb'⟩
  have hb2 := hb1.trans (hb'.mono hb1.size)
  clear hb' hb1 G1 G2
  go_wp2_with fail
  refine (S.out w2 hb2).mono ?_
  rintro e w3 ⟨rfl, hb'⟩
  have hb3 := hb2.trans (hb'.mono hb2.size)
  clear hb' hb2 S
  go_wp2_with fail
  refine (WA.out w3 hb3).mono ?_
  rintro e w4 ⟨rfl, hb'⟩
  have hb4 := hb3.trans (hb'.mono hb3.size)
  clear hb' hb3 WA
  go_wp2_with fail
  refine (WB.out w4 hb4).mono ?_
  rintro e w5 ⟨rfl, hb'⟩
  have hb5 := hb4.trans (hb'.mono hb4.size)
  clear hb' hb4 WB
  go_wp2_with fail
  refine (BA.out w5 hb5).mono ?_
  rintro e w6 ⟨v1, rfl, o1, hb'⟩
  have hb6 := hb5.trans (hb'.mono hb5.size)
  have O1 := hide o1
  obtain ⟨a1, c1, rfl, -, -⟩ := own_shp o1
  clear hb' hb5 BA o1
  go_wp2_with fail
  refine (BB.out w6 hb6).mono ?_
  rintro e w7 ⟨v2, rfl, o2, hb'⟩
  have hb7 := hb6.trans (hb'.mono hb6.size)
  have O17 := hide (own_below O1.out hb')
  have O2 := hide o2
  obtain ⟨a2, c2, rfl, -, -⟩ := own_shp o2
  clear hb' hb6 BB o2 O1
  go_wp2
  go_loopw [8, 45] (fun v i wr => ∃ k : Nat, k ≤ bx.length ∧ i = .int .i64 k ∧ v = .int .i64 ((m1 + m2 + ((bx.zip by_).take k).countP nz2 : Nat) : Int) ∧ Below w7.heap.size w7 wr) (fun _ i _ => bx.length - (intOf i).toNat)
  case atStart => exact ⟨0, by omega, rfl, by simp, Below.refl _ _⟩
  case round =>
    obtain ⟨k, hk, rfl, rfl, hbr⟩ := hrel
    by_cases hlt : k < bx.length
    · have hlt2 : k < by_.length := by omega
      obtain ⟨g1, cp1, ev, -, -, -, -, hc1, -⟩ := own_cat (own_below O17.out hbr) (by omega)
      cases ev
      obtain ⟨g2, cp2, ev, -, -, -, -, hc2, -⟩ := own_cat (own_below O2.out hbr) (by omega)
      cases ev
      have e1 := hc1 k (.int .u8 (bx[k].toNat : Int)) (by simp [byt, hlt])
      have e2 := hc2 k (.int .u8 (by_[k].toNat : Int)) (by simp [byt, hlt2])
      have hst := zip_step hlt hlt2
      have hle : ((bx.zip by_).take k).countP nz2 ≤ 18000 := Nat.le_trans List.countP_le_length (by simp; omega)
      clear hc1 hc2
      generalize bx[k] = x at *
      generalize by_[k] = y at *
      generalize ((bx.zip by_).take k).countP nz2 = c at *
      have hk2 : (k : Int) < (by_.length : Int) := by omega
      unfold nz2 at hst
      by_cases h0 : x = 0
      · have e0 : ((x.toNat : Int) != 0) = false := by rw [h0]; rfl
        have HS : Hid (((bx.zip by_).take (k + 1)).countP (fun p => decide (p.1 ≠ 0) && decide (p.2 ≠ 0)) = c) := hide (by rw [hst]; simp [h0])
        clear hst h0
        go_wp2
        refine ⟨⟨k + 1, by omega, by go_num, by unfold nz2; rw [HS.out], hbr⟩, by simp [intOf]; omega⟩
      · have f0 := u8_ne0 h0
        by_cases h1 : y = 0
        · have e0 : ((y.toNat : Int) != 0) = false := by rw [h1]; rfl
          have HS : Hid (((bx.zip by_).take (k + 1)).countP (fun p => decide (p.1 ≠ 0) && decide (p.2 ≠ 0)) = c) := hide (by rw [hst]; simp [h1])
          clear hst h0 h1
          go_wp2
          refine ⟨⟨k + 1, by omega, by go_num, by unfold nz2; rw [HS.out], hbr⟩, by simp [intOf]; omega⟩
        · have f1 := u8_ne0 h1
          have HS : Hid (((bx.zip by_).take (k + 1)).countP (fun p => decide (p.1 ≠ 0) && decide (p.2 ≠ 0)) = c + 1) := hide (by rw [hst]; simp [h0, h1])
          clear hst h0 h1
          go_wp2
          refine ⟨⟨k + 1, by omega, by go_num, by unfold nz2; rw [HS.out]; simp; omega, hbr⟩, by simp [intOf]; omega⟩
    · obtain rfl : k = bx.length := by omega
      have hbz := hb7.trans (hbr.mono hb7.size)
      have hz : (bx.zip by_).take bx.length = bx.zip by_ := List.take_of_length_le (by simp; omega)
      rw [hz]
      go_wp2
      go_ret2
      exact ⟨rfl, hbz⟩
end Go.Proofs.YtojlnnlcbpjdlabDoor
