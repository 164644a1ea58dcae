/- The contracts of impl.SameTexts and of the model's, whatever the changes. -/
import Derived.Test.YtojlnnlcbpjdlabDoorSameW1
import Derived.Test.YtojlnnlcbpjdlabDoorMoveSZ
import Derived.BigQuiet
import Derived.Deep.QuietTactic
namespace Go.Proofs.YtojlnnlcbpjdlabDoor
open Go.RowKit Go.Shelf
open Doc1

def samA (la lb : List Pt) : Bool := samK la lb && likeB (byL la) (byL lb)

set_option maxRecDepth 100000 in
set_option maxHeartbeats 1000000 in
theorem sameI {w : World} {ga ca gb cb : Nat} {la lb : List Pt} (ha : Pin w (some ⟨ga, 0, none⟩) ga ca la) (hb : Pin w (some ⟨gb, 0, none⟩) gb cb lb) (hT : Tab w) :
    Calls Tryd.prog 15 #[.slice (some ⟨ga, 0, none⟩) la.length ca, .slice (some ⟨gb, 0, none⟩) lb.length cb] w fun e w' => e = .returned (.tuple #[.bool (samA la lb), .bool (samK la lb)]) ∧ Below w.heap.size w w' := by
  unfold samA
  cases hk : samK la lb with
  | false =>
    have P := hide (pairsI_bad ha hb hT hk)
    simp only [Bool.false_and]
    clear ha hb hT hk
    go_enter Tryd.func15, Tryd.ntmps15
    go_wp2_with fail
    refine P.out.mono ?_
    rintro e w1 ⟨rfl, hb1⟩
    go_wp2
    go_ret2
    exact ⟨rfl, hb1⟩
  | true =>
    have hk' := hk
    unfold samK at hk'
    simp only [Bool.and_eq_true, decide_eq_true_eq] at hk'
    obtain ⟨g1, g2, ht⟩ := hk'
    have hpa := goodO_pk g1
    have hpb := goodO_pk g2
    have hct : ctk (stL la) = ctk (stL lb) := by
      have h1 := (stL_sums la hpa).1
      have h2 := (stL_sums lb hpb).1
      omega
    have P := hide (pairsI_good ha hb hT g1 g2 ht)
    have hs := same_pairs hpa hpb hct
    have hln := prF_len hct
    have s1 := st_len g1
    have s2 := st_len g2
    rw [hs]
    simp only [Bool.true_and]
    generalize prF (stL la) (stL lb) = F at *
    clear ha hb hT hk hs hct hpa hpb g1 g2 ht
    have CF := hide (fun (w' : World) (B : Nat) (v : Value) (h : w'.ownsRow B 53 4 v F.length (prC F)) => containsFunc_any h (by omega))
    go_enter Tryd.func15, Tryd.ntmps15
    go_wp2_with fail
    refine P.out.mono ?_
    rintro e w1 ⟨v, rfl, ho, hb1⟩
    have C1 := hide (CF.out w1 _ v ho)
    obtain ⟨a0, c0, rfl, -, -⟩ := own_shp ho
    clear ho P CF
    go_wp2_with fail
    refine C1.out.mono ?_
    rintro e w2 ⟨rfl, hb2⟩
    have hbw := hb1.trans (hb2.mono hb1.size)
    go_wp2
    go_ret2
    exact ⟨rfl, hbw⟩

theorem like_step {bx by_ : List UInt8} {k : Nat} (h1 : k < bx.length) (h2 : k < by_.length) : likeB (bx.drop k) (by_.drop k) = ((decide (bx[k] = 0) || (decide (by_[k] = 0) || decide (bx[k] = by_[k]))) && likeB (bx.drop (k + 1)) (by_.drop (k + 1))) := by
  unfold likeB
  rw [List.drop_eq_getElem_cons h1, List.drop_eq_getElem_cons h2, List.zip_cons_cons, List.all_cons]
theorem like_end {bx by_ : List UInt8} {k : Nat} (h1 : bx.length ≤ k) : likeB (bx.drop k) (by_.drop k) = true := by
  rw [List.drop_eq_nil_of_le h1]
  simp [likeB]
theorem u8_ne0 {c : UInt8} (h : c ≠ 0) : ((c.toNat : Int) != 0) = true := by
  simp only [bne_iff_ne, ne_eq]
  intro e
  exact h (UInt8.toNat_inj.1 (by simp; omega))
theorem u8_ne {c d : UInt8} (h : c ≠ d) : ((c.toNat : Int) != (d.toNat : Int)) = true := by
  simp only [bne_iff_ne, ne_eq]
  intro e
  exact h (UInt8.toNat_inj.1 (by omega))

set_option maxRecDepth 100000 in
set_option maxHeartbeats 4000000 in
theorem l4Same_any {w : World} {ga ca gb cb : Nat} {la lb : List Pt} (ha : Pin w (some ⟨ga, 0, none⟩) ga ca la) (hb : Pin w (some ⟨gb, 0, none⟩) gb cb lb) (h6a : la.length ≤ 60) (h6b : lb.length ≤ 60) (hpa : ∀ p ∈ la, pk p ≠ 0) (hpb : ∀ p ∈ lb, pk p ≠ 0) :
    Calls Tryd.prog 11 #[.slice (some ⟨ga, 0, none⟩) la.length ca, .slice (some ⟨gb, 0, none⟩) lb.length cb] w fun e w' => e = .returned (.tuple #[.bool (decide (tkL la = tkL lb) && likeB (byL la) (byL lb)), .bool (decide (tkL la = tkL lb))]) ∧ Below w.heap.size w w' := by
  have BA := hide (l4Bytes_any ha h6a hpa)
  have BB := hide (fun w' (h : Below w.heap.size w w') => l4Bytes_any (hb.later h) h6b hpb)
  have la1 := byL_len la hpa
  have lb1 := byL_len lb hpb
  have bda := (all_bd la hpa).1
  have bdb := (all_bd lb hpb).1
  have hdec : decide (tkL la = tkL lb) = decide ((byL la).length = (byL lb).length) := decide_eq_decide.2 (by omega)
  rw [hdec]
  have hx : (byL la).length ≤ 18000 := by omega
  have hy : (byL lb).length ≤ 18000 := by omega
  clear ha hb hpa hpb hdec la1 lb1 bda bdb
  generalize byL la = bx at *
  generalize byL lb = by_ at *
  by_cases heq : bx.length = by_.length
  · rw [decide_eq_true heq, Bool.true_and]
    obtain ⟨R, hR⟩ : ∃ R, R = likeB bx by_ := ⟨_, rfl⟩
    rw [← hR]
    have HR := hide hR
    clear hR
    go_enter Tryd.func11, Tryd.ntmps11
    go_wp2_with fail
    refine BA.out.mono ?_
    rintro e w1 ⟨v1, rfl, o1, hb1⟩
    have O1 := hide o1
    obtain ⟨a1, c1, rfl, d1, d2⟩ := own_shp o1
    clear o1
    go_wp2_with fail
    refine (BB.out w1 hb1).mono ?_
    rintro e w2 ⟨v2, rfl, o2, hb'⟩
    have hb2 := hb1.trans (hb'.mono hb1.size)
    have O12 := hide (own_below O1.out hb')
    have O2 := hide o2
    obtain ⟨a2, c2, rfl, d3, d4⟩ := own_shp o2
    clear o2 hb' hb1 O1 BA BB
    go_wp2
    go_loopw [20] (fun i wr => ∃ k : Nat, k ≤ bx.length ∧ i = .int .i64 k ∧ Hid (R = likeB (bx.drop k) (by_.drop k)) ∧ Below w2.heap.size w2 wr) (fun i _ => bx.length - (intOf i).toNat)
    case atStart => exact ⟨0, by omega, rfl, hide HR.out, Below.refl _ _⟩
    case round =>
      obtain ⟨k, hk, rfl, hin, hbr⟩ := hrel
      by_cases hlt : k < bx.length
      · have hlt2 : k < by_.length := by omega
        obtain ⟨g1, cp1, ev, -, -, -, -, hc1, -⟩ := own_cat (own_below O12.out hbr) (by omega)
        cases ev
        obtain ⟨g2, cp2, ev, -, -, -, -, hc2, -⟩ := own_cat (own_below O2.out hbr) (by omega)
        cases ev
        have e1 := hc1 k (.int .u8 (bx[k].toNat : Int)) (by simp [byt, hlt])
        have e2 := hc2 k (.int .u8 (by_[k].toNat : Int)) (by simp [byt, hlt2])
        have hstep := hin.out
        rw [like_step hlt hlt2] at hstep
        clear hc1 hc2
        generalize bx[k] = x at *
        generalize by_[k] = y at *
        have hk2 : (k : Int) < (by_.length : Int) := by omega
        by_cases h0 : x = 0
        · rw [decide_eq_true h0, Bool.true_or, Bool.true_and] at hstep
          have HS := hide hstep
          have e0 : ((x.toNat : Int) != 0) = false := by rw [h0]; rfl
          clear hstep h0 hin
          go_wp2_with fail
          go_quiet (fail)
          go_wp2
          go_roundw
          case rel => exact ⟨k + 1, by omega, by go_num, HS, hbr.trans ⟨rfl, rfl, rfl, Nat.le_refl _, fun _ _ => rfl⟩⟩
          case measure => simp [intOf]; omega
        · rw [decide_eq_false h0, Bool.false_or] at hstep
          have f0 := u8_ne0 h0
          by_cases h1 : y = 0
          · rw [decide_eq_true h1, Bool.true_or, Bool.true_and] at hstep
            have HS := hide hstep
            have e0 : ((y.toNat : Int) != 0) = false := by rw [h1]; rfl
            clear hstep h0 h1 hin
            go_wp2_with fail
            go_quiet (fail)
            go_wp2
            go_roundw
            case rel => exact ⟨k + 1, by omega, by go_num, HS, hbr.trans ⟨rfl, rfl, rfl, Nat.le_refl _, fun _ _ => rfl⟩⟩
            case measure => simp [intOf]; omega
          · rw [decide_eq_false h1, Bool.false_or] at hstep
            have f1 := u8_ne0 h1
            by_cases h2 : x = y
            · rw [decide_eq_true h2, Bool.true_and] at hstep
              have HS := hide hstep
              have e0 : ((x.toNat : Int) != (y.toNat : Int)) = false := by rw [h2]; simp
              clear hstep h0 h1 h2 hin
              go_wp2_with fail
              go_quiet (fail)
              go_wp2
              go_roundw
              case rel => exact ⟨k + 1, by omega, by go_num, HS, hbr.trans ⟨rfl, rfl, rfl, Nat.le_refl _, fun _ _ => rfl⟩⟩
              case measure => simp [intOf]; omega
            · rw [decide_eq_false h2, Bool.false_and] at hstep
              have HS := hide hstep
              have e0 := u8_ne h2
              clear hstep h0 h1 h2 hin
              go_wp2_with fail
              go_quiet (fail)
              go_wp2
              go_ret2
              exact ⟨ret_bb HS.out.symm rfl, hb2.trans ((hbr.trans (⟨rfl, rfl, rfl, Nat.le_refl _, fun _ _ => rfl⟩ : Below w2.heap.size wr (wr.drewN nq))).mono hb2.size)⟩
      · have hend := hin.out
        rw [like_end (by omega)] at hend
        have HS := hide hend
        clear hend hin
        go_wp2
        go_ret2
        exact ⟨ret_bb HS.out.symm rfl, hb2.trans (hbr.mono hb2.size)⟩
  · rw [decide_eq_false heq, Bool.false_and]
    have hne : ((bx.length : Int) != (by_.length : Int)) = true := by simpa using (show (bx.length : Int) ≠ (by_.length : Int) by omega)
    go_enter Tryd.func11, Tryd.ntmps11
    go_wp2_with fail
    refine BA.out.mono ?_
    rintro e w1 ⟨v1, rfl, o1, hb1⟩
    obtain ⟨a1, c1, rfl, d1, d2⟩ := own_shp o1
    clear o1
    go_wp2_with fail
    refine (BB.out w1 hb1).mono ?_
    rintro e w2 ⟨v2, rfl, o2, hb'⟩
    have hb2 := hb1.trans (hb'.mono hb1.size)
    obtain ⟨a2, c2, rfl, d3, d4⟩ := own_shp o2
    clear o2 hb' hb1 BA BB heq
    go_wp2
    go_ret2
    exact ⟨rfl, hb2⟩

end Go.Proofs.YtojlnnlcbpjdlabDoor
