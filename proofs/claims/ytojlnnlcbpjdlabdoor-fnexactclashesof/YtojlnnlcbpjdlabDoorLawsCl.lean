/- The law of ClashesOf: whatever the changes, it answers true and turns nothing old. -/
import Derived.Test.YtojlnnlcbpjdlabDoorFoot5
import Derived.Test.YtojlnnlcbpjdlabDoorFoot8
import Derived.Test.YtojlnnlcbpjdlabDoorLawsO1
namespace Go.Proofs.YtojlnnlcbpjdlabDoor
open Go.RowKit
open Doc1

theorem within_eq {la lb : List Pt} (h1 : goodO la = true) (h2 : goodO lb = true) : wthn (ftL (normL lb)).1 (ftL (normL la)).2 = (wmL (amid (rnL (normL lb)).1) (normL la)).1 := by
  have n1 := goodO_pk (norm_goodO h1).1
  have n2 := goodO_pk (norm_goodO h2).1
  rw [wm_count _ _ n1]
  unfold wthn
  have : around (ftL (normL lb)).1 = amid (rnL (normL lb)).1 := funext fun t => amid_around n2 (nd_norm (goodO_pk h2)) t
  rw [this]
theorem cls_eq {la lb : List Pt} (hs : samA la lb = true) : clsN la lb = clsM la lb := by
  unfold samA samK at hs
  simp only [Bool.and_eq_true, decide_eq_true_eq] at hs
  obtain ⟨⟨h1, h2, ht⟩, -⟩ := hs
  have hct : ctk (stL la) = ctk (stL lb) := by
    have e1 := (stL_sums la (goodO_pk h1)).1
    have e2 := (stL_sums lb (goodO_pk h2)).1
    omega
  unfold clsN clsM norO
  rw [if_pos h1, if_pos h2, within_eq h1 h2, within_eq h2 h1, pairs_both (goodO_pk h1) (goodO_pk h2) hct]

theorem clash_both (a b : List Pt) (ha : szPn a ≤ 1048576) (hb : szPn b ≤ 1048576 - szPn a) (_h1 : (∀ i (hi : i < a.length), (a[i].put.size ≤ 9223372036854775807 ∧ a[i].drop.size ≤ 9223372036854775807) ∧ -9223372036854775808 ≤ a[i].keep ∧ a[i].keep ≤ 9223372036854775807)) (_h2 : (∀ i (hi : i < b.length), (b[i].put.size ≤ 9223372036854775807 ∧ b[i].drop.size ≤ 9223372036854775807) ∧ -9223372036854775808 ≤ b[i].keep ∧ b[i].keep ≤ 9223372036854775807)) :
    ∃ (x : Int) (y : Bool), (∀ (w : World) (g h : Nat), PCp w g a → PCp w h b → Calls Tryd.prog 5 #[.slice (some ⟨g, 0, none⟩) a.length a.length, .slice (some ⟨h, 0, none⟩) b.length b.length] w fun e w' => e = .returned (.tuple #[.int .i64 x, .bool y]) ∧ Below w.heap.size w w') ∧
      (∀ (w : World) (g h : Nat), Tab w → PCp w g a → PCp w h b → Calls Tryd.prog 7 #[.slice (some ⟨g, 0, none⟩) a.length a.length, .slice (some ⟨h, 0, none⟩) b.length b.length] w fun e w' => e = .returned (.tuple #[.int .i64 x, .bool y]) ∧ Below w.heap.size w w') := by
  cases hs : samA a b with
  | false => exact ⟨0, false, fun _ _ _ p q => clashesS_bad (p.pin ha) (q.pin (by omega)) hs, fun _ _ _ hT p q => clashesI_bad (p.pin ha) (q.pin (by omega)) hT hs⟩
  | true =>
    refine ⟨(clsM a b : Int), true, fun _ _ _ p q => clashesS (p.pin ha) (q.pin (by omega)) hs, fun _ _ _ hT p q => ?_⟩
    have := clashesI (p.pin ha) (q.pin (by omega)) hT hs
    rw [cls_eq hs] at this
    exact this

set_option maxRecDepth 100000 in
set_option maxHeartbeats 4000000 in
theorem law_clashes (va : Value) (a : List Pt) (vb : Value) (b : List Pt) (w : World) (haa : ArgP w va a) (hra : (∀ i (hi : i < a.length), (a[i].put.size ≤ 9223372036854775807 ∧ a[i].drop.size ≤ 9223372036854775807) ∧ -9223372036854775808 ≤ a[i].keep ∧ a[i].keep ≤ 9223372036854775807)) (hab : ArgP w vb b) (hrb : (∀ i (hi : i < b.length), (b[i].put.size ≤ 9223372036854775807 ∧ b[i].drop.size ≤ 9223372036854775807) ∧ -9223372036854775808 ≤ b[i].keep ∧ b[i].keep ≤ 9223372036854775807)) (hT : Tab w) :
    Calls Tryd.prog 3 #[va, vb] w fun e w' => e = .returned (.bool true) ∧ Below w.heap.size w w' := by
  have hla := argP_len haa
  by_cases fsa : szPn a ≤ 1048576
  · skip
    have hlb := argP_len hab
    by_cases fsb : szPn b ≤ 1048576 - szPn a
    · skip
      obtain ⟨T0, T1, HS, HI⟩ := clash_both a b fsa fsb hra hrb
      replace HS := hide HS
      replace HI := hide HI
      have hrSa := fun i hi => (hra i hi).1
      have Za := hide (fun w' (h : ArgP w' va a) (lf : Nat) (hlf : lf ≤ 1048576) => szP_from h hrSa hla lf hlf)
      have Ca : Hid (∀ w', ArgP w' va a → Calls Tryd.prog 6 #[va] w' fun e w'' => e = .returned (.slice (some ⟨w'.heap.size, 0, none⟩) a.length a.length) ∧ PCp w'' w'.heap.size a ∧ Below w'.heap.size w' w'') := hide (fun w' h => toP_cp h (by have := fsa; unfold szPn at this; omega))
      have HAa := hide haa
      have hba : a.length ≤ 1048576 := by have := fsa; unfold szPn at this; omega
      clear haa hra hrSa
      have hrSb := fun i hi => (hrb i hi).1
      have Zb := hide (fun w' (h : ArgP w' vb b) (lf : Nat) (hlf : lf ≤ 1048576) => szP_from h hrSb hlb lf hlf)
      have Cb : Hid (∀ w', ArgP w' vb b → Calls Tryd.prog 6 #[vb] w' fun e w'' => e = .returned (.slice (some ⟨w'.heap.size, 0, none⟩) b.length b.length) ∧ PCp w'' w'.heap.size b ∧ Below w'.heap.size w' w'') := hide (fun w' h => toP_cp h (by have := fsb; unfold szPn at this; omega))
      have HAb := hide hab
      have hbb : b.length ≤ 1048576 := by have := fsb; unfold szPn at this; omega
      clear hab hrb hrSb
      have hB := Below.refl w.heap.size w
      go_enter Tryd.func3, Tryd.ntmps3
      have Ya := hide (Za.out w (HAa.out.later hB) (1048576) (by omega))
      go_wp2_with fail
      refine (Ya.out).mono ?_
      rintro e w1 ⟨rfl, hb1⟩
      rw [if_pos fsa]
      have s1 := hide hb1.size
      replace hB := hB.trans (hb1.mono hB.size)
      clear hb1
      have Yb := hide (Zb.out w1 (HAb.out.later hB) (1048576 - szPn a) (by omega))
      go_wp2_with fail
      refine (Yb.out).mono ?_
      rintro e w2 ⟨rfl, hb2⟩
      rw [if_pos fsb]
      have s2 := hide hb2.size
      replace hB := hB.trans (hb2.mono hB.size)
      clear hb2
      go_wp2_with fail
      refine (Ca.out w2 (HAa.out.later hB)).mono ?_
      rintro e w3 ⟨rfl, caa, hb3⟩
      have taa := hide caa.lt
      have s3 := hide hb3.size
      replace hB := hB.trans (hb3.mono hB.size)
      clear hb3
      go_wp2_with fail
      refine (Cb.out w3 (HAb.out.later hB)).mono ?_
      rintro e w4 ⟨rfl, cab, hb4⟩
      have tab := hide cab.lt
      replace caa := caa.later hb4
      have s4 := hide hb4.size
      replace hB := hB.trans (hb4.mono hB.size)
      clear hb4
      go_wp2_with fail
      refine (HS.out w4 w2.heap.size w3.heap.size caa cab).mono ?_
      rintro e w5 ⟨rfl, hb5⟩
      replace caa := caa.later hb5
      replace cab := cab.later hb5
      have s5 := hide hb5.size
      replace hB := hB.trans (hb5.mono hB.size)
      clear hb5
      clear caa cab
      go_wp2_with fail
      refine (Ca.out w5 (HAa.out.later hB)).mono ?_
      rintro e w6 ⟨rfl, cba, hb6⟩
      have tba := hide cba.lt
      have s6 := hide hb6.size
      replace hB := hB.trans (hb6.mono hB.size)
      clear hb6
      go_wp2_with fail
      refine (Cb.out w6 (HAb.out.later hB)).mono ?_
      rintro e w7 ⟨rfl, cbb, hb7⟩
      have tbb := hide cbb.lt
      replace cba := cba.later hb7
      have s7 := hide hb7.size
      replace hB := hB.trans (hb7.mono hB.size)
      clear hb7
      go_wp2_with fail
      refine (HI.out w7 w5.heap.size w6.heap.size (hT.below hB) cba cbb).mono ?_
      rintro e w8 ⟨rfl, hb8⟩
      replace cba := cba.later hb8
      replace cbb := cbb.later hb8
      have s8 := hide hb8.size
      replace hB := hB.trans (hb8.mono hB.size)
      clear hb8
      go_wp2_with fail
      refine (Ca.out w8 (HAa.out.later hB)).mono ?_
      rintro e w9 ⟨rfl, cca, hb9⟩
      replace cba := cba.later hb9
      replace cbb := cbb.later hb9
      have s9 := hide hb9.size
      replace hB := hB.trans (hb9.mono hB.size)
      clear hb9
      go_wp2_with fail
      refine (eqP_cp cba cca (by omega)).mono ?_
      rintro e w10 ⟨rfl, hb10⟩
      clear cca
      replace cba := cba.later hb10
      replace cbb := cbb.later hb10
      have s10 := hide hb10.size
      replace hB := hB.trans (hb10.mono hB.size)
      clear hb10
      go_wp2_with fail
      refine (Cb.out w10 (HAb.out.later hB)).mono ?_
      rintro e w11 ⟨rfl, ccb, hb11⟩
      replace cba := cba.later hb11
      replace cbb := cbb.later hb11
      have s11 := hide hb11.size
      replace hB := hB.trans (hb11.mono hB.size)
      clear hb11
      go_wp2_with fail
      refine (eqP_cp cbb ccb (by omega)).mono ?_
      rintro e w12 ⟨rfl, hb12⟩
      clear ccb
      replace cba := cba.later hb12
      replace cbb := cbb.later hb12
      have s12 := hide hb12.size
      replace hB := hB.trans (hb12.mono hB.size)
      clear hb12
      go_wp2
      go_ret
      exact ⟨rfl, hB⟩
    · have hrSb := fun i hi => (hrb i hi).1
      have hrSa := fun i hi => (hra i hi).1
      go_enter Tryd.func3, Tryd.ntmps3
      have Z0 := hide (szP_from haa hrSa hla 1048576 (by omega))
      go_wp2_with fail
      refine Z0.out.mono ?_
      rintro e z0 ⟨rfl, hz0⟩
      rw [if_pos fsa]
      go_wp2_with fail
      have Z1 := hide (szP_from (ArgP.later hab hz0) hrSb hlb (1048576 - szPn a) (by omega))
      refine Z1.out.mono ?_
      rintro e z1 ⟨rfl, hz1⟩
      replace hz1 := hz0.trans (hz1.mono hz0.size)
      rw [if_neg fsb]
      go_wp2
      go_ret
      exact ⟨rfl, hz1⟩
  · have hrSa := fun i hi => (hra i hi).1
    go_enter Tryd.func3, Tryd.ntmps3
    have Z0 := hide (szP_from haa hrSa hla 1048576 (by omega))
    go_wp2_with fail
    refine Z0.out.mono ?_
    rintro e z0 ⟨rfl, hz0⟩
    rw [if_neg fsa]
    go_wp2
    go_ret
    exact ⟨rfl, hz0⟩

end Go.Proofs.YtojlnnlcbpjdlabDoor
