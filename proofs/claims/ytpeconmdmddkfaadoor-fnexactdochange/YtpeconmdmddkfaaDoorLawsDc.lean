/- The walk of the exact law of DoChange. -/
import Derived.Test.YtpeconmdmddkfaaDoorCopM
import Derived.Test.YtpeconmdmddkfaaDoorMkPz
set_option linter.unusedVariables false
namespace Go.Proofs.YtpeconmdmddkfaaDoor
open Go.RowKit
open Doc1

theorem PCp.outI {a b : Nat} {w w1 : World} {g : Nat} {l : List Pt} (h : PCp w g l) (ho : Out (Iv a b) w w1) (hd : g < a ∨ b ≤ g) : PCp w1 g l := h.block ho.size (ho.block g h.lt (fun e => by have := e.1; have := e.2; omega))
theorem mkU_bd {l : List (List Pt)} (h : ∀ i (hi : i < l.length), l[i].length ≤ 1048576) : ∀ i, i ≤ l.length → mkU l i ≤ i * 3145728
  | 0, _ => Nat.zero_le _
  | i + 1, hi => by
    have h1 := mkU_bd h i (by omega)
    have h2 := mkU_succ l i hi
    have h3 := h i hi
    omega
theorem dcU_sm {t : ByteArray} {u r : List (List Pt)} {op : List Pt} (hm : SmC u) : (dcU t u r op).length ≤ 20 ∧ SmC (dcU t u r op) := by
  unfold dcU
  by_cases hb : dcB t u r op = true
  · rw [if_pos hb]
    have hgo : goodO op = true := by
      unfold dcB at hb
      simp at hb
      exact (apl_yes hb.2).1
    exact ⟨lst_len _, smC_lst hm (inv_sm hgo)⟩
  · rw [if_neg hb]
    exact ⟨by simp, by simp, fun i hi => by simp at hi⟩
theorem dcU_bd {t : ByteArray} {u r : List (List Pt)} {op : List Pt} (hm : SmC u) : BdC (dcU t u r op) := by
  have h := dcU_sm (t := t) (r := r) (op := op) hm
  exact ⟨by omega, fun i hi => by have := (h.2.2 i hi).1; omega⟩
theorem dc_mk {t : ByteArray} {u r : List (List Pt)} {op : List Pt} (hm : SmC u) : mkN (dcU t u r op) + mkN (dcR t u r op) ≤ 100000000 := by
  have h := dcU_sm (t := t) (r := r) (op := op) hm
  have h1 := mkU_bd (fun i hi => (h.2.2 i hi).1) (dcU t u r op).length (Nat.le_refl _)
  have h2 : mkN (dcR t u r op) = 0 := rfl
  unfold mkN at h2 ⊢
  omega
theorem dcR_bd {t : ByteArray} {u r : List (List Pt)} {op : List Pt} : BdC (dcR t u r op) := ⟨by simp [dcR], fun i hi => by simp [dcR] at hi⟩

set_option maxRecDepth 100000 in
set_option maxHeartbeats 8000000 in
theorem law_doChange (th : ByteArray) (vuh vrh : Value) (uh rh : List (List Pt)) (vop : Value) (op : List Pt) (w : World) (hauh : ArgC w vuh uh) (harh : ArgC w vrh rh) (htth : th.size ≤ 9223372036854775807) (hsuh : ∀ i (hi : i < uh.length), ThinP uh[i]) (hsrh : ∀ i (hi : i < rh.length), ThinP rh[i]) (haop : ArgP w vop op) (hsop : ThinP op) (hT : Tab w) :
    Calls Tryd.prog 5 #[.agg #[.string th, vuh, vrh], vop] w fun e w' => e = .returned (.bool true) ∧ Below w.heap.size w w' := by
  obtain ⟨auh, cuh, rfl⟩ := argC_shp hauh
  obtain ⟨arh, crh, rfl⟩ := argC_shp harh
  obtain ⟨aop, cop, rfl⟩ := argP_shp haop
  by_cases fsh : szHn th uh rh ≤ 1048576
  · skip
    by_cases fsop : szPn op ≤ 1048576 - szHn th uh rh
    · skip
      have hcuh : szCn uh ≤ 1048576 := by have q0 := fsh; unfold szHn at q0; omega
      have hcrh : szCn rh ≤ 1048576 := by have q0 := fsh; unfold szHn at q0; omega
      have hcth : th.size ≤ 1048576 := by have q0 := fsh; unfold szHn at q0; omega
      have HAUh := hide hauh
      have HARh := hide harh
      have SZh := hide (fun w' (hb : Below w.heap.size w w') => szH_from (hauh.later hb) (harh.later hb) htth hsuh hsrh (1048576) (by omega))
      simp only [if_pos fsh] at SZh
      have TCh := hide (fun w' (hb : Below w.heap.size w w') => toX (t := th) (hauh.later hb) (harh.later hb) hcuh hcrh)
      have BUh := hide (bdC_of hcuh)
      have BRh := hide (bdC_of hcrh)
      have MUh := mkN_sz uh
      have MRh := mkN_sz rh
      have hlop : op.length ≤ 1048576 := by have q0 := szPn_len op; omega
      have hsmop : ∀ j (hj : j < op.length), op[j].put.size ≤ 1048576 ∧ op[j].drop.size ≤ 1048576 := fun j hj => szP_each (B := 1048576) (by omega) j hj
      have SZop := hide (fun w' (hb : Below w.heap.size w w') => szP_from (haop.later hb) hsop (argP_len haop) (1048576 - szHn th uh rh) (by omega))
      simp only [if_pos fsop] at SZop
      have TCop := hide (fun w' (hb : Below w.heap.size w w') => toP_cp (haop.later hb) (by omega))
      have HTb := hide hT
      have hB := hide (Below.refl w.heap.size w)
      clear hT
      have HS := hide (fun w' {lo hi : Nat} {vu vr vo : Value} (h : HX lo hi w' vu vr uh rh) (hp : PR w' vo op) hT => doS (t := th) h hcth (smC_of hcuh) (smC_of hcrh) hp hlop hsmop (Nat.lt_of_le_of_lt (Nat.zero_le _) (Tab.lt hT)))
      have HI := hide (fun w' {lo hi : Nat} {vu vr vo : Value} (h : HX lo hi w' vu vr uh rh) (hp : PR w' vo op) hT (hlo : 0 < lo) => doI (t := th) h hcth (smC_of hcuh) (smC_of hcrh) hp hlop hsmop hT hlo)
      obtain ⟨R0, hR0⟩ : ∃ R, dcT th uh rh op = R := ⟨_, rfl⟩
      obtain ⟨R1, hR1⟩ : ∃ R, dcU th uh rh op = R := ⟨_, rfl⟩
      obtain ⟨R2, hR2⟩ : ∃ R, dcR th uh rh op = R := ⟨_, rfl⟩
      obtain ⟨R3, hR3⟩ : ∃ R, dcB th uh rh op = R := ⟨_, rfl⟩
      simp only [hR0, hR1, hR2, hR3] at HS HI
      have BQ1 : Hid (BdC R1) := hide (by rw [← hR1]; exact dcU_bd (smC_of hcuh))
      have BQ2 : Hid (BdC R2) := hide (by rw [← hR2]; exact dcR_bd)
      have hKb : mkN R1 + mkN R2 ≤ 100000000 := by rw [← hR1, ← hR2]; exact dc_mk (smC_of hcuh)
      clear hR0 hR1 hR2 hR3
      obtain ⟨Kh, hKh⟩ : ∃ K : Nat, 1048576 - szHn th uh rh = K := ⟨_, rfl⟩
      rw [hKh] at SZh SZop fsop
      have e0h : decide ((Kh : Int) < 0) = false := by rw [decide_eq_false_iff_not]; omega
      obtain ⟨Kop, hKop⟩ : ∃ K : Nat, Kh - szPn op = K := ⟨_, rfl⟩
      rw [hKop] at SZop
      have e0op : decide ((Kop : Int) < 0) = false := by rw [decide_eq_false_iff_not]; omega
      have HMUh : Hid (mkN uh + mkN rh ≤ 10000000) := hide (by omega)
      clear hauh harh htth hsuh hsrh hcuh hcrh hcth MUh MRh haop hsop hsmop hKop fsop hKh fsh
      go_enter Tryd.func5, Tryd.ntmps5
      obtain ⟨w1, hw2⟩ : ∃ wq0, wq0 = w.alloc (.cells #[.string th, .slice auh uh.length cuh, .slice arh rh.length crh] 32) := ⟨_, rfl⟩
      have hb3 : Below w.heap.size w w1 := by rw [hw2]; exact (Below.refl _ _).alloc (Nat.le_refl _) _
      have e4 : Hid (w1.heap.size = w.heap.size + 1) := hide (by rw [hw2]; simp)
      have X5 : Hid (CB w1 w.heap.size #[.string th, .slice auh uh.length cuh, .slice arh rh.length crh]) := hide (by rw [hw2]; exact CB.new _ _ _)
      have z6 := hide hb3.size
      replace hB := hide (hB.out.trans (hb3.mono hB.out.size))
      clear hb3
      have SZ9 := hide (SZh.out w1 hB.out)
      go_wp2_with fail
      rw [← hw2]
      clear hw2
      refine (SZ9.out).mono ?_
      rintro e w7 ⟨rfl, hb8⟩
      clear SZ9
      replace X5 := hide (X5.out.later hb8)
      have z10 := hide hb8.size
      replace hB := hide (hB.out.trans (hb8.mono hB.out.size))
      clear hb8
      have SZ13 := hide (SZop.out w7 hB.out)
      go_wp2_with fail
      refine (SZ13.out).mono ?_
      rintro e w11 ⟨rfl, hb12⟩
      clear SZ13
      replace X5 := hide (X5.out.later hb12)
      have z14 := hide hb12.size
      replace hB := hide (hB.out.trans (hb12.mono hB.out.size))
      clear hb12
      have T20 := hide (TCh.out w11 hB.out)
      have k21 : w11.cell? ⟨w.heap.size, 0, none⟩ = some (.string th) := X5.out.cell 0 rfl
      have k22 : w11.cell? ⟨w.heap.size, 1, none⟩ = some (.slice auh uh.length cuh) := X5.out.cell 1 rfl
      have k23 : w11.cell? ⟨w.heap.size, 2, none⟩ = some (.slice arh rh.length crh) := X5.out.cell 2 rfl
      go_wp2_with fail
      refine (T20.out).mono ?_
      rintro e w15 ⟨xu17, xr18, rfl, hx19, hb16⟩
      clear T20 k21 k22 k23
      obtain ⟨axu17, cxu17, axr18, cxr18, rfl, rfl⟩ := hx19.shp
      have P24 := hide hx19
      clear hx19
      replace X5 := hide (X5.out.later hb16)
      have z25 := hide hb16.size
      replace hB := hide (hB.out.trans (hb16.mono hB.out.size))
      clear hb16
      have T29 := hide (TCop.out w15 hB.out)
      go_wp2_with fail
      refine (T29.out).mono ?_
      rintro e w26 ⟨rfl, hx28, hb27⟩
      clear T29
      have Q30 := hide hx28
      have I31 : Hid (w15.heap.size < w26.heap.size) := hide hx28.lt
      clear hx28
      replace X5 := hide (X5.out.later hb27)
      replace P24 := hide (P24.out.later hb27)
      have z32 := hide hb27.size
      replace hB := hide (hB.out.trans (hb27.mono hB.out.size))
      clear hb27
      have H35 := hide (HS.out w26 P24.out (PR.cp Q30.out (by unfold maxLen; omega)) (HTb.out.below hB.out))
      go_wp2_with fail
      refine (H35.out).mono ?_
      rintro e w33 ⟨xux, xrx, rfl, hx36, hb34⟩
      clear H35
      obtain ⟨axux, cxux, axrx, cxrx, rfl, rfl⟩ := hx36.shp
      have P37 := hide hx36
      clear hx36
      replace X5 := hide (X5.out.later hb34)
      replace P24 := hide (P24.out.later hb34)
      replace Q30 := hide (Q30.out.later hb34)
      have z38 := hide hb34.size
      replace hB := hide (hB.out.trans (hb34.mono hB.out.size))
      clear hb34
      obtain ⟨w39, hw40⟩ : ∃ wq0, wq0 = w33.alloc (.cells #[.string R0, .slice axux R1.length cxux, .slice axrx R2.length cxrx] 24) := ⟨_, rfl⟩
      have hb41 : Below w33.heap.size w33 w39 := by rw [hw40]; exact (Below.refl _ _).alloc (Nat.le_refl _) _
      have e42 : Hid (w39.heap.size = w33.heap.size + 1) := hide (by rw [hw40]; simp)
      have X43 : Hid (CB w39 w33.heap.size #[.string R0, .slice axux R1.length cxux, .slice axrx R2.length cxrx]) := hide (by rw [hw40]; exact CB.new _ _ _)
      replace X5 := hide (X5.out.later hb41)
      replace P24 := hide (P24.out.later hb41)
      replace P37 := hide (P37.out.later hb41)
      replace Q30 := hide (Q30.out.later hb41)
      have z44 := hide hb41.size
      replace hB := hide (hB.out.trans (hb41.mono hB.out.size))
      clear hb41
      clear P24
      clear Q30
      have T50 := hide (TCh.out w39 hB.out)
      have k51 : w39.cell? ⟨w.heap.size, 0, none⟩ = some (.string th) := X5.out.cell 0 rfl
      rw [hw40] at k51
      have k52 : w39.cell? ⟨w.heap.size, 1, none⟩ = some (.slice auh uh.length cuh) := X5.out.cell 1 rfl
      rw [hw40] at k52
      have k53 : w39.cell? ⟨w.heap.size, 2, none⟩ = some (.slice arh rh.length crh) := X5.out.cell 2 rfl
      rw [hw40] at k53
      go_wp2_with fail
      rw [← hw40]
      clear hw40
      refine (T50.out).mono ?_
      rintro e w45 ⟨xu47, xr48, rfl, hx49, hb46⟩
      clear T50 k51 k52 k53
      obtain ⟨axu47, cxu47, axr48, cxr48, rfl, rfl⟩ := hx49.shp
      have P54 := hide hx49
      clear hx49
      replace X5 := hide (X5.out.later hb46)
      replace X43 := hide (X43.out.later hb46)
      replace P37 := hide (P37.out.later hb46)
      have z55 := hide hb46.size
      replace hB := hide (hB.out.trans (hb46.mono hB.out.size))
      clear hb46
      obtain ⟨w56, hw57⟩ : ∃ wq0, wq0 = w45.alloc (.cells #[.string th, .slice axu47 uh.length cxu47, .slice axr48 rh.length cxr48] 24) := ⟨_, rfl⟩
      have hb58 : Below w45.heap.size w45 w56 := by rw [hw57]; exact (Below.refl _ _).alloc (Nat.le_refl _) _
      have e59 : Hid (w56.heap.size = w45.heap.size + 1) := hide (by rw [hw57]; simp)
      have X60 : Hid (CB w56 w45.heap.size #[.string th, .slice axu47 uh.length cxu47, .slice axr48 rh.length cxr48]) := hide (by rw [hw57]; exact CB.new _ _ _)
      replace X5 := hide (X5.out.later hb58)
      replace X43 := hide (X43.out.later hb58)
      replace P37 := hide (P37.out.later hb58)
      replace P54 := hide (P54.out.later hb58)
      have z61 := hide hb58.size
      replace hB := hide (hB.out.trans (hb58.mono hB.out.size))
      clear hb58
      have T65 := hide (TCop.out w56 hB.out)
      go_wp2_with fail
      rw [← hw57]
      clear hw57
      refine (T65.out).mono ?_
      rintro e w62 ⟨rfl, hx64, hb63⟩
      clear T65
      have Q66 := hide hx64
      have I67 : Hid (w56.heap.size < w62.heap.size) := hide hx64.lt
      clear hx64
      replace X5 := hide (X5.out.later hb63)
      replace X43 := hide (X43.out.later hb63)
      replace X60 := hide (X60.out.later hb63)
      replace P37 := hide (P37.out.later hb63)
      replace P54 := hide (P54.out.later hb63)
      have z68 := hide hb63.size
      replace hB := hide (hB.out.trans (hb63.mono hB.out.size))
      clear hb63
      have k69 : w62.cell? ⟨w45.heap.size, 0, none⟩ = some (.string th) := X60.out.cell 0 rfl
      have k70 : w62.cell? ⟨w45.heap.size, 1, none⟩ = some (.slice axu47 uh.length cxu47) := X60.out.cell 1 rfl
      have k71 : w62.cell? ⟨w45.heap.size, 2, none⟩ = some (.slice axr48 rh.length cxr48) := X60.out.cell 2 rfl
      have H74 := hide (HI.out w62 P54.out (PR.cp Q66.out (by unfold maxLen; omega)) (HTb.out.below hB.out) (by have q0 := HTb.out.lt; have q0 := z6.out; have q1 := e4.out; have q2 := z10.out; have q3 := z14.out; have q4 := z25.out; have q5 := z32.out; have q6 := I31.out; have q7 := z38.out; have q8 := z44.out; have q9 := e42.out; have q10 := z55.out; have q11 := z61.out; have q12 := e59.out; have q13 := z68.out; have q14 := I67.out; omega))
      go_wp2_with fail
      refine (H74.out).mono ?_
      rintro e w72 ⟨xuy, xry, rfl, hx75, hb73⟩
      clear H74
      obtain ⟨axuy, cxuy, axry, cxry, rfl, rfl⟩ := hx75.shp
      have P76 := hide hx75
      clear hx75
      replace X5 := hide (X5.out.later hb73)
      replace X43 := hide (X43.out.later hb73)
      replace X60 := hide (X60.out.later hb73)
      replace P37 := hide (P37.out.later hb73)
      replace P54 := hide (P54.out.later hb73)
      replace Q66 := hide (Q66.out.later hb73)
      have z77 := hide hb73.size
      replace hB := hide (hB.out.trans (hb73.mono hB.out.size))
      clear hb73
      obtain ⟨w78, hw79⟩ : ∃ wq0, wq0 = w72.alloc (.cells #[.string R0, .slice axuy R1.length cxuy, .slice axry R2.length cxry] 24) := ⟨_, rfl⟩
      have hb80 : Below w72.heap.size w72 w78 := by rw [hw79]; exact (Below.refl _ _).alloc (Nat.le_refl _) _
      have e81 : Hid (w78.heap.size = w72.heap.size + 1) := hide (by rw [hw79]; simp)
      have X82 : Hid (CB w78 w72.heap.size #[.string R0, .slice axuy R1.length cxuy, .slice axry R2.length cxry]) := hide (by rw [hw79]; exact CB.new _ _ _)
      replace X5 := hide (X5.out.later hb80)
      replace X43 := hide (X43.out.later hb80)
      replace X60 := hide (X60.out.later hb80)
      replace P37 := hide (P37.out.later hb80)
      replace P54 := hide (P54.out.later hb80)
      replace P76 := hide (P76.out.later hb80)
      replace Q66 := hide (Q66.out.later hb80)
      have z83 := hide hb80.size
      replace hB := hide (hB.out.trans (hb80.mono hB.out.size))
      clear hb80
      clear k69 k70 k71
      have k87 : w78.cell? ⟨w72.heap.size, 0, none⟩ = some (.string R0) := X82.out.cell 0 rfl
      rw [hw79] at k87
      have k88 : w78.cell? ⟨w72.heap.size, 1, none⟩ = some (.slice axuy R1.length cxuy) := X82.out.cell 1 rfl
      rw [hw79] at k88
      have k89 : w78.cell? ⟨w72.heap.size, 2, none⟩ = some (.slice axry R2.length cxry) := X82.out.cell 2 rfl
      rw [hw79] at k89
      have k90 : w78.cell? ⟨w33.heap.size, 0, none⟩ = some (.string R0) := X43.out.cell 0 rfl
      rw [hw79] at k90
      have k91 : w78.cell? ⟨w33.heap.size, 1, none⟩ = some (.slice axux R1.length cxux) := X43.out.cell 1 rfl
      rw [hw79] at k91
      have k92 : w78.cell? ⟨w33.heap.size, 2, none⟩ = some (.slice axrx R2.length cxrx) := X43.out.cell 2 rfl
      rw [hw79] at k92
      have E86 := hide (eqX (t := R0) P76.out P37.out BQ1.out BQ2.out)
      go_wp2_with fail
      rw [← hw79]
      clear hw79
      refine (E86.out).mono ?_
      rintro e w84 ⟨rfl, hb85⟩
      clear E86 k87 k88 k89 k90 k91 k92
      replace X5 := hide (X5.out.later hb85)
      replace X43 := hide (X43.out.later hb85)
      replace X60 := hide (X60.out.later hb85)
      replace X82 := hide (X82.out.later hb85)
      replace P37 := hide (P37.out.later hb85)
      replace P54 := hide (P54.out.later hb85)
      replace P76 := hide (P76.out.later hb85)
      replace Q66 := hide (Q66.out.later hb85)
      have z93 := hide hb85.size
      replace hB := hide (hB.out.trans (hb85.mono hB.out.size))
      clear hb85
      have KC94 : Hid (∀ w', Below w84.heap.size w84 w' → w'.cell? ⟨w45.heap.size, 0, none⟩ = some (.string th) ∧ w'.cell? ⟨w45.heap.size, 1, none⟩ = some (.slice axu47 uh.length cxu47) ∧ w'.cell? ⟨w45.heap.size, 2, none⟩ = some (.slice axr48 rh.length cxr48) ∧ w'.cell? ⟨w.heap.size, 0, none⟩ = some (.string th) ∧ w'.cell? ⟨w.heap.size, 1, none⟩ = some (.slice auh uh.length cuh) ∧ w'.cell? ⟨w.heap.size, 2, none⟩ = some (.slice arh rh.length crh)) := hide (fun w' hb => ⟨(X60.out.later hb).cell 0 rfl, (X60.out.later hb).cell 1 rfl, (X60.out.later hb).cell 2 rfl, (X5.out.later hb).cell 0 rfl, (X5.out.later hb).cell 1 rfl, (X5.out.later hb).cell 2 rfl⟩)
      have CT95 := hide (fun w' (hb : Below w84.heap.size w84 w') => TCh.out w' (hB.out.trans (hb.mono hB.out.size)))
      have CX96 := hide (fun w' (hb : Below w84.heap.size w84 w') => P54.out.later hb)
      go_wp2_with fail
      go_region_held3 (fun w' => w'.cell? ⟨w45.heap.size, 0, none⟩ = some (.string th) ∧ w'.cell? ⟨w45.heap.size, 1, none⟩ = some (.slice axu47 uh.length cxu47) ∧ w'.cell? ⟨w45.heap.size, 2, none⟩ = some (.slice axr48 rh.length cxr48) ∧ w'.cell? ⟨w.heap.size, 0, none⟩ = some (.string th) ∧ w'.cell? ⟨w.heap.size, 1, none⟩ = some (.slice auh uh.length cuh) ∧ w'.cell? ⟨w.heap.size, 2, none⟩ = some (.slice arh rh.length crh))
        (first | assumption | exact KC94.out _ (Below.refl _ _) | exact KC94.out _ (Below.refl _ _).drew | exact KC94.out _ hbq2 | exact KC94.out _ hbq1)
        (first
          | (go_at_call 11; refine (eqX (t := th) (CX96.out wq1 hbq1) cpq.out BUh.out BRh.out).mono ?_; rintro e wq2 ⟨rfl, hq2⟩; have hbq2 : Below w84.heap.size w84 wq2 := hbq1.trans (hq2.mono hbq1.size); clear hq2)
          | (go_at_call 16; refine (CT95.out _ (Below.refl _ _).drew).mono ?_; rintro e wq1 ⟨xuq, xrq, rfl, cpq0, hq1⟩; obtain ⟨axuq, cxuq, axrq, cxrq, rfl, rfl⟩ := cpq0.shp; have cpq := hide cpq0; have hbq1 : Below w84.heap.size w84 wq1 := (Below.refl _ _).drew.trans hq1; clear hq1 cpq0))
      clear cpq hbq1 KC94 CT95 CX96
      replace X5 := hide (X5.out.later hbq2)
      replace X43 := hide (X43.out.later hbq2)
      replace X60 := hide (X60.out.later hbq2)
      replace X82 := hide (X82.out.later hbq2)
      replace P37 := hide (P37.out.later hbq2)
      replace P54 := hide (P54.out.later hbq2)
      replace P76 := hide (P76.out.later hbq2)
      replace Q66 := hide (Q66.out.later hbq2)
      have z97 := hide hbq2.size
      replace hB := hide (hB.out.trans (hbq2.mono hB.out.size))
      clear hbq2
      have T101 := hide (TCop.out wq2 hB.out)
      go_wp2_with fail
      refine (T101.out).mono ?_
      rintro e w98 ⟨rfl, hx100, hb99⟩
      clear T101
      have Q102 := hide hx100
      have I103 : Hid (wq2.heap.size < w98.heap.size) := hide hx100.lt
      clear hx100
      replace X5 := hide (X5.out.later hb99)
      replace X43 := hide (X43.out.later hb99)
      replace X60 := hide (X60.out.later hb99)
      replace X82 := hide (X82.out.later hb99)
      replace P37 := hide (P37.out.later hb99)
      replace P54 := hide (P54.out.later hb99)
      replace P76 := hide (P76.out.later hb99)
      replace Q66 := hide (Q66.out.later hb99)
      have z104 := hide hb99.size
      replace hB := hide (hB.out.trans (hb99.mono hB.out.size))
      clear hb99
      have E107 := hide (eqP_cp Q66.out Q102.out (by omega))
      go_wp2_with fail
      refine (E107.out).mono ?_
      rintro e w105 ⟨rfl, hb106⟩
      clear E107
      replace X5 := hide (X5.out.later hb106)
      replace X43 := hide (X43.out.later hb106)
      replace X60 := hide (X60.out.later hb106)
      replace X82 := hide (X82.out.later hb106)
      replace P37 := hide (P37.out.later hb106)
      replace P54 := hide (P54.out.later hb106)
      replace P76 := hide (P76.out.later hb106)
      replace Q66 := hide (Q66.out.later hb106)
      replace Q102 := hide (Q102.out.later hb106)
      have z108 := hide hb106.size
      replace hB := hide (hB.out.trans (hb106.mono hB.out.size))
      clear hb106
      clear Q102
      have k113 : w105.cell? ⟨w45.heap.size, 0, none⟩ = some (.string th) := X60.out.cell 0 rfl
      have k114 : w105.cell? ⟨w45.heap.size, 1, none⟩ = some (.slice axu47 uh.length cxu47) := X60.out.cell 1 rfl
      have k115 : w105.cell? ⟨w45.heap.size, 2, none⟩ = some (.slice axr48 rh.length cxr48) := X60.out.cell 2 rfl
      have M111 := hide (markX (t := th) P54.out (by have q0 := z6.out; have q1 := e4.out; have q2 := z10.out; have q3 := z14.out; have q4 := z25.out; have q5 := z32.out; have q6 := I31.out; have q7 := z38.out; have q8 := z44.out; have q9 := e42.out; have q10 := z55.out; have q11 := z61.out; have q12 := e59.out; have q13 := z68.out; have q14 := I67.out; have q15 := z77.out; have q16 := z83.out; have q17 := e81.out; have q18 := z93.out; have q19 := z97.out; have q20 := z104.out; have q21 := I103.out; have q22 := z108.out; omega) BUh.out BRh.out (1) ⟨by omega, by have := HMUh.out; omega⟩)
      obtain ⟨KK0, hKK0⟩ : ∃ KK : Nat, 1 + mkN uh + mkN rh = KK := ⟨_, rfl⟩
      rw [hKK0] at M111
      have hKb0 : 0 < KK0 ∧ KK0 ≤ 20000000 := by have := HMUh.out; omega
      clear hKK0
      go_wp2_with fail
      refine (M111.out).mono ?_
      rintro e w109 ⟨rfl, ho110, -⟩
      clear M111 k113 k114 k115
      clear P54
      replace X5 := hide (X5.out.outI ho110 (by have q0 := z6.out; have q1 := e4.out; have q2 := z10.out; have q3 := z14.out; have q4 := z25.out; have q5 := z32.out; have q6 := I31.out; have q7 := z38.out; have q8 := z44.out; have q9 := e42.out; have q10 := z55.out; have q11 := z61.out; have q12 := e59.out; have q13 := z68.out; have q14 := I67.out; have q15 := z77.out; have q16 := z83.out; have q17 := e81.out; have q18 := z93.out; have q19 := z97.out; have q20 := z104.out; have q21 := I103.out; have q22 := z108.out; omega))
      replace X43 := hide (X43.out.outI ho110 (by have q0 := z6.out; have q1 := e4.out; have q2 := z10.out; have q3 := z14.out; have q4 := z25.out; have q5 := z32.out; have q6 := I31.out; have q7 := z38.out; have q8 := z44.out; have q9 := e42.out; have q10 := z55.out; have q11 := z61.out; have q12 := e59.out; have q13 := z68.out; have q14 := I67.out; have q15 := z77.out; have q16 := z83.out; have q17 := e81.out; have q18 := z93.out; have q19 := z97.out; have q20 := z104.out; have q21 := I103.out; have q22 := z108.out; omega))
      replace X60 := hide (X60.out.outI ho110 (by have q0 := z6.out; have q1 := e4.out; have q2 := z10.out; have q3 := z14.out; have q4 := z25.out; have q5 := z32.out; have q6 := I31.out; have q7 := z38.out; have q8 := z44.out; have q9 := e42.out; have q10 := z55.out; have q11 := z61.out; have q12 := e59.out; have q13 := z68.out; have q14 := I67.out; have q15 := z77.out; have q16 := z83.out; have q17 := e81.out; have q18 := z93.out; have q19 := z97.out; have q20 := z104.out; have q21 := I103.out; have q22 := z108.out; omega))
      replace X82 := hide (X82.out.outI ho110 (by have q0 := z6.out; have q1 := e4.out; have q2 := z10.out; have q3 := z14.out; have q4 := z25.out; have q5 := z32.out; have q6 := I31.out; have q7 := z38.out; have q8 := z44.out; have q9 := e42.out; have q10 := z55.out; have q11 := z61.out; have q12 := e59.out; have q13 := z68.out; have q14 := I67.out; have q15 := z77.out; have q16 := z83.out; have q17 := e81.out; have q18 := z93.out; have q19 := z97.out; have q20 := z104.out; have q21 := I103.out; have q22 := z108.out; omega))
      replace P37 := hide (P37.out.out ho110 (by have q0 := z6.out; have q1 := e4.out; have q2 := z10.out; have q3 := z14.out; have q4 := z25.out; have q5 := z32.out; have q6 := I31.out; have q7 := z38.out; have q8 := z44.out; have q9 := e42.out; have q10 := z55.out; have q11 := z61.out; have q12 := e59.out; have q13 := z68.out; have q14 := I67.out; have q15 := z77.out; have q16 := z83.out; have q17 := e81.out; have q18 := z93.out; have q19 := z97.out; have q20 := z104.out; have q21 := I103.out; have q22 := z108.out; omega))
      replace P76 := hide (P76.out.out ho110 (by have q0 := z6.out; have q1 := e4.out; have q2 := z10.out; have q3 := z14.out; have q4 := z25.out; have q5 := z32.out; have q6 := I31.out; have q7 := z38.out; have q8 := z44.out; have q9 := e42.out; have q10 := z55.out; have q11 := z61.out; have q12 := e59.out; have q13 := z68.out; have q14 := I67.out; have q15 := z77.out; have q16 := z83.out; have q17 := e81.out; have q18 := z93.out; have q19 := z97.out; have q20 := z104.out; have q21 := I103.out; have q22 := z108.out; omega))
      replace Q66 := hide (Q66.out.outI ho110 (by have q0 := z6.out; have q1 := e4.out; have q2 := z10.out; have q3 := z14.out; have q4 := z25.out; have q5 := z32.out; have q6 := I31.out; have q7 := z38.out; have q8 := z44.out; have q9 := e42.out; have q10 := z55.out; have q11 := z61.out; have q12 := e59.out; have q13 := z68.out; have q14 := I67.out; have q15 := z77.out; have q16 := z83.out; have q17 := e81.out; have q18 := z93.out; have q19 := z97.out; have q20 := z104.out; have q21 := I103.out; have q22 := z108.out; omega))
      have z116 := hide ho110.size
      replace hB := hide (hB.out.trans (ho110.to (fun k hk => by have u0 := hk.1; have q0 := z6.out; have q1 := e4.out; have q2 := z10.out; have q3 := z14.out; have q4 := z25.out; have q5 := z32.out; have q6 := I31.out; have q7 := z38.out; have q8 := z44.out; have q9 := e42.out; have q10 := z55.out; have q11 := z61.out; have q12 := e59.out; have q13 := z68.out; have q14 := I67.out; have q15 := z77.out; have q16 := z83.out; have q17 := e81.out; have q18 := z93.out; have q19 := z97.out; have q20 := z104.out; have q21 := I103.out; have q22 := z108.out; omega) hB.out.size))
      clear ho110
      have M119 := hide (markP_from Q66.out (by omega) (KK0) ⟨by omega, by omega⟩)
      obtain ⟨KK1, hKK1⟩ : ∃ KK : Nat, KK0 + op.length * 3 = KK := ⟨_, rfl⟩
      rw [hKK1] at M119
      have hKb1 : 0 < KK1 ∧ KK1 ≤ 40000000 := by have := HMUh.out; omega
      clear hKK1
      have ek0 : decide ((KK1 : Int) < 0) = false := by rw [decide_eq_false_iff_not]; omega
      go_wp2_with fail
      refine (M119.out).mono ?_
      rintro e w117 ⟨rfl, hg121⟩
      clear M119
      clear Q66
      have ho118 : Out (Iv w56.heap.size (w56.heap.size + 1)) w109 w117 := Out.grown hg121 (fun y e => by have u0 := Option.some.inj e; exact ⟨by omega, by omega⟩)
      clear hg121
      replace X5 := hide (X5.out.outI ho118 (by have q0 := z6.out; have q1 := e4.out; have q2 := z10.out; have q3 := z14.out; have q4 := z25.out; have q5 := z32.out; have q6 := I31.out; have q7 := z38.out; have q8 := z44.out; have q9 := e42.out; have q10 := z55.out; have q11 := z61.out; have q12 := e59.out; have q13 := z68.out; have q14 := I67.out; have q15 := z77.out; have q16 := z83.out; have q17 := e81.out; have q18 := z93.out; have q19 := z97.out; have q20 := z104.out; have q21 := I103.out; have q22 := z108.out; have q23 := z116.out; omega))
      replace X43 := hide (X43.out.outI ho118 (by have q0 := z6.out; have q1 := e4.out; have q2 := z10.out; have q3 := z14.out; have q4 := z25.out; have q5 := z32.out; have q6 := I31.out; have q7 := z38.out; have q8 := z44.out; have q9 := e42.out; have q10 := z55.out; have q11 := z61.out; have q12 := e59.out; have q13 := z68.out; have q14 := I67.out; have q15 := z77.out; have q16 := z83.out; have q17 := e81.out; have q18 := z93.out; have q19 := z97.out; have q20 := z104.out; have q21 := I103.out; have q22 := z108.out; have q23 := z116.out; omega))
      replace X60 := hide (X60.out.outI ho118 (by have q0 := z6.out; have q1 := e4.out; have q2 := z10.out; have q3 := z14.out; have q4 := z25.out; have q5 := z32.out; have q6 := I31.out; have q7 := z38.out; have q8 := z44.out; have q9 := e42.out; have q10 := z55.out; have q11 := z61.out; have q12 := e59.out; have q13 := z68.out; have q14 := I67.out; have q15 := z77.out; have q16 := z83.out; have q17 := e81.out; have q18 := z93.out; have q19 := z97.out; have q20 := z104.out; have q21 := I103.out; have q22 := z108.out; have q23 := z116.out; omega))
      replace X82 := hide (X82.out.outI ho118 (by have q0 := z6.out; have q1 := e4.out; have q2 := z10.out; have q3 := z14.out; have q4 := z25.out; have q5 := z32.out; have q6 := I31.out; have q7 := z38.out; have q8 := z44.out; have q9 := e42.out; have q10 := z55.out; have q11 := z61.out; have q12 := e59.out; have q13 := z68.out; have q14 := I67.out; have q15 := z77.out; have q16 := z83.out; have q17 := e81.out; have q18 := z93.out; have q19 := z97.out; have q20 := z104.out; have q21 := I103.out; have q22 := z108.out; have q23 := z116.out; omega))
      replace P37 := hide (P37.out.out ho118 (by have q0 := z6.out; have q1 := e4.out; have q2 := z10.out; have q3 := z14.out; have q4 := z25.out; have q5 := z32.out; have q6 := I31.out; have q7 := z38.out; have q8 := z44.out; have q9 := e42.out; have q10 := z55.out; have q11 := z61.out; have q12 := e59.out; have q13 := z68.out; have q14 := I67.out; have q15 := z77.out; have q16 := z83.out; have q17 := e81.out; have q18 := z93.out; have q19 := z97.out; have q20 := z104.out; have q21 := I103.out; have q22 := z108.out; have q23 := z116.out; omega))
      replace P76 := hide (P76.out.out ho118 (by have q0 := z6.out; have q1 := e4.out; have q2 := z10.out; have q3 := z14.out; have q4 := z25.out; have q5 := z32.out; have q6 := I31.out; have q7 := z38.out; have q8 := z44.out; have q9 := e42.out; have q10 := z55.out; have q11 := z61.out; have q12 := e59.out; have q13 := z68.out; have q14 := I67.out; have q15 := z77.out; have q16 := z83.out; have q17 := e81.out; have q18 := z93.out; have q19 := z97.out; have q20 := z104.out; have q21 := I103.out; have q22 := z108.out; have q23 := z116.out; omega))
      have z122 := hide ho118.size
      replace hB := hide (hB.out.trans (ho118.to (fun k hk => by have u0 := hk.1; have q0 := z6.out; have q1 := e4.out; have q2 := z10.out; have q3 := z14.out; have q4 := z25.out; have q5 := z32.out; have q6 := I31.out; have q7 := z38.out; have q8 := z44.out; have q9 := e42.out; have q10 := z55.out; have q11 := z61.out; have q12 := e59.out; have q13 := z68.out; have q14 := I67.out; have q15 := z77.out; have q16 := z83.out; have q17 := e81.out; have q18 := z93.out; have q19 := z97.out; have q20 := z104.out; have q21 := I103.out; have q22 := z108.out; have q23 := z116.out; omega) hB.out.size))
      clear ho118
      have k126 : w117.cell? ⟨w72.heap.size, 0, none⟩ = some (.string R0) := X82.out.cell 0 rfl
      have k127 : w117.cell? ⟨w72.heap.size, 1, none⟩ = some (.slice axuy R1.length cxuy) := X82.out.cell 1 rfl
      have k128 : w117.cell? ⟨w72.heap.size, 2, none⟩ = some (.slice axry R2.length cxry) := X82.out.cell 2 rfl
      have k129 : w117.cell? ⟨w33.heap.size, 0, none⟩ = some (.string R0) := X43.out.cell 0 rfl
      have k130 : w117.cell? ⟨w33.heap.size, 1, none⟩ = some (.slice axux R1.length cxux) := X43.out.cell 1 rfl
      have k131 : w117.cell? ⟨w33.heap.size, 2, none⟩ = some (.slice axrx R2.length cxrx) := X43.out.cell 2 rfl
      have E125 := hide (eqX (t := R0) P76.out P37.out BQ1.out BQ2.out)
      go_wp2_with fail
      refine (E125.out).mono ?_
      rintro e w123 ⟨rfl, hb124⟩
      clear E125 k126 k127 k128 k129 k130 k131
      replace X5 := hide (X5.out.later hb124)
      replace X43 := hide (X43.out.later hb124)
      replace X60 := hide (X60.out.later hb124)
      replace X82 := hide (X82.out.later hb124)
      replace P37 := hide (P37.out.later hb124)
      replace P76 := hide (P76.out.later hb124)
      have z132 := hide hb124.size
      replace hB := hide (hB.out.trans (hb124.mono hB.out.size))
      clear hb124
      have k137 : w123.cell? ⟨w72.heap.size, 0, none⟩ = some (.string R0) := X82.out.cell 0 rfl
      have k138 : w123.cell? ⟨w72.heap.size, 1, none⟩ = some (.slice axuy R1.length cxuy) := X82.out.cell 1 rfl
      have k139 : w123.cell? ⟨w72.heap.size, 2, none⟩ = some (.slice axry R2.length cxry) := X82.out.cell 2 rfl
      have M135 := hide (markX (t := R0) P76.out (by have q0 := z6.out; have q1 := e4.out; have q2 := z10.out; have q3 := z14.out; have q4 := z25.out; have q5 := z32.out; have q6 := I31.out; have q7 := z38.out; have q8 := z44.out; have q9 := e42.out; have q10 := z55.out; have q11 := z61.out; have q12 := e59.out; have q13 := z68.out; have q14 := I67.out; have q15 := z77.out; have q16 := z83.out; have q17 := e81.out; have q18 := z93.out; have q19 := z97.out; have q20 := z104.out; have q21 := I103.out; have q22 := z108.out; have q23 := z116.out; have q24 := z122.out; have q25 := z132.out; omega) BQ1.out BQ2.out 1 ⟨by omega, by omega⟩)
      have em0 : decide (((1 + mkN R1 + mkN R2 : Nat) : Int) < 0) = false := by rw [decide_eq_false_iff_not]; omega
      obtain ⟨KM, hKM⟩ : ∃ KM : Int, ((1 + mkN R1 + mkN R2 : Nat) : Int) = KM := ⟨_, rfl⟩
      rw [hKM] at em0 M135
      have HKM := hide hKM
      clear hKM
      have em1 : (KM != KM) = false := by simp
      go_wp2_with fail
      refine (M135.out).mono ?_
      rintro e w133 ⟨rfl, ho134, mk136⟩
      clear M135 k137 k138 k139
      clear P76
      replace X5 := hide (X5.out.outI ho134 (by have q0 := z6.out; have q1 := e4.out; have q2 := z10.out; have q3 := z14.out; have q4 := z25.out; have q5 := z32.out; have q6 := I31.out; have q7 := z38.out; have q8 := z44.out; have q9 := e42.out; have q10 := z55.out; have q11 := z61.out; have q12 := e59.out; have q13 := z68.out; have q14 := I67.out; have q15 := z77.out; have q16 := z83.out; have q17 := e81.out; have q18 := z93.out; have q19 := z97.out; have q20 := z104.out; have q21 := I103.out; have q22 := z108.out; have q23 := z116.out; have q24 := z122.out; have q25 := z132.out; omega))
      replace X43 := hide (X43.out.outI ho134 (by have q0 := z6.out; have q1 := e4.out; have q2 := z10.out; have q3 := z14.out; have q4 := z25.out; have q5 := z32.out; have q6 := I31.out; have q7 := z38.out; have q8 := z44.out; have q9 := e42.out; have q10 := z55.out; have q11 := z61.out; have q12 := e59.out; have q13 := z68.out; have q14 := I67.out; have q15 := z77.out; have q16 := z83.out; have q17 := e81.out; have q18 := z93.out; have q19 := z97.out; have q20 := z104.out; have q21 := I103.out; have q22 := z108.out; have q23 := z116.out; have q24 := z122.out; have q25 := z132.out; omega))
      replace X60 := hide (X60.out.outI ho134 (by have q0 := z6.out; have q1 := e4.out; have q2 := z10.out; have q3 := z14.out; have q4 := z25.out; have q5 := z32.out; have q6 := I31.out; have q7 := z38.out; have q8 := z44.out; have q9 := e42.out; have q10 := z55.out; have q11 := z61.out; have q12 := e59.out; have q13 := z68.out; have q14 := I67.out; have q15 := z77.out; have q16 := z83.out; have q17 := e81.out; have q18 := z93.out; have q19 := z97.out; have q20 := z104.out; have q21 := I103.out; have q22 := z108.out; have q23 := z116.out; have q24 := z122.out; have q25 := z132.out; omega))
      replace X82 := hide (X82.out.outI ho134 (by have q0 := z6.out; have q1 := e4.out; have q2 := z10.out; have q3 := z14.out; have q4 := z25.out; have q5 := z32.out; have q6 := I31.out; have q7 := z38.out; have q8 := z44.out; have q9 := e42.out; have q10 := z55.out; have q11 := z61.out; have q12 := e59.out; have q13 := z68.out; have q14 := I67.out; have q15 := z77.out; have q16 := z83.out; have q17 := e81.out; have q18 := z93.out; have q19 := z97.out; have q20 := z104.out; have q21 := I103.out; have q22 := z108.out; have q23 := z116.out; have q24 := z122.out; have q25 := z132.out; omega))
      replace P37 := hide (P37.out.out ho134 (by have q0 := z6.out; have q1 := e4.out; have q2 := z10.out; have q3 := z14.out; have q4 := z25.out; have q5 := z32.out; have q6 := I31.out; have q7 := z38.out; have q8 := z44.out; have q9 := e42.out; have q10 := z55.out; have q11 := z61.out; have q12 := e59.out; have q13 := z68.out; have q14 := I67.out; have q15 := z77.out; have q16 := z83.out; have q17 := e81.out; have q18 := z93.out; have q19 := z97.out; have q20 := z104.out; have q21 := I103.out; have q22 := z108.out; have q23 := z116.out; have q24 := z122.out; have q25 := z132.out; omega))
      have z140 := hide ho134.size
      replace hB := hide (hB.out.trans (ho134.to (fun k hk => by have u0 := hk.1; have q0 := z6.out; have q1 := e4.out; have q2 := z10.out; have q3 := z14.out; have q4 := z25.out; have q5 := z32.out; have q6 := I31.out; have q7 := z38.out; have q8 := z44.out; have q9 := e42.out; have q10 := z55.out; have q11 := z61.out; have q12 := e59.out; have q13 := z68.out; have q14 := I67.out; have q15 := z77.out; have q16 := z83.out; have q17 := e81.out; have q18 := z93.out; have q19 := z97.out; have q20 := z104.out; have q21 := I103.out; have q22 := z108.out; have q23 := z116.out; have q24 := z122.out; have q25 := z132.out; omega) hB.out.size))
      clear ho134
      have Y141 := hide mk136
      clear mk136
      have k145 : w133.cell? ⟨w72.heap.size, 0, none⟩ = some (.string R0) := X82.out.cell 0 rfl
      have k146 : w133.cell? ⟨w72.heap.size, 1, none⟩ = some (.slice axuy R1.length cxuy) := X82.out.cell 1 rfl
      have k147 : w133.cell? ⟨w72.heap.size, 2, none⟩ = some (.slice axry R2.length cxry) := X82.out.cell 2 rfl
      have D144 := hide (heldX (t := R0) Y141.out BQ1.out BQ2.out ⟨by omega, by omega⟩)
      rw [HKM.out] at D144
      go_wp2_with fail
      refine (D144.out).mono ?_
      rintro e w142 ⟨rfl, hb143⟩
      clear D144 k145 k146 k147
      replace X5 := hide (X5.out.later hb143)
      replace X43 := hide (X43.out.later hb143)
      replace X60 := hide (X60.out.later hb143)
      replace X82 := hide (X82.out.later hb143)
      replace P37 := hide (P37.out.later hb143)
      replace Y141 := hide (Y141.out.later hb143)
      have z148 := hide hb143.size
      replace hB := hide (hB.out.trans (hb143.mono hB.out.size))
      clear hb143
      have T154 := hide (TCh.out w142 hB.out)
      have k155 : w142.cell? ⟨w.heap.size, 0, none⟩ = some (.string th) := X5.out.cell 0 rfl
      have k156 : w142.cell? ⟨w.heap.size, 1, none⟩ = some (.slice auh uh.length cuh) := X5.out.cell 1 rfl
      have k157 : w142.cell? ⟨w.heap.size, 2, none⟩ = some (.slice arh rh.length crh) := X5.out.cell 2 rfl
      go_wp2_with fail
      refine (T154.out).mono ?_
      rintro e w149 ⟨xu151, xr152, rfl, hx153, hb150⟩
      clear T154 k155 k156 k157
      obtain ⟨axu151, cxu151, axr152, cxr152, rfl, rfl⟩ := hx153.shp
      have P158 := hide hx153
      clear hx153
      replace X5 := hide (X5.out.later hb150)
      replace X43 := hide (X43.out.later hb150)
      replace X60 := hide (X60.out.later hb150)
      replace X82 := hide (X82.out.later hb150)
      replace P37 := hide (P37.out.later hb150)
      replace Y141 := hide (Y141.out.later hb150)
      have z159 := hide hb150.size
      replace hB := hide (hB.out.trans (hb150.mono hB.out.size))
      clear hb150
      have T163 := hide (TCop.out w149 hB.out)
      go_wp2_with fail
      refine (T163.out).mono ?_
      rintro e w160 ⟨rfl, hx162, hb161⟩
      clear T163
      have Q164 := hide hx162
      have I165 : Hid (w149.heap.size < w160.heap.size) := hide hx162.lt
      clear hx162
      replace X5 := hide (X5.out.later hb161)
      replace X43 := hide (X43.out.later hb161)
      replace X60 := hide (X60.out.later hb161)
      replace X82 := hide (X82.out.later hb161)
      replace P37 := hide (P37.out.later hb161)
      replace P158 := hide (P158.out.later hb161)
      replace Y141 := hide (Y141.out.later hb161)
      have z166 := hide hb161.size
      replace hB := hide (hB.out.trans (hb161.mono hB.out.size))
      clear hb161
      have H169 := hide (HI.out w160 P158.out (PR.cp Q164.out (by unfold maxLen; omega)) (HTb.out.below hB.out) (by have q0 := HTb.out.lt; have q0 := z6.out; have q1 := e4.out; have q2 := z10.out; have q3 := z14.out; have q4 := z25.out; have q5 := z32.out; have q6 := I31.out; have q7 := z38.out; have q8 := z44.out; have q9 := e42.out; have q10 := z55.out; have q11 := z61.out; have q12 := e59.out; have q13 := z68.out; have q14 := I67.out; have q15 := z77.out; have q16 := z83.out; have q17 := e81.out; have q18 := z93.out; have q19 := z97.out; have q20 := z104.out; have q21 := I103.out; have q22 := z108.out; have q23 := z116.out; have q24 := z122.out; have q25 := z132.out; have q26 := z140.out; have q27 := z148.out; have q28 := z159.out; have q29 := z166.out; have q30 := I165.out; omega))
      go_wp2_with fail
      refine (H169.out).mono ?_
      rintro e w167 ⟨xuz, xrz, rfl, hx170, hb168⟩
      clear H169
      obtain ⟨axuz, cxuz, axrz, cxrz, rfl, rfl⟩ := hx170.shp
      have P171 := hide hx170
      clear hx170
      replace X5 := hide (X5.out.later hb168)
      replace X43 := hide (X43.out.later hb168)
      replace X60 := hide (X60.out.later hb168)
      replace X82 := hide (X82.out.later hb168)
      replace P37 := hide (P37.out.later hb168)
      replace P158 := hide (P158.out.later hb168)
      replace Y141 := hide (Y141.out.later hb168)
      replace Q164 := hide (Q164.out.later hb168)
      have z172 := hide hb168.size
      replace hB := hide (hB.out.trans (hb168.mono hB.out.size))
      clear hb168
      obtain ⟨w173, hw174⟩ : ∃ wq0, wq0 = w167.alloc (.cells #[.string R0, .slice axuz R1.length cxuz, .slice axrz R2.length cxrz] 24) := ⟨_, rfl⟩
      have hb175 : Below w167.heap.size w167 w173 := by rw [hw174]; exact (Below.refl _ _).alloc (Nat.le_refl _) _
      have e176 : Hid (w173.heap.size = w167.heap.size + 1) := hide (by rw [hw174]; simp)
      have X177 : Hid (CB w173 w167.heap.size #[.string R0, .slice axuz R1.length cxuz, .slice axrz R2.length cxrz]) := hide (by rw [hw174]; exact CB.new _ _ _)
      replace X5 := hide (X5.out.later hb175)
      replace X43 := hide (X43.out.later hb175)
      replace X60 := hide (X60.out.later hb175)
      replace X82 := hide (X82.out.later hb175)
      replace P37 := hide (P37.out.later hb175)
      replace P158 := hide (P158.out.later hb175)
      replace P171 := hide (P171.out.later hb175)
      replace Y141 := hide (Y141.out.later hb175)
      replace Q164 := hide (Q164.out.later hb175)
      have z178 := hide hb175.size
      replace hB := hide (hB.out.trans (hb175.mono hB.out.size))
      clear hb175
      have k182 : w173.cell? ⟨w167.heap.size, 0, none⟩ = some (.string R0) := X177.out.cell 0 rfl
      rw [hw174] at k182
      have k183 : w173.cell? ⟨w167.heap.size, 1, none⟩ = some (.slice axuz R1.length cxuz) := X177.out.cell 1 rfl
      rw [hw174] at k183
      have k184 : w173.cell? ⟨w167.heap.size, 2, none⟩ = some (.slice axrz R2.length cxrz) := X177.out.cell 2 rfl
      rw [hw174] at k184
      have k185 : w173.cell? ⟨w33.heap.size, 0, none⟩ = some (.string R0) := X43.out.cell 0 rfl
      rw [hw174] at k185
      have k186 : w173.cell? ⟨w33.heap.size, 1, none⟩ = some (.slice axux R1.length cxux) := X43.out.cell 1 rfl
      rw [hw174] at k186
      have k187 : w173.cell? ⟨w33.heap.size, 2, none⟩ = some (.slice axrx R2.length cxrx) := X43.out.cell 2 rfl
      rw [hw174] at k187
      have E181 := hide (eqX (t := R0) P171.out P37.out BQ1.out BQ2.out)
      go_wp2_with fail
      rw [← hw174]
      clear hw174
      refine (E181.out).mono ?_
      rintro e w179 ⟨rfl, hb180⟩
      clear E181 k182 k183 k184 k185 k186 k187
      replace X5 := hide (X5.out.later hb180)
      replace X43 := hide (X43.out.later hb180)
      replace X60 := hide (X60.out.later hb180)
      replace X82 := hide (X82.out.later hb180)
      replace X177 := hide (X177.out.later hb180)
      replace P37 := hide (P37.out.later hb180)
      replace P158 := hide (P158.out.later hb180)
      replace P171 := hide (P171.out.later hb180)
      replace Y141 := hide (Y141.out.later hb180)
      replace Q164 := hide (Q164.out.later hb180)
      have z188 := hide hb180.size
      replace hB := hide (hB.out.trans (hb180.mono hB.out.size))
      clear hb180
      have k192 : w179.cell? ⟨w72.heap.size, 0, none⟩ = some (.string R0) := X82.out.cell 0 rfl
      have k193 : w179.cell? ⟨w72.heap.size, 1, none⟩ = some (.slice axuy R1.length cxuy) := X82.out.cell 1 rfl
      have k194 : w179.cell? ⟨w72.heap.size, 2, none⟩ = some (.slice axry R2.length cxry) := X82.out.cell 2 rfl
      have D191 := hide (heldX (t := R0) Y141.out BQ1.out BQ2.out ⟨by omega, by omega⟩)
      rw [HKM.out] at D191
      go_wp2_with fail
      refine (D191.out).mono ?_
      rintro e w189 ⟨rfl, hb190⟩
      clear D191 k192 k193 k194
      replace X5 := hide (X5.out.later hb190)
      replace X43 := hide (X43.out.later hb190)
      replace X60 := hide (X60.out.later hb190)
      replace X82 := hide (X82.out.later hb190)
      replace X177 := hide (X177.out.later hb190)
      replace P37 := hide (P37.out.later hb190)
      replace P158 := hide (P158.out.later hb190)
      replace P171 := hide (P171.out.later hb190)
      replace Y141 := hide (Y141.out.later hb190)
      replace Q164 := hide (Q164.out.later hb190)
      have z195 := hide hb190.size
      replace hB := hide (hB.out.trans (hb190.mono hB.out.size))
      clear hb190
      go_wp2
      go_ret
      exact ⟨rfl, hB.out⟩
    · skip
      have Zh := hide (fun w' (hb : Below w.heap.size w w') => szH_from (hauh.later hb) (harh.later hb) htth hsuh hsrh (1048576) (by omega))
      simp only [if_pos fsh] at Zh
      have Zop := hide (fun w' (hb : Below w.heap.size w w') => szP_from (haop.later hb) hsop (argP_len haop) (1048576 - szHn th uh rh) (by omega))
      simp only [if_neg fsop] at Zop
      obtain ⟨Kh, hKh⟩ : ∃ K : Nat, 1048576 - szHn th uh rh = K := ⟨_, rfl⟩
      rw [hKh] at Zh Zop
      have eh : decide ((Kh : Int) < 0) = false := by rw [decide_eq_false_iff_not]; omega
      clear hKh
      have HB0 : Hid (Below w.heap.size w (w.alloc (.cells #[.string th, .slice auh uh.length cuh, .slice arh rh.length crh] 32))) := hide ((Below.refl _ _).alloc (Nat.le_refl _) _)
      clear hauh harh htth hsuh hsrh haop hsop fsop fsh
      go_enter Tryd.func5, Tryd.ntmps5
      go_wp2_with fail
      refine (Zh.out _ HB0.out).mono ?_
      rintro e zh ⟨rfl, hzh⟩
      have HZh : Hid (Below w.heap.size w zh) := hide (HB0.out.trans (hzh.mono HB0.out.size))
      clear hzh
      go_wp2_with fail
      refine (Zop.out _ HZh.out).mono ?_
      rintro e zop ⟨rfl, hzop⟩
      have HZop : Hid (Below w.heap.size w zop) := hide (HZh.out.trans (hzop.mono HZh.out.size))
      clear hzop
      go_wp2
      go_ret
      exact ⟨rfl, HZop.out⟩
  · skip
    have Zh := hide (fun w' (hb : Below w.heap.size w w') => szH_from (hauh.later hb) (harh.later hb) htth hsuh hsrh (1048576) (by omega))
    simp only [if_neg fsh] at Zh
    have HB0 : Hid (Below w.heap.size w (w.alloc (.cells #[.string th, .slice auh uh.length cuh, .slice arh rh.length crh] 32))) := hide ((Below.refl _ _).alloc (Nat.le_refl _) _)
    clear hauh harh htth hsuh hsrh haop hsop fsh
    go_enter Tryd.func5, Tryd.ntmps5
    go_wp2_with fail
    refine (Zh.out _ HB0.out).mono ?_
    rintro e zh ⟨rfl, hzh⟩
    have HZh : Hid (Below w.heap.size w zh) := hide (HB0.out.trans (hzh.mono HB0.out.size))
    clear hzh
    go_wp2
    go_ret
    exact ⟨rfl, HZh.out⟩
end Go.Proofs.YtpeconmdmddkfaaDoor
