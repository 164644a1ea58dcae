/- The law of EditRope: whatever the rope and the parts, it answers true and turns nothing old. -/
import Derived.Test.YtpeconmdmddkfaaDoorEdrM
import Derived.Test.YtpeconmdmddkfaaDoorRpM
import Derived.Test.YtpeconmdmddkfaaDoorMkPz
import Derived.Deep.RegionHeld3
set_option linter.unusedVariables false
namespace Go.Proofs.YtpeconmdmddkfaaDoor
open Go.RowKit
open Doc1

def ErThin (l : List Pt) : Prop := ∀ i (hi : i < l.length), l[i].put.size ≤ 9223372036854775807 ∧ l[i].drop.size ≤ 9223372036854775807
theorem er_shp {w : World} {v : Value} {l : List Pt} (h : ArgP w v l) : ∃ a cap, v = .slice a l.length cap := by
  cases h with
  | nil a cap => exact ⟨a, cap, rfl⟩
  | row b off cap p h1 h2 h3 h4 h5 => exact ⟨_, cap, rfl⟩
theorem er_len (l : List Pt) : l.length ≤ szPn l := by unfold szPn; omega
theorem er_pin {w : World} {g : Nat} {l : List Pt} (h : PCp w g l) (hf : szPn l ≤ 1048576) : Pin w (some ⟨g, 0, none⟩) g l.length l := by
  unfold szPn at hf
  refine ⟨⟨Nat.le_refl _, by unfold maxLen; omega⟩, fun i hi => ?_, by omega, h.at', h.lt, fun _ => rfl⟩
  have h1 := szPU_succ l i hi
  have h2 := szPU_mono l (i + 1) l.length hi
  omega
theorem PCp.grown {w w1 : World} {g : Nat} {l : List Pt} {r : Option Nat} (h : PCp w g l) (hg : w.grownBy w1 r) (hne : r ≠ some g) : PCp w1 g l := by
  have e := hg.block g h.lt (fun c => hne c.symm)
  exact ⟨fun j u hu => (World.cell?_of_block e).trans (h.at' j u hu), ⟨fun j hj => by rw [World.cell?_of_block e]; exact h.blk.ex j hj, fun j => by rw [World.frozen?_of_block e]; exact h.blk.fz j⟩, Nat.lt_of_lt_of_le h.lt hg.size⟩
theorem edL_len (l : List Bg) (op : List Pt) : (edL l op).length ≤ 1000000 := by
  unfold edL
  split
  · exact okB_len _
  · simp

set_option maxRecDepth 100000 in
set_option maxHeartbeats 8000000 in
theorem law_editRope (vl : Value) (l : List Bg) (vop : Value) (op : List Pt) (w : World) (hal : ArgBo w vl l) (hrl : ∀ i (hi : i < l.length), l[i].text.size ≤ 9223372036854775807) (haop : ArgP w vop op) (hsop : ErThin op) (hT : Tab w) :
    Calls Tryd.prog 7 #[.agg #[vl], vop] w fun e w' => e = .returned (.bool true) ∧ Below w.heap.size w w' := by
  obtain ⟨al, cl, ml, rfl⟩ := arg_shape hal
  obtain ⟨aop, cop, rfl⟩ := er_shp haop
  by_cases fsl : szBon l ≤ 1048576
  · skip
    by_cases fsop : szPn op ≤ 1048576 - szBon l
    · skip
      have hlop : op.length ≤ 1048576 := by have q0 := er_len op; omega
      have hpfop : szPn op ≤ 1048576 := by omega
      have HPFop := hide hpfop
      clear hpfop
      have SZop := hide (fun w' (hb : Below w.heap.size w w') => szP_from (haop.later hb) hsop (argP_len haop) (1048576 - szBon l) (by omega))
      simp only [if_pos fsop] at SZop
      have TCop := hide (fun w' (hb : Below w.heap.size w w') => toP_cp (haop.later hb) (by omega))
      clear haop hsop
      have hll : l.length ≤ 1048576 := by have q0 := fsl; unfold szBon at q0; omega
      have htl : ∀ i (hi : i < l.length), l[i].text.size ≤ 1048576 := fun i hi => Nat.le_trans (szBon_txt l i hi) (by omega)
      have HAl := hide hal
      have SZl := hide (fun w' (h : ArgBo w' (.slice al ml cl) l) => szRope_from h hrl (1048576) (by omega))
      rw [if_pos fsl] at SZl
      have TCl := hide (fun w' (h : ArgBo w' (.slice al ml cl) l) => toRope_cp h (by omega))
      obtain ⟨Kl, hKl⟩ : ∃ K : Nat, 1048576 - szBon l = K := ⟨_, rfl⟩
      rw [hKl] at SZl SZop fsop
      have e0l : decide ((Kl : Int) < 0) = false := by rw [decide_eq_false_iff_not]; omega
      obtain ⟨Kop, hKop⟩ : ∃ K : Nat, Kl - szPn op = K := ⟨_, rfl⟩
      rw [hKop] at SZop
      have e0op : decide ((Kop : Int) < 0) = false := by rw [decide_eq_false_iff_not]; omega
      clear hKop fsop
      have HTXl := hide htl
      clear hal hrl htl hKl fsl
      have HTb := hide hT
      have hB := hide (Below.refl w.heap.size w)
      clear hT
      have HS := hide (fun w' {g : Option Addr} {c : Nat} (h : RIn w' g c l) {ao : Option Addr} {go co : Nat} (hp : Pin w' ao go co op) => editS h hp)
      have HI := hide (fun w' {g : Option Addr} {c : Nat} (h : RIn w' g c l) {ao : Option Addr} {go co : Nat} (hp : Pin w' ao go co op) hT => editI h hp hT)
      obtain ⟨R0, hR0⟩ : ∃ R, edL l op = R := ⟨_, rfl⟩
      obtain ⟨R1, hR1⟩ : ∃ R, edB l op = R := ⟨_, rfl⟩
      simp only [hR0, hR1] at HS HI
      have hlr0 : R0.length ≤ 1000000 := by rw [← hR0]; exact edL_len _ _
      clear hR0 hR1
      go_enter Tryd.func7, Tryd.ntmps7
      obtain ⟨w1, hw2⟩ : ∃ wq0, wq0 = w.alloc (.cells #[.slice al ml cl] 58) := ⟨_, rfl⟩
      have hb3 : Below w.heap.size w w1 := by rw [hw2]; exact (Below.refl _ _).alloc (Nat.le_refl _) _
      have e4 : Hid (w1.heap.size = w.heap.size + 1) := hide (by rw [hw2]; simp)
      have X5 : Hid (CellT 58 w1 w.heap.size (.slice al ml cl)) := hide (by rw [hw2]; exact CellT.new _ _ _)
      have z6 := hide hb3.size
      replace hB := hide (hB.out.trans (hb3.mono hB.out.size))
      clear hb3
      have SZ9 := hide (SZl.out w1 (HAl.out.later hB.out))
      go_wp2_with fail
      rw [← hw2]
      clear hw2
      refine (SZ9.out).mono ?_
      rintro e w7 ⟨rfl, hb8⟩
      clear SZ9
      replace X5 := hide (X5.out.later hb8)
      have z10 := hide hb8.size
      replace hB := hide (hB.out.trans (hb8.mono hB.out.size))
      clear hb8
      have SZ13 := hide (SZop.out w7 hB.out)
      go_wp2_with fail
      refine (SZ13.out).mono ?_
      rintro e w11 ⟨rfl, hb12⟩
      clear SZ13
      replace X5 := hide (X5.out.later hb12)
      have z14 := hide hb12.size
      replace hB := hide (hB.out.trans (hb12.mono hB.out.size))
      clear hb12
      have T20 := hide (TCl.out w11 (HAl.out.later hB.out))
      have k21 := X5.out.cell
      go_wp2_with fail
      refine (T20.out).mono ?_
      rintro e w15 ⟨g17, rfl, hg18, C19, hb16⟩
      clear T20 k21
      have I22 : Hid (w11.heap.size ≤ g17 ∧ g17 < w15.heap.size) := hide ⟨hg18, C19.lt⟩
      have P23 := hide C19
      clear C19 hg18
      replace X5 := hide (X5.out.later hb16)
      have z24 := hide hb16.size
      replace hB := hide (hB.out.trans (hb16.mono hB.out.size))
      clear hb16
      have T28 := hide (TCop.out w15 hB.out)
      go_wp2_with fail
      refine (T28.out).mono ?_
      rintro e w25 ⟨rfl, hx27, hb26⟩
      clear T28
      have Q29 := hide hx27
      have I30 : Hid (w15.heap.size ≤ w15.heap.size ∧ w15.heap.size < w25.heap.size) := hide ⟨Nat.le_refl _, hx27.lt⟩
      clear hx27
      replace X5 := hide (X5.out.later hb26)
      replace P23 := hide (P23.out.later hb26)
      have z31 := hide hb26.size
      replace hB := hide (hB.out.trans (hb26.mono hB.out.size))
      clear hb26
      have H34 := hide (HS.out w25 ⟨P23.out.inn (by omega), hll, HTXl.out⟩ (er_pin Q29.out HPFop.out))
      go_wp2_with fail
      refine (H34.out).mono ?_
      rintro e w32 ⟨x0, rfl, ox0, hb33⟩
      clear H34
      obtain ⟨ax0, cx0, rfl, -⟩ := own_shp ox0
      have Lx0 : Hid (∀ y, (Value.slice ax0 R0.length cx0).ownBlock = some y → w25.heap.size ≤ y ∧ y < w32.heap.size) := hide (fun y hy => World.ownsRow.lt ox0 y hy)
      have Ox0 := hide ox0
      clear ox0
      replace X5 := hide (X5.out.later hb33)
      replace P23 := hide (P23.out.later hb33)
      replace Q29 := hide (Q29.out.later hb33)
      have z35 := hide hb33.size
      replace hB := hide (hB.out.trans (hb33.mono hB.out.size))
      clear hb33
      obtain ⟨w36, hw37⟩ : ∃ wq0, wq0 = w32.alloc (.cells #[.slice ax0 R0.length cx0] 62) := ⟨_, rfl⟩
      have hb38 : Below w32.heap.size w32 w36 := by rw [hw37]; exact (Below.refl _ _).alloc (Nat.le_refl _) _
      have e39 : Hid (w36.heap.size = w32.heap.size + 1) := hide (by rw [hw37]; simp)
      have X40 : Hid (CellT 62 w36 w32.heap.size (.slice ax0 R0.length cx0)) := hide (by rw [hw37]; exact CellT.new _ _ _)
      replace X5 := hide (X5.out.later hb38)
      replace P23 := hide (P23.out.later hb38)
      replace Q29 := hide (Q29.out.later hb38)
      replace Ox0 := hide (own_below Ox0.out hb38)
      have z41 := hide hb38.size
      replace hB := hide (hB.out.trans (hb38.mono hB.out.size))
      clear hb38
      clear P23
      clear Q29
      have T47 := hide (TCl.out w36 (HAl.out.later hB.out))
      have k48 := X5.out.cell
      rw [hw37] at k48
      go_wp2_with fail
      rw [← hw37]
      clear hw37
      refine (T47.out).mono ?_
      rintro e w42 ⟨g44, rfl, hg45, C46, hb43⟩
      clear T47 k48
      have I49 : Hid (w36.heap.size ≤ g44 ∧ g44 < w42.heap.size) := hide ⟨hg45, C46.lt⟩
      have P50 := hide C46
      clear C46 hg45
      replace X5 := hide (X5.out.later hb43)
      replace X40 := hide (X40.out.later hb43)
      replace Ox0 := hide (own_below Ox0.out hb43)
      have z51 := hide hb43.size
      replace hB := hide (hB.out.trans (hb43.mono hB.out.size))
      clear hb43
      obtain ⟨w52, hw53⟩ : ∃ wq0, wq0 = w42.alloc (.cells #[.slice (some ⟨g44, 0, none⟩) l.length l.length] 62) := ⟨_, rfl⟩
      have hb54 : Below w42.heap.size w42 w52 := by rw [hw53]; exact (Below.refl _ _).alloc (Nat.le_refl _) _
      have e55 : Hid (w52.heap.size = w42.heap.size + 1) := hide (by rw [hw53]; simp)
      have X56 : Hid (CellT 62 w52 w42.heap.size (.slice (some ⟨g44, 0, none⟩) l.length l.length)) := hide (by rw [hw53]; exact CellT.new _ _ _)
      replace X5 := hide (X5.out.later hb54)
      replace X40 := hide (X40.out.later hb54)
      replace P50 := hide (P50.out.later hb54)
      replace Ox0 := hide (own_below Ox0.out hb54)
      have z57 := hide hb54.size
      replace hB := hide (hB.out.trans (hb54.mono hB.out.size))
      clear hb54
      have T61 := hide (TCop.out w52 hB.out)
      go_wp2_with fail
      rw [← hw53]
      clear hw53
      refine (T61.out).mono ?_
      rintro e w58 ⟨rfl, hx60, hb59⟩
      clear T61
      have Q62 := hide hx60
      have I63 : Hid (w52.heap.size ≤ w52.heap.size ∧ w52.heap.size < w58.heap.size) := hide ⟨Nat.le_refl _, hx60.lt⟩
      clear hx60
      replace X5 := hide (X5.out.later hb59)
      replace X40 := hide (X40.out.later hb59)
      replace X56 := hide (X56.out.later hb59)
      replace P50 := hide (P50.out.later hb59)
      replace Ox0 := hide (own_below Ox0.out hb59)
      have z64 := hide hb59.size
      replace hB := hide (hB.out.trans (hb59.mono hB.out.size))
      clear hb59
      have k65 := X56.out.cell
      have H68 := hide (HI.out w58 ⟨P50.out.inn (by omega), hll, HTXl.out⟩ (er_pin Q62.out HPFop.out) (HTb.out.below hB.out))
      go_wp2_with fail
      refine (H68.out).mono ?_
      rintro e w66 ⟨y0, rfl, oy0, hb67⟩
      clear H68
      obtain ⟨ay0, cy0, rfl, -⟩ := own_shp oy0
      have Ly0 : Hid (∀ y, (Value.slice ay0 R0.length cy0).ownBlock = some y → w58.heap.size ≤ y ∧ y < w66.heap.size) := hide (fun y hy => World.ownsRow.lt oy0 y hy)
      have Oy0 := hide oy0
      clear oy0
      replace X5 := hide (X5.out.later hb67)
      replace X40 := hide (X40.out.later hb67)
      replace X56 := hide (X56.out.later hb67)
      replace P50 := hide (P50.out.later hb67)
      replace Q62 := hide (Q62.out.later hb67)
      replace Ox0 := hide (own_below Ox0.out hb67)
      have z69 := hide hb67.size
      replace hB := hide (hB.out.trans (hb67.mono hB.out.size))
      clear hb67
      obtain ⟨w70, hw71⟩ : ∃ wq0, wq0 = w66.alloc (.cells #[.slice ay0 R0.length cy0] 62) := ⟨_, rfl⟩
      have hb72 : Below w66.heap.size w66 w70 := by rw [hw71]; exact (Below.refl _ _).alloc (Nat.le_refl _) _
      have e73 : Hid (w70.heap.size = w66.heap.size + 1) := hide (by rw [hw71]; simp)
      have X74 : Hid (CellT 62 w70 w66.heap.size (.slice ay0 R0.length cy0)) := hide (by rw [hw71]; exact CellT.new _ _ _)
      replace X5 := hide (X5.out.later hb72)
      replace X40 := hide (X40.out.later hb72)
      replace X56 := hide (X56.out.later hb72)
      replace P50 := hide (P50.out.later hb72)
      replace Q62 := hide (Q62.out.later hb72)
      replace Ox0 := hide (own_below Ox0.out hb72)
      replace Oy0 := hide (own_below Oy0.out hb72)
      have z75 := hide hb72.size
      replace hB := hide (hB.out.trans (hb72.mono hB.out.size))
      clear hb72
      clear k65
      have k79 := X74.out.cell
      rw [hw71] at k79
      have k80 := X40.out.cell
      rw [hw71] at k80
      have E78 := hide (eqRope_own Oy0.out Ox0.out (by omega))
      go_wp2_with fail
      rw [← hw71]
      clear hw71
      refine (E78.out).mono ?_
      rintro e w76 ⟨rfl, hb77⟩
      clear E78 k79 k80
      replace X5 := hide (X5.out.later hb77)
      replace X40 := hide (X40.out.later hb77)
      replace X56 := hide (X56.out.later hb77)
      replace X74 := hide (X74.out.later hb77)
      replace P50 := hide (P50.out.later hb77)
      replace Q62 := hide (Q62.out.later hb77)
      replace Ox0 := hide (own_below Ox0.out hb77)
      replace Oy0 := hide (own_below Oy0.out hb77)
      have z81 := hide hb77.size
      replace hB := hide (hB.out.trans (hb77.mono hB.out.size))
      clear hb77
      have KC82 : Hid (∀ w', Below w76.heap.size w76 w' → w'.cell? ⟨w42.heap.size, 0, none⟩ = some (.slice (some ⟨g44, 0, none⟩) l.length l.length) ∧ w'.cell? ⟨w.heap.size, 0, none⟩ = some (.slice al ml cl)) := hide (fun w' hb => ⟨(X56.out.later hb).cell, (X5.out.later hb).cell⟩)
      have CT83 := hide (fun w' (hb : Below w76.heap.size w76 w') => TCl.out w' (HAl.out.later (hB.out.trans (hb.mono hB.out.size))))
      have CX84 := hide (fun w' (hb : Below w76.heap.size w76 w') => P50.out.later hb)
      go_wp2_with fail
      go_region_held3 (fun w' => w'.cell? ⟨w42.heap.size, 0, none⟩ = some (.slice (some ⟨g44, 0, none⟩) l.length l.length) ∧ w'.cell? ⟨w.heap.size, 0, none⟩ = some (.slice al ml cl))
        (first | assumption | exact KC82.out _ (Below.refl _ _) | exact KC82.out _ (Below.refl _ _).drew | exact KC82.out _ hbq2 | exact KC82.out _ hbq1)
        (first
          | (go_at_call 36; refine (eqRope_cp (CX84.out wq1 hbq1) cpq.out (by omega)).mono ?_; rintro e wq2 ⟨rfl, hq2⟩; have hbq2 : Below w76.heap.size w76 wq2 := hbq1.trans (hq2.mono hbq1.size); clear hq2)
          | (go_at_call 34; refine (CT83.out _ (Below.refl _ _).drew).mono ?_; rintro e wq1 ⟨gq, rfl, hgq, cpq0, hq1⟩; have cpq := hide cpq0; have hbq1 : Below w76.heap.size w76 wq1 := (Below.refl _ _).drew.trans hq1; clear hq1 cpq0))
      clear cpq hbq1 KC82 CT83 CX84 hgq
      replace X5 := hide (X5.out.later hbq2)
      replace X40 := hide (X40.out.later hbq2)
      replace X56 := hide (X56.out.later hbq2)
      replace X74 := hide (X74.out.later hbq2)
      replace P50 := hide (P50.out.later hbq2)
      replace Q62 := hide (Q62.out.later hbq2)
      replace Ox0 := hide (own_below Ox0.out hbq2)
      replace Oy0 := hide (own_below Oy0.out hbq2)
      have z85 := hide hbq2.size
      replace hB := hide (hB.out.trans (hbq2.mono hB.out.size))
      clear hbq2
      have T89 := hide (TCop.out wq2 hB.out)
      go_wp2_with fail
      refine (T89.out).mono ?_
      rintro e w86 ⟨rfl, hx88, hb87⟩
      clear T89
      have Q90 := hide hx88
      have I91 : Hid (wq2.heap.size ≤ wq2.heap.size ∧ wq2.heap.size < w86.heap.size) := hide ⟨Nat.le_refl _, hx88.lt⟩
      clear hx88
      replace X5 := hide (X5.out.later hb87)
      replace X40 := hide (X40.out.later hb87)
      replace X56 := hide (X56.out.later hb87)
      replace X74 := hide (X74.out.later hb87)
      replace P50 := hide (P50.out.later hb87)
      replace Q62 := hide (Q62.out.later hb87)
      replace Ox0 := hide (own_below Ox0.out hb87)
      replace Oy0 := hide (own_below Oy0.out hb87)
      have z92 := hide hb87.size
      replace hB := hide (hB.out.trans (hb87.mono hB.out.size))
      clear hb87
      have E95 := hide (eqP_cp Q62.out Q90.out (by omega))
      go_wp2_with fail
      refine (E95.out).mono ?_
      rintro e w93 ⟨rfl, hb94⟩
      clear E95
      replace X5 := hide (X5.out.later hb94)
      replace X40 := hide (X40.out.later hb94)
      replace X56 := hide (X56.out.later hb94)
      replace X74 := hide (X74.out.later hb94)
      replace P50 := hide (P50.out.later hb94)
      replace Q62 := hide (Q62.out.later hb94)
      replace Q90 := hide (Q90.out.later hb94)
      replace Ox0 := hide (own_below Ox0.out hb94)
      replace Oy0 := hide (own_below Oy0.out hb94)
      have z96 := hide hb94.size
      replace hB := hide (hB.out.trans (hb94.mono hB.out.size))
      clear hb94
      clear Q90
      have k100 := X56.out.cell
      have M99 := hide (markRope_cp P50.out (by omega))
      obtain ⟨KK0, hKK0⟩ : ∃ KK : Nat, 1 + l.length * 5 = KK := ⟨_, rfl⟩
      rw [hKK0] at M99
      have hKb0 : 0 < KK0 ∧ KK0 ≤ 20000000 := by omega
      clear hKK0
      go_wp2_with fail
      refine (M99.out).mono ?_
      rintro e w97 ⟨rfl, hg98⟩
      clear M99 k100
      clear P50
      replace X5 := hide (X5.out.grown hg98 (fun e => by have u0 := Option.some.inj e; have ui := I49.out; have q0 := z6.out; have q1 := e4.out; have q2 := z10.out; have q3 := z14.out; have q4 := z24.out; have q5 := z31.out; have q6 := z35.out; have q7 := z41.out; have q8 := e39.out; have q9 := z51.out; have q10 := z57.out; have q11 := e55.out; have q12 := z64.out; have q13 := z69.out; have q14 := z75.out; have q15 := e73.out; have q16 := z81.out; have q17 := z85.out; have q18 := z92.out; have q19 := z96.out; omega))
      replace X40 := hide (X40.out.grown hg98 (fun e => by have u0 := Option.some.inj e; have ui := I49.out; have q0 := z6.out; have q1 := e4.out; have q2 := z10.out; have q3 := z14.out; have q4 := z24.out; have q5 := z31.out; have q6 := z35.out; have q7 := z41.out; have q8 := e39.out; have q9 := z51.out; have q10 := z57.out; have q11 := e55.out; have q12 := z64.out; have q13 := z69.out; have q14 := z75.out; have q15 := e73.out; have q16 := z81.out; have q17 := z85.out; have q18 := z92.out; have q19 := z96.out; omega))
      replace X56 := hide (X56.out.grown hg98 (fun e => by have u0 := Option.some.inj e; have ui := I49.out; have q0 := z6.out; have q1 := e4.out; have q2 := z10.out; have q3 := z14.out; have q4 := z24.out; have q5 := z31.out; have q6 := z35.out; have q7 := z41.out; have q8 := e39.out; have q9 := z51.out; have q10 := z57.out; have q11 := e55.out; have q12 := z64.out; have q13 := z69.out; have q14 := z75.out; have q15 := e73.out; have q16 := z81.out; have q17 := z85.out; have q18 := z92.out; have q19 := z96.out; omega))
      replace X74 := hide (X74.out.grown hg98 (fun e => by have u0 := Option.some.inj e; have ui := I49.out; have q0 := z6.out; have q1 := e4.out; have q2 := z10.out; have q3 := z14.out; have q4 := z24.out; have q5 := z31.out; have q6 := z35.out; have q7 := z41.out; have q8 := e39.out; have q9 := z51.out; have q10 := z57.out; have q11 := e55.out; have q12 := z64.out; have q13 := z69.out; have q14 := z75.out; have q15 := e73.out; have q16 := z81.out; have q17 := z85.out; have q18 := z92.out; have q19 := z96.out; omega))
      replace Q62 := hide (Q62.out.grown hg98 (fun e => by have u0 := Option.some.inj e; have ui := I49.out; have u1 := I63.out; have q0 := z6.out; have q1 := e4.out; have q2 := z10.out; have q3 := z14.out; have q4 := z24.out; have q5 := z31.out; have q6 := z35.out; have q7 := z41.out; have q8 := e39.out; have q9 := z51.out; have q10 := z57.out; have q11 := e55.out; have q12 := z64.out; have q13 := z69.out; have q14 := z75.out; have q15 := e73.out; have q16 := z81.out; have q17 := z85.out; have q18 := z92.out; have q19 := z96.out; omega))
      replace Ox0 := hide (own_grown Ox0.out hg98 (fun y hy e => by have u0 := Option.some.inj e; have ui := I49.out; have u2 := Lx0.out y hy; have q0 := z6.out; have q1 := e4.out; have q2 := z10.out; have q3 := z14.out; have q4 := z24.out; have q5 := z31.out; have q6 := z35.out; have q7 := z41.out; have q8 := e39.out; have q9 := z51.out; have q10 := z57.out; have q11 := e55.out; have q12 := z64.out; have q13 := z69.out; have q14 := z75.out; have q15 := e73.out; have q16 := z81.out; have q17 := z85.out; have q18 := z92.out; have q19 := z96.out; omega))
      replace Oy0 := hide (own_grown Oy0.out hg98 (fun y hy e => by have u0 := Option.some.inj e; have ui := I49.out; have u2 := Ly0.out y hy; have q0 := z6.out; have q1 := e4.out; have q2 := z10.out; have q3 := z14.out; have q4 := z24.out; have q5 := z31.out; have q6 := z35.out; have q7 := z41.out; have q8 := e39.out; have q9 := z51.out; have q10 := z57.out; have q11 := e55.out; have q12 := z64.out; have q13 := z69.out; have q14 := z75.out; have q15 := e73.out; have q16 := z81.out; have q17 := z85.out; have q18 := z92.out; have q19 := z96.out; omega))
      have z101 := hide hg98.size
      replace hB := hide (hB.out.grown hg98 hB.out.size (fun y e => by have u0 := Option.some.inj e; have ui := I49.out; have q0 := z6.out; have q1 := e4.out; have q2 := z10.out; have q3 := z14.out; have q4 := z24.out; have q5 := z31.out; have q6 := z35.out; have q7 := z41.out; have q8 := e39.out; have q9 := z51.out; have q10 := z57.out; have q11 := e55.out; have q12 := z64.out; have q13 := z69.out; have q14 := z75.out; have q15 := e73.out; have q16 := z81.out; have q17 := z85.out; have q18 := z92.out; have q19 := z96.out; omega))
      clear hg98
      have M104 := hide (markP_from Q62.out (by omega) (KK0) (by omega))
      have ek0 : decide (((KK0 + op.length * 3 : Nat) : Int) < 0) = false := by rw [decide_eq_false_iff_not]; omega
      obtain ⟨KK1, hKK1⟩ : ∃ KK : Nat, KK0 + op.length * 3 = KK := ⟨_, rfl⟩
      rw [hKK1] at M104 ek0
      have hKb1 : 0 < KK1 ∧ KK1 ≤ 40000000 := by omega
      clear hKK1
      go_wp2_with fail
      refine (M104.out).mono ?_
      rintro e w102 ⟨rfl, hg103⟩
      clear M104
      clear Q62
      replace X5 := hide (X5.out.grown hg103 (fun e => by have u0 := Option.some.inj e; have ui := I63.out; have q0 := z6.out; have q1 := e4.out; have q2 := z10.out; have q3 := z14.out; have q4 := z24.out; have q5 := z31.out; have q6 := z35.out; have q7 := z41.out; have q8 := e39.out; have q9 := z51.out; have q10 := z57.out; have q11 := e55.out; have q12 := z64.out; have q13 := z69.out; have q14 := z75.out; have q15 := e73.out; have q16 := z81.out; have q17 := z85.out; have q18 := z92.out; have q19 := z96.out; have q20 := z101.out; omega))
      replace X40 := hide (X40.out.grown hg103 (fun e => by have u0 := Option.some.inj e; have ui := I63.out; have q0 := z6.out; have q1 := e4.out; have q2 := z10.out; have q3 := z14.out; have q4 := z24.out; have q5 := z31.out; have q6 := z35.out; have q7 := z41.out; have q8 := e39.out; have q9 := z51.out; have q10 := z57.out; have q11 := e55.out; have q12 := z64.out; have q13 := z69.out; have q14 := z75.out; have q15 := e73.out; have q16 := z81.out; have q17 := z85.out; have q18 := z92.out; have q19 := z96.out; have q20 := z101.out; omega))
      replace X56 := hide (X56.out.grown hg103 (fun e => by have u0 := Option.some.inj e; have ui := I63.out; have q0 := z6.out; have q1 := e4.out; have q2 := z10.out; have q3 := z14.out; have q4 := z24.out; have q5 := z31.out; have q6 := z35.out; have q7 := z41.out; have q8 := e39.out; have q9 := z51.out; have q10 := z57.out; have q11 := e55.out; have q12 := z64.out; have q13 := z69.out; have q14 := z75.out; have q15 := e73.out; have q16 := z81.out; have q17 := z85.out; have q18 := z92.out; have q19 := z96.out; have q20 := z101.out; omega))
      replace X74 := hide (X74.out.grown hg103 (fun e => by have u0 := Option.some.inj e; have ui := I63.out; have q0 := z6.out; have q1 := e4.out; have q2 := z10.out; have q3 := z14.out; have q4 := z24.out; have q5 := z31.out; have q6 := z35.out; have q7 := z41.out; have q8 := e39.out; have q9 := z51.out; have q10 := z57.out; have q11 := e55.out; have q12 := z64.out; have q13 := z69.out; have q14 := z75.out; have q15 := e73.out; have q16 := z81.out; have q17 := z85.out; have q18 := z92.out; have q19 := z96.out; have q20 := z101.out; omega))
      replace Ox0 := hide (own_grown Ox0.out hg103 (fun y hy e => by have u0 := Option.some.inj e; have ui := I63.out; have u2 := Lx0.out y hy; have q0 := z6.out; have q1 := e4.out; have q2 := z10.out; have q3 := z14.out; have q4 := z24.out; have q5 := z31.out; have q6 := z35.out; have q7 := z41.out; have q8 := e39.out; have q9 := z51.out; have q10 := z57.out; have q11 := e55.out; have q12 := z64.out; have q13 := z69.out; have q14 := z75.out; have q15 := e73.out; have q16 := z81.out; have q17 := z85.out; have q18 := z92.out; have q19 := z96.out; have q20 := z101.out; omega))
      replace Oy0 := hide (own_grown Oy0.out hg103 (fun y hy e => by have u0 := Option.some.inj e; have ui := I63.out; have u2 := Ly0.out y hy; have q0 := z6.out; have q1 := e4.out; have q2 := z10.out; have q3 := z14.out; have q4 := z24.out; have q5 := z31.out; have q6 := z35.out; have q7 := z41.out; have q8 := e39.out; have q9 := z51.out; have q10 := z57.out; have q11 := e55.out; have q12 := z64.out; have q13 := z69.out; have q14 := z75.out; have q15 := e73.out; have q16 := z81.out; have q17 := z85.out; have q18 := z92.out; have q19 := z96.out; have q20 := z101.out; omega))
      have z105 := hide hg103.size
      replace hB := hide (hB.out.grown hg103 hB.out.size (fun y e => by have u0 := Option.some.inj e; have ui := I63.out; have q0 := z6.out; have q1 := e4.out; have q2 := z10.out; have q3 := z14.out; have q4 := z24.out; have q5 := z31.out; have q6 := z35.out; have q7 := z41.out; have q8 := e39.out; have q9 := z51.out; have q10 := z57.out; have q11 := e55.out; have q12 := z64.out; have q13 := z69.out; have q14 := z75.out; have q15 := e73.out; have q16 := z81.out; have q17 := z85.out; have q18 := z92.out; have q19 := z96.out; have q20 := z101.out; omega))
      clear hg103
      have k109 := X74.out.cell
      have k110 := X40.out.cell
      have E108 := hide (eqRope_own Oy0.out Ox0.out (by omega))
      go_wp2_with fail
      refine (E108.out).mono ?_
      rintro e w106 ⟨rfl, hb107⟩
      clear E108 k109 k110
      replace X5 := hide (X5.out.later hb107)
      replace X40 := hide (X40.out.later hb107)
      replace X56 := hide (X56.out.later hb107)
      replace X74 := hide (X74.out.later hb107)
      replace Ox0 := hide (own_below Ox0.out hb107)
      replace Oy0 := hide (own_below Oy0.out hb107)
      have z111 := hide hb107.size
      replace hB := hide (hB.out.trans (hb107.mono hB.out.size))
      clear hb107
      have k116 := X74.out.cell
      have M114 := hide (markRope_own Oy0.out (by omega))
      have em0 : decide (((1 + R0.length * 5 : Nat) : Int) < 0) = false := by rw [decide_eq_false_iff_not]; omega
      obtain ⟨KM, hKM⟩ : ∃ KM : Int, ((1 + R0.length * 5 : Nat) : Int) = KM := ⟨_, rfl⟩
      rw [hKM] at em0 M114
      have HKM := hide hKM
      clear hKM
      have em1 : (KM != KM) = false := by simp
      go_wp2_with fail
      refine (M114.out).mono ?_
      rintro e w112 ⟨rfl, hg113, mk115⟩
      clear M114 k116
      clear Oy0
      replace X5 := hide (X5.out.grown hg113 (fun e => by have u0 := Ly0.out _ e; have q0 := z6.out; have q1 := e4.out; have q2 := z10.out; have q3 := z14.out; have q4 := z24.out; have q5 := z31.out; have q6 := z35.out; have q7 := z41.out; have q8 := e39.out; have q9 := z51.out; have q10 := z57.out; have q11 := e55.out; have q12 := z64.out; have q13 := z69.out; have q14 := z75.out; have q15 := e73.out; have q16 := z81.out; have q17 := z85.out; have q18 := z92.out; have q19 := z96.out; have q20 := z101.out; have q21 := z105.out; have q22 := z111.out; omega))
      replace X40 := hide (X40.out.grown hg113 (fun e => by have u0 := Ly0.out _ e; have q0 := z6.out; have q1 := e4.out; have q2 := z10.out; have q3 := z14.out; have q4 := z24.out; have q5 := z31.out; have q6 := z35.out; have q7 := z41.out; have q8 := e39.out; have q9 := z51.out; have q10 := z57.out; have q11 := e55.out; have q12 := z64.out; have q13 := z69.out; have q14 := z75.out; have q15 := e73.out; have q16 := z81.out; have q17 := z85.out; have q18 := z92.out; have q19 := z96.out; have q20 := z101.out; have q21 := z105.out; have q22 := z111.out; omega))
      replace X56 := hide (X56.out.grown hg113 (fun e => by have u0 := Ly0.out _ e; have q0 := z6.out; have q1 := e4.out; have q2 := z10.out; have q3 := z14.out; have q4 := z24.out; have q5 := z31.out; have q6 := z35.out; have q7 := z41.out; have q8 := e39.out; have q9 := z51.out; have q10 := z57.out; have q11 := e55.out; have q12 := z64.out; have q13 := z69.out; have q14 := z75.out; have q15 := e73.out; have q16 := z81.out; have q17 := z85.out; have q18 := z92.out; have q19 := z96.out; have q20 := z101.out; have q21 := z105.out; have q22 := z111.out; omega))
      replace X74 := hide (X74.out.grown hg113 (fun e => by have u0 := Ly0.out _ e; have q0 := z6.out; have q1 := e4.out; have q2 := z10.out; have q3 := z14.out; have q4 := z24.out; have q5 := z31.out; have q6 := z35.out; have q7 := z41.out; have q8 := e39.out; have q9 := z51.out; have q10 := z57.out; have q11 := e55.out; have q12 := z64.out; have q13 := z69.out; have q14 := z75.out; have q15 := e73.out; have q16 := z81.out; have q17 := z85.out; have q18 := z92.out; have q19 := z96.out; have q20 := z101.out; have q21 := z105.out; have q22 := z111.out; omega))
      replace Ox0 := hide (own_grown Ox0.out hg113 (fun y hy e => by have u0 := Ly0.out _ e; have u2 := Lx0.out y hy; have q0 := z6.out; have q1 := e4.out; have q2 := z10.out; have q3 := z14.out; have q4 := z24.out; have q5 := z31.out; have q6 := z35.out; have q7 := z41.out; have q8 := e39.out; have q9 := z51.out; have q10 := z57.out; have q11 := e55.out; have q12 := z64.out; have q13 := z69.out; have q14 := z75.out; have q15 := e73.out; have q16 := z81.out; have q17 := z85.out; have q18 := z92.out; have q19 := z96.out; have q20 := z101.out; have q21 := z105.out; have q22 := z111.out; omega))
      have z117 := hide hg113.size
      replace hB := hide (hB.out.grown hg113 hB.out.size (fun y e => by have u0 := Ly0.out _ e; have q0 := z6.out; have q1 := e4.out; have q2 := z10.out; have q3 := z14.out; have q4 := z24.out; have q5 := z31.out; have q6 := z35.out; have q7 := z41.out; have q8 := e39.out; have q9 := z51.out; have q10 := z57.out; have q11 := e55.out; have q12 := z64.out; have q13 := z69.out; have q14 := z75.out; have q15 := e73.out; have q16 := z81.out; have q17 := z85.out; have q18 := z92.out; have q19 := z96.out; have q20 := z101.out; have q21 := z105.out; have q22 := z111.out; omega))
      clear hg113
      have Y118 := hide mk115
      clear mk115
      have k122 := X74.out.cell
      have D121 := hide (heldRope_of Y118.out (by omega))
      rw [HKM.out] at D121
      go_wp2_with fail
      refine (D121.out).mono ?_
      rintro e w119 ⟨rfl, hb120⟩
      clear D121 k122
      replace X5 := hide (X5.out.later hb120)
      replace X40 := hide (X40.out.later hb120)
      replace X56 := hide (X56.out.later hb120)
      replace X74 := hide (X74.out.later hb120)
      replace Y118 := hide (Y118.out.later hb120)
      replace Ox0 := hide (own_below Ox0.out hb120)
      have z123 := hide hb120.size
      replace hB := hide (hB.out.trans (hb120.mono hB.out.size))
      clear hb120
      have T129 := hide (TCl.out w119 (HAl.out.later hB.out))
      have k130 := X5.out.cell
      go_wp2_with fail
      refine (T129.out).mono ?_
      rintro e w124 ⟨g126, rfl, hg127, C128, hb125⟩
      clear T129 k130
      have I131 : Hid (w119.heap.size ≤ g126 ∧ g126 < w124.heap.size) := hide ⟨hg127, C128.lt⟩
      have P132 := hide C128
      clear C128 hg127
      replace X5 := hide (X5.out.later hb125)
      replace X40 := hide (X40.out.later hb125)
      replace X56 := hide (X56.out.later hb125)
      replace X74 := hide (X74.out.later hb125)
      replace Y118 := hide (Y118.out.later hb125)
      replace Ox0 := hide (own_below Ox0.out hb125)
      have z133 := hide hb125.size
      replace hB := hide (hB.out.trans (hb125.mono hB.out.size))
      clear hb125
      have T137 := hide (TCop.out w124 hB.out)
      go_wp2_with fail
      refine (T137.out).mono ?_
      rintro e w134 ⟨rfl, hx136, hb135⟩
      clear T137
      have Q138 := hide hx136
      have I139 : Hid (w124.heap.size ≤ w124.heap.size ∧ w124.heap.size < w134.heap.size) := hide ⟨Nat.le_refl _, hx136.lt⟩
      clear hx136
      replace X5 := hide (X5.out.later hb135)
      replace X40 := hide (X40.out.later hb135)
      replace X56 := hide (X56.out.later hb135)
      replace X74 := hide (X74.out.later hb135)
      replace P132 := hide (P132.out.later hb135)
      replace Y118 := hide (Y118.out.later hb135)
      replace Ox0 := hide (own_below Ox0.out hb135)
      have z140 := hide hb135.size
      replace hB := hide (hB.out.trans (hb135.mono hB.out.size))
      clear hb135
      have H143 := hide (HI.out w134 ⟨P132.out.inn (by omega), hll, HTXl.out⟩ (er_pin Q138.out HPFop.out) (HTb.out.below hB.out))
      go_wp2_with fail
      refine (H143.out).mono ?_
      rintro e w141 ⟨z0, rfl, oz0, hb142⟩
      clear H143
      obtain ⟨az0, cz0, rfl, -⟩ := own_shp oz0
      have Lz0 : Hid (∀ y, (Value.slice az0 R0.length cz0).ownBlock = some y → w134.heap.size ≤ y ∧ y < w141.heap.size) := hide (fun y hy => World.ownsRow.lt oz0 y hy)
      have Oz0 := hide oz0
      clear oz0
      replace X5 := hide (X5.out.later hb142)
      replace X40 := hide (X40.out.later hb142)
      replace X56 := hide (X56.out.later hb142)
      replace X74 := hide (X74.out.later hb142)
      replace P132 := hide (P132.out.later hb142)
      replace Q138 := hide (Q138.out.later hb142)
      replace Y118 := hide (Y118.out.later hb142)
      replace Ox0 := hide (own_below Ox0.out hb142)
      have z144 := hide hb142.size
      replace hB := hide (hB.out.trans (hb142.mono hB.out.size))
      clear hb142
      obtain ⟨w145, hw146⟩ : ∃ wq0, wq0 = w141.alloc (.cells #[.slice az0 R0.length cz0] 62) := ⟨_, rfl⟩
      have hb147 : Below w141.heap.size w141 w145 := by rw [hw146]; exact (Below.refl _ _).alloc (Nat.le_refl _) _
      have e148 : Hid (w145.heap.size = w141.heap.size + 1) := hide (by rw [hw146]; simp)
      have X149 : Hid (CellT 62 w145 w141.heap.size (.slice az0 R0.length cz0)) := hide (by rw [hw146]; exact CellT.new _ _ _)
      replace X5 := hide (X5.out.later hb147)
      replace X40 := hide (X40.out.later hb147)
      replace X56 := hide (X56.out.later hb147)
      replace X74 := hide (X74.out.later hb147)
      replace P132 := hide (P132.out.later hb147)
      replace Q138 := hide (Q138.out.later hb147)
      replace Y118 := hide (Y118.out.later hb147)
      replace Ox0 := hide (own_below Ox0.out hb147)
      replace Oz0 := hide (own_below Oz0.out hb147)
      have z150 := hide hb147.size
      replace hB := hide (hB.out.trans (hb147.mono hB.out.size))
      clear hb147
      have k154 := X149.out.cell
      rw [hw146] at k154
      have k155 := X40.out.cell
      rw [hw146] at k155
      have E153 := hide (eqRope_own Oz0.out Ox0.out (by omega))
      go_wp2_with fail
      rw [← hw146]
      clear hw146
      refine (E153.out).mono ?_
      rintro e w151 ⟨rfl, hb152⟩
      clear E153 k154 k155
      replace X5 := hide (X5.out.later hb152)
      replace X40 := hide (X40.out.later hb152)
      replace X56 := hide (X56.out.later hb152)
      replace X74 := hide (X74.out.later hb152)
      replace X149 := hide (X149.out.later hb152)
      replace P132 := hide (P132.out.later hb152)
      replace Q138 := hide (Q138.out.later hb152)
      replace Y118 := hide (Y118.out.later hb152)
      replace Ox0 := hide (own_below Ox0.out hb152)
      replace Oz0 := hide (own_below Oz0.out hb152)
      have z156 := hide hb152.size
      replace hB := hide (hB.out.trans (hb152.mono hB.out.size))
      clear hb152
      have k160 := X74.out.cell
      have D159 := hide (heldRope_of Y118.out (by omega))
      rw [HKM.out] at D159
      go_wp2_with fail
      refine (D159.out).mono ?_
      rintro e w157 ⟨rfl, hb158⟩
      clear D159 k160
      replace X5 := hide (X5.out.later hb158)
      replace X40 := hide (X40.out.later hb158)
      replace X56 := hide (X56.out.later hb158)
      replace X74 := hide (X74.out.later hb158)
      replace X149 := hide (X149.out.later hb158)
      replace P132 := hide (P132.out.later hb158)
      replace Q138 := hide (Q138.out.later hb158)
      replace Y118 := hide (Y118.out.later hb158)
      replace Ox0 := hide (own_below Ox0.out hb158)
      replace Oz0 := hide (own_below Oz0.out hb158)
      have z161 := hide hb158.size
      replace hB := hide (hB.out.trans (hb158.mono hB.out.size))
      clear hb158
      go_wp2
      go_ret
      exact ⟨rfl, hB.out⟩
    · skip
      have Zl := hide (fun w' (hb : Below w.heap.size w w') => szRope_from (hal.later hb) hrl 1048576 (by omega))
      rw [if_pos fsl] at Zl
      have Zop := hide (fun w' (hb : Below w.heap.size w w') => szP_from (haop.later hb) hsop (argP_len haop) (1048576 - szBon l) (by omega))
      simp only [if_neg fsop] at Zop
      obtain ⟨Kl, hKl⟩ : ∃ K : Nat, 1048576 - szBon l = K := ⟨_, rfl⟩
      rw [hKl] at Zl Zop
      have el : decide ((Kl : Int) < 0) = false := by rw [decide_eq_false_iff_not]; omega
      have HB0 : Hid (Below w.heap.size w (w.alloc (.cells #[.slice al ml cl] 58))) := hide ((Below.refl _ _).alloc (Nat.le_refl _) _)
      clear hal hrl haop hsop fsop fsl hKl
      go_enter Tryd.func7, Tryd.ntmps7
      go_wp2_with fail
      refine (Zl.out _ HB0.out).mono ?_
      rintro e zl ⟨rfl, hzl⟩
      have HZl : Hid (Below w.heap.size w zl) := hide (HB0.out.trans (hzl.mono HB0.out.size))
      clear hzl
      go_wp2_with fail
      refine (Zop.out _ HZl.out).mono ?_
      rintro e zop ⟨rfl, hzop⟩
      have HZop : Hid (Below w.heap.size w zop) := hide (HZl.out.trans (hzop.mono HZl.out.size))
      clear hzop
      go_wp2
      go_ret
      exact ⟨rfl, HZop.out⟩
  · have hbz0 : Below w.heap.size w w := Below.refl _ _
    have hbbl : Below w.heap.size w (w.alloc (.cells #[.slice al ml cl] 58)) := hbz0.alloc (Nat.le_refl _) _
    have HB0 := hide hbbl
    have Zl := hide (fun w' (hb : Below w.heap.size w w') => szRope_from (hal.later hb) hrl (1048576) (by omega))
    rw [if_neg fsl] at Zl
    clear hbz0 hbbl hal hrl fsl haop hsop
    go_enter Tryd.func7, Tryd.ntmps7
    go_wp2_with fail
    refine (Zl.out _ HB0.out).mono ?_
    rintro e zl ⟨rfl, hzl⟩
    have HZl : Hid (Below w.heap.size w zl) := hide (HB0.out.trans (hzl.mono HB0.out.size))
    clear hzl
    go_wp2
    go_ret
    exact ⟨rfl, HZl.out⟩
end Go.Proofs.YtpeconmdmddkfaaDoor
