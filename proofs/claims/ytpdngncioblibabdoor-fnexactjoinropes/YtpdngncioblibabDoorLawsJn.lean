/- The walks of the exact laws of chapter 12. -/
import Derived.Test.YtpdngncioblibabDoorLawRpA
import Derived.Test.YtpdngncioblibabDoorRpt8
import Derived.Test.YtpdngncioblibabDoorMkBo
import Derived.Test.YtpdngncioblibabDoorJnW
set_option linter.unusedVariables false
namespace Go.Proofs.YtpdngncioblibabDoor
open Go.RowKit
open Doc1

set_option maxRecDepth 100000 in
set_option maxHeartbeats 8000000 in
theorem law_joinRopes (vl : Value) (l : List Bg) (vm : Value) (m : List Bg) (w : World) (hal : ArgBo w vl l) (hrl : ∀ i (hi : i < l.length), l[i].text.size ≤ 9223372036854775807) (ham : ArgBo w vm m) (hrm : ∀ i (hi : i < m.length), m[i].text.size ≤ 9223372036854775807) (hT : Tab w) :
    Calls Tryd.prog 4 #[.agg #[vl], .agg #[vm]] w fun e w' => e = .returned (.bool true) ∧ Below w.heap.size w w' := by
  obtain ⟨al, cl, ml, rfl⟩ := arg_shape hal
  obtain ⟨am, cm, mm, rfl⟩ := arg_shape ham
  by_cases fsl : szBon l ≤ 1048576
  · skip
    by_cases fsm : szBon m ≤ 1048576 - szBon l
    · skip
      have hll : l.length ≤ 1048576 := by have q0 := fsl; unfold szBon at q0; omega
      have htl : ∀ i (hi : i < l.length), l[i].text.size ≤ 1048576 := fun i hi => Nat.le_trans (szBon_txt l i hi) (by omega)
      have HAl := hide hal
      have SZl := hide (fun w' (h : ArgBo w' (.slice al ml cl) l) => szRope_from h hrl (1048576) (by omega))
      rw [if_pos fsl] at SZl
      have TCl := hide (fun w' (h : ArgBo w' (.slice al ml cl) l) => toRope_cp h (by omega))
      have hlm : m.length ≤ 1048576 := by have q0 := fsm; unfold szBon at q0; omega
      have htm : ∀ i (hi : i < m.length), m[i].text.size ≤ 1048576 := fun i hi => Nat.le_trans (szBon_txt m i hi) (by omega)
      have HAm := hide ham
      have SZm := hide (fun w' (h : ArgBo w' (.slice am mm cm) m) => szRope_from h hrm (1048576 - szBon l) (by omega))
      rw [if_pos fsm] at SZm
      have TCm := hide (fun w' (h : ArgBo w' (.slice am mm cm) m) => toRope_cp h (by omega))
      obtain ⟨Kl, hKl⟩ : ∃ K : Nat, 1048576 - szBon l = K := ⟨_, rfl⟩
      rw [hKl] at SZl SZm fsm
      have e0l : decide ((Kl : Int) < 0) = false := by rw [decide_eq_false_iff_not]; omega
      obtain ⟨Km, hKm⟩ : ∃ K : Nat, Kl - szBon m = K := ⟨_, rfl⟩
      rw [hKm] at SZm
      have e0m : decide ((Km : Int) < 0) = false := by rw [decide_eq_false_iff_not]; omega
      have HTXl := hide htl
      have HTXm := hide htm
      clear hal hrl htl hKl ham hrm htm hKm fsm fsl
      have HTb := hide hT
      have hB := hide (Below.refl w.heap.size w)
      clear hT
      have HS := hide (fun w' {g : Option Addr} {c : Nat} (h : RIn w' g c l) {g2 : Option Addr} {c2 : Nat} (h2 : RIn w' g2 c2 m) => joinRopesS h h2)
      have HI := hide (fun w' {g : Option Addr} {c : Nat} (h : RIn w' g c l) {g2 : Option Addr} {c2 : Nat} (h2 : RIn w' g2 c2 m) hT => joinRopesI h h2 hT)
      obtain ⟨R0, hR0⟩ : ∃ R, jnL l m = R := ⟨_, rfl⟩
      obtain ⟨R1, hR1⟩ : ∃ R, jnB l m = R := ⟨_, rfl⟩
      simp only [hR0, hR1] at HS HI
      have hlr0 : R0.length ≤ 1000000 := by rw [← hR0]; exact jnL_len _ _
      clear hR0 hR1
      go_enter Tryd.func4, Tryd.ntmps4
      obtain ⟨w1, hw2⟩ : ∃ wq0, wq0 = w.alloc (.cells #[.slice al ml cl] 24) := ⟨_, rfl⟩
      have hb3 : Below w.heap.size w w1 := by rw [hw2]; exact (Below.refl _ _).alloc (Nat.le_refl _) _
      have e4 : Hid (w1.heap.size = w.heap.size + 1) := hide (by rw [hw2]; simp)
      have X5 : Hid (CellT 24 w1 w.heap.size (.slice al ml cl)) := hide (by rw [hw2]; exact CellT.new _ _ _)
      have z6 := hide hb3.size
      replace hB := hide (hB.out.trans (hb3.mono hB.out.size))
      clear hb3
      obtain ⟨w7, hw8⟩ : ∃ wq0, wq0 = w1.alloc (.cells #[.slice am mm cm] 24) := ⟨_, rfl⟩
      have hb9 : Below w1.heap.size w1 w7 := by rw [hw8]; exact (Below.refl _ _).alloc (Nat.le_refl _) _
      have e10 : Hid (w7.heap.size = w1.heap.size + 1) := hide (by rw [hw8]; simp)
      have X11 : Hid (CellT 24 w7 (w.heap.size + 1) (.slice am mm cm)) := hide (by rw [hw8, ← e4.out]; exact CellT.new _ _ _)
      replace X5 := hide (X5.out.later hb9)
      have z12 := hide hb9.size
      replace hB := hide (hB.out.trans (hb9.mono hB.out.size))
      clear hb9
      have SZ15 := hide (SZl.out w7 (HAl.out.later hB.out))
      go_wp2_with fail
      rw [← hw2]
      clear hw2
      rw [← hw8]
      clear hw8
      refine (SZ15.out).mono ?_
      rintro e w13 ⟨rfl, hb14⟩
      clear SZ15
      replace X5 := hide (X5.out.later hb14)
      replace X11 := hide (X11.out.later hb14)
      have z16 := hide hb14.size
      replace hB := hide (hB.out.trans (hb14.mono hB.out.size))
      clear hb14
      have SZ19 := hide (SZm.out w13 (HAm.out.later hB.out))
      have k20 := X11.out.cell
      go_wp2_with fail
      refine (SZ19.out).mono ?_
      rintro e w17 ⟨rfl, hb18⟩
      clear SZ19 k20
      replace X5 := hide (X5.out.later hb18)
      replace X11 := hide (X11.out.later hb18)
      have z21 := hide hb18.size
      replace hB := hide (hB.out.trans (hb18.mono hB.out.size))
      clear hb18
      have KC22 : Hid (∀ w', Below w17.heap.size w17 w' → w'.cell? ⟨w.heap.size, 0, none⟩ = some (.slice al ml cl) ∧ w'.cell? ⟨w.heap.size + 1, 0, none⟩ = some (.slice am mm cm)) := hide (fun w' hb => ⟨(X5.out.later hb).cell, (X11.out.later hb).cell⟩)
      have CT23 := hide (fun w' (hb : Below w17.heap.size w17 w') => TCl.out w' (HAl.out.later (hB.out.trans (hb.mono hB.out.size))))
      have CT24 := hide (fun w' (hb : Below w17.heap.size w17 w') => TCm.out w' (HAm.out.later (hB.out.trans (hb.mono hB.out.size))))
      have TB25 := hide (fun w' (hb : Below w17.heap.size w17 w') => HTb.out.below (hB.out.trans (hb.mono hB.out.size)))
      go_wp2_with fail
      go_cut [6, 7] from 27 to 34 (fun vb v7 wx => ∃ c a cc, vb = .pointer (some ⟨c, 0, none⟩) ∧ v7 = .bool R1 ∧ Hid (JnQ 30 w17 wx c R0.length a cc R0))
      case first =>
        go_region_held3 (fun w' => w'.cell? ⟨w.heap.size, 0, none⟩ = some (.slice al ml cl) ∧ w'.cell? ⟨w.heap.size + 1, 0, none⟩ = some (.slice am mm cm))
          (first | assumption | exact KC22.out _ (Below.refl _ _) | exact KC22.out _ (Below.refl _ _).drew | exact KC22.out _ ((Below.refl _ _).drew.alloc (Nat.le_refl _) _) | exact KC22.out _ hcq26 | exact KC22.out _ (hcq26.alloc hcq26.size _) | exact KC22.out _ (hcq26.setCell (by first | exact hz2q26 | exact hz1q26 | exact Nat.le_refl _) _) | exact KC22.out _ hbq26 | exact KC22.out _ (hbq26.alloc hbq26.size _) | exact KC22.out _ haq26 | exact KC22.out _ (haq26.alloc haq26.size _))
          (first
            | (go_at_call 14; refine (HS.out _ ⟨((cp0q26.out.later hp2q26).later (by first | exact Below.refl _ _ | exact (Below.refl _ _).alloc (Nat.le_refl _) _)).inn (by omega), hll, HTXl.out⟩ ⟨(cp1q26.out.later (by first | exact Below.refl _ _ | exact (Below.refl _ _).alloc (Nat.le_refl _) _)).inn (by omega), hlm, HTXm.out⟩).mono ?_; rintro e wcq26 ⟨vx0, rfl, ox0, hx3⟩; obtain ⟨ax0, cx0, rfl, -⟩ := own_shp ox0; have Ox0 := hide ox0; have SXq26 := hide hx3.size; have hcq26 : Below w17.heap.size w17 wcq26 := hbq26.trans ((show Below wbq26.heap.size wbq26 wcq26 from (by first | exact hx3 | exact ((Below.refl _ _).alloc (Nat.le_refl _) _).trans (hx3.mono (by simp)))).mono hbq26.size); have SYq26 : Hid (wbq26.heap.size ≤ wcq26.heap.size) := hide (by have q := hx3.size; first | exact q | (simp at q; omega)); (first | have Yq26 := hide ((CellT.later (CellT.later (CellT.later (show CellT 30 (w17.drew.alloc (.cells #[.slice none 0 0] 30)) w17.heap.size (.slice none 0 0) from CellT.new 30 w17.drew (.slice none 0 0)) hk1q26) hk2q26) hx3)) | have Yq26 := hide ((CellT.later (CellT.later (CellT.new 30 waq26 (.slice none 0 0)) hk2q26) hx3)) | have Yq26 := hide ((CellT.later (CellT.new 30 wbq26 (.slice none 0 0)) hx3)) | have Yq26 := hide trivial); (first | (have kxq26 := Yq26.out.cell; have fxq26 := frozen_of_row Yq26.out 0) | skip); clear hx3 ox0)
            | (go_at_call 11; refine (CT24.out _ (by first | exact haq26 | exact haq26.alloc haq26.size _)).mono ?_; rintro e wbq26 ⟨g1q26, rfl, hg1q26, cpyq26, hk2q26⟩; have cp1q26 := hide cpyq26; have hp2q26 : Below waq26.heap.size waq26 wbq26 := (by first | exact hk2q26 | exact ((Below.refl _ _).alloc (Nat.le_refl _) _).trans (hk2q26.mono (by simp))); have hbq26 : Below w17.heap.size w17 wbq26 := haq26.trans (hp2q26.mono haq26.size); have hz2q26 : w17.heap.size ≤ wbq26.heap.size := hbq26.size; clear cpyq26)
            | (go_at_call 11; refine (CT23.out _ (by first | exact (Below.refl _ _).drew | exact (Below.refl _ _).drew.alloc (Nat.le_refl _) _)).mono ?_; rintro e waq26 ⟨g0q26, rfl, hg0q26, cpxq26, hk1q26⟩; have cp0q26 := hide cpxq26; have haq26 : Below w17.heap.size w17 waq26 := (by first | exact (Below.refl _ _).drew.trans hk1q26 | exact ((Below.refl _ _).drew.alloc (Nat.le_refl _) _).trans (hk1q26.mono (by simp))); have hz1q26 : w17.heap.size ≤ waq26.heap.size := haq26.size; clear cpxq26))
        all_goals
          go_wp2_with fail
          go_meet
          case rel => first | exact ⟨_, _, _, rfl, rfl, hide (jn_new 30 hcq26 hbq26.size Ox0.out)⟩ | exact ⟨_, _, _, rfl, rfl, hide (jn_new 30 hcq26 (by have q1 := hk1q26.size; have q2 := hk2q26.size; have q3 := haq26.size; have q4 := hbq26.size; (try simp at q1); (try simp at q2); (try simp); omega) Ox0.out)⟩ | exact ⟨_, _, _, rfl, rfl, hide (jn_set 30 hcq26 (by have q1 := hk1q26.size; have q2 := hk2q26.size; have q3 := haq26.size; have q4 := hbq26.size; (try simp at q1); (try simp at q2); (try simp); omega) Ox0.out Yq26.out)⟩
      case rest =>
      obtain ⟨bx0, ax0, cx0, rfl, rfl, HQq26⟩ := hcut
      have hb28 := HQq26.out.2.2.2.2
      have Xx0 := hide HQq26.out.1
      have Ox0 := hide HQq26.out.2.2.1
      have Dx0 := hide HQq26.out.2.2.2.1
      have Ix0 : Hid (w17.heap.size ≤ bx0 ∧ bx0 < wc.heap.size) := hide ⟨HQq26.out.2.1, Xx0.out.lt⟩
      have Lx0 : Hid (∀ y, (Value.slice ax0 R0.length cx0).ownBlock = some y → w17.heap.size ≤ y ∧ y < wc.heap.size) := hide (fun y hy => World.ownsRow.lt Ox0.out y hy)
      clear HQq26 KC22 CT23 CT24 TB25
      obtain ⟨w29, hw29⟩ : ∃ wq, wc = wq := ⟨_, rfl⟩
      rw [hw29] at hb28 Xx0 Ox0 Ix0 Lx0 ⊢
      clear hw29
      replace X5 := hide (X5.out.later hb28)
      replace X11 := hide (X11.out.later hb28)
      have z30 := hide hb28.size
      replace hB := hide (hB.out.trans (hb28.mono hB.out.size))
      clear hb28
      have T36 := hide (TCl.out w29 (HAl.out.later hB.out))
      have k37 := X5.out.cell
      go_wp2_with fail
      refine (T36.out).mono ?_
      rintro e w31 ⟨g33, rfl, hg34, C35, hb32⟩
      clear T36 k37
      have I38 : Hid (w29.heap.size ≤ g33 ∧ g33 < w31.heap.size) := hide ⟨hg34, C35.lt⟩
      have P39 := hide C35
      clear C35 hg34
      replace X5 := hide (X5.out.later hb32)
      replace X11 := hide (X11.out.later hb32)
      replace Xx0 := hide (Xx0.out.later hb32)
      replace Ox0 := hide (own_below Ox0.out hb32)
      have z40 := hide hb32.size
      replace hB := hide (hB.out.trans (hb32.mono hB.out.size))
      clear hb32
      obtain ⟨w41, hw42⟩ : ∃ wq0, wq0 = w31.alloc (.cells #[.slice (some ⟨g33, 0, none⟩) l.length l.length] 30) := ⟨_, rfl⟩
      have hb43 : Below w31.heap.size w31 w41 := by rw [hw42]; exact (Below.refl _ _).alloc (Nat.le_refl _) _
      have e44 : Hid (w41.heap.size = w31.heap.size + 1) := hide (by rw [hw42]; simp)
      have X45 : Hid (CellT 30 w41 w31.heap.size (.slice (some ⟨g33, 0, none⟩) l.length l.length)) := hide (by rw [hw42]; exact CellT.new _ _ _)
      replace X5 := hide (X5.out.later hb43)
      replace X11 := hide (X11.out.later hb43)
      replace Xx0 := hide (Xx0.out.later hb43)
      replace P39 := hide (P39.out.later hb43)
      replace Ox0 := hide (own_below Ox0.out hb43)
      have z46 := hide hb43.size
      replace hB := hide (hB.out.trans (hb43.mono hB.out.size))
      clear hb43
      have T52 := hide (TCm.out w41 (HAm.out.later hB.out))
      have k53 := X11.out.cell
      rw [hw42] at k53
      go_wp2_with fail
      rw [← hw42]
      clear hw42
      refine (T52.out).mono ?_
      rintro e w47 ⟨g49, rfl, hg50, C51, hb48⟩
      clear T52 k53
      have I54 : Hid (w41.heap.size ≤ g49 ∧ g49 < w47.heap.size) := hide ⟨hg50, C51.lt⟩
      have P55 := hide C51
      clear C51 hg50
      replace X5 := hide (X5.out.later hb48)
      replace X11 := hide (X11.out.later hb48)
      replace Xx0 := hide (Xx0.out.later hb48)
      replace X45 := hide (X45.out.later hb48)
      replace P39 := hide (P39.out.later hb48)
      replace Ox0 := hide (own_below Ox0.out hb48)
      have z56 := hide hb48.size
      replace hB := hide (hB.out.trans (hb48.mono hB.out.size))
      clear hb48
      obtain ⟨w57, hw58⟩ : ∃ wq0, wq0 = w47.alloc (.cells #[.slice (some ⟨g49, 0, none⟩) m.length m.length] 30) := ⟨_, rfl⟩
      have hb59 : Below w47.heap.size w47 w57 := by rw [hw58]; exact (Below.refl _ _).alloc (Nat.le_refl _) _
      have e60 : Hid (w57.heap.size = w47.heap.size + 1) := hide (by rw [hw58]; simp)
      have X61 : Hid (CellT 30 w57 w47.heap.size (.slice (some ⟨g49, 0, none⟩) m.length m.length)) := hide (by rw [hw58]; exact CellT.new _ _ _)
      replace X5 := hide (X5.out.later hb59)
      replace X11 := hide (X11.out.later hb59)
      replace Xx0 := hide (Xx0.out.later hb59)
      replace X45 := hide (X45.out.later hb59)
      replace P39 := hide (P39.out.later hb59)
      replace P55 := hide (P55.out.later hb59)
      replace Ox0 := hide (own_below Ox0.out hb59)
      have z62 := hide hb59.size
      replace hB := hide (hB.out.trans (hb59.mono hB.out.size))
      clear hb59
      have k63 := X45.out.cell
      rw [hw58] at k63
      have k64 := X61.out.cell
      rw [hw58] at k64
      have H67 := hide (HI.out w57 ⟨P39.out.inn (by omega), hll, HTXl.out⟩ ⟨P55.out.inn (by omega), hlm, HTXm.out⟩ (HTb.out.below hB.out))
      go_wp2_with fail
      rw [← hw58]
      clear hw58
      refine (H67.out).mono ?_
      rintro e w65 ⟨y0, rfl, oy0, hb66⟩
      clear H67
      obtain ⟨ay0, cy0, rfl, -⟩ := own_shp oy0
      have Ly0 : Hid (∀ y, (Value.slice ay0 R0.length cy0).ownBlock = some y → w57.heap.size ≤ y ∧ y < w65.heap.size) := hide (fun y hy => World.ownsRow.lt oy0 y hy)
      have Oy0 := hide oy0
      clear oy0
      replace X5 := hide (X5.out.later hb66)
      replace X11 := hide (X11.out.later hb66)
      replace Xx0 := hide (Xx0.out.later hb66)
      replace X45 := hide (X45.out.later hb66)
      replace X61 := hide (X61.out.later hb66)
      replace P39 := hide (P39.out.later hb66)
      replace P55 := hide (P55.out.later hb66)
      replace Ox0 := hide (own_below Ox0.out hb66)
      have z68 := hide hb66.size
      replace hB := hide (hB.out.trans (hb66.mono hB.out.size))
      clear hb66
      obtain ⟨w69, hw70⟩ : ∃ wq0, wq0 = w65.alloc (.cells #[.slice ay0 R0.length cy0] 30) := ⟨_, rfl⟩
      have hb71 : Below w65.heap.size w65 w69 := by rw [hw70]; exact (Below.refl _ _).alloc (Nat.le_refl _) _
      have e72 : Hid (w69.heap.size = w65.heap.size + 1) := hide (by rw [hw70]; simp)
      have X73 : Hid (CellT 30 w69 w65.heap.size (.slice ay0 R0.length cy0)) := hide (by rw [hw70]; exact CellT.new _ _ _)
      replace X5 := hide (X5.out.later hb71)
      replace X11 := hide (X11.out.later hb71)
      replace Xx0 := hide (Xx0.out.later hb71)
      replace X45 := hide (X45.out.later hb71)
      replace X61 := hide (X61.out.later hb71)
      replace P39 := hide (P39.out.later hb71)
      replace P55 := hide (P55.out.later hb71)
      replace Ox0 := hide (own_below Ox0.out hb71)
      replace Oy0 := hide (own_below Oy0.out hb71)
      have z74 := hide hb71.size
      replace hB := hide (hB.out.trans (hb71.mono hB.out.size))
      clear hb71
      clear k63 k64
      have k78 := X73.out.cell
      rw [hw70] at k78
      have k79 := Xx0.out.cell
      rw [hw70] at k79
      have E77 := hide (eqRope_own Oy0.out Ox0.out (by omega))
      go_wp2_with fail
      rw [← hw70]
      clear hw70
      refine (E77.out).mono ?_
      rintro e w75 ⟨rfl, hb76⟩
      clear E77 k78 k79
      replace X5 := hide (X5.out.later hb76)
      replace X11 := hide (X11.out.later hb76)
      replace Xx0 := hide (Xx0.out.later hb76)
      replace X45 := hide (X45.out.later hb76)
      replace X61 := hide (X61.out.later hb76)
      replace X73 := hide (X73.out.later hb76)
      replace P39 := hide (P39.out.later hb76)
      replace P55 := hide (P55.out.later hb76)
      replace Ox0 := hide (own_below Ox0.out hb76)
      replace Oy0 := hide (own_below Oy0.out hb76)
      have z80 := hide hb76.size
      replace hB := hide (hB.out.trans (hb76.mono hB.out.size))
      clear hb76
      have KC81 : Hid (∀ w', Below w75.heap.size w75 w' → w'.cell? ⟨w31.heap.size, 0, none⟩ = some (.slice (some ⟨g33, 0, none⟩) l.length l.length) ∧ w'.cell? ⟨w.heap.size, 0, none⟩ = some (.slice al ml cl)) := hide (fun w' hb => ⟨(X45.out.later hb).cell, (X5.out.later hb).cell⟩)
      have CT82 := hide (fun w' (hb : Below w75.heap.size w75 w') => TCl.out w' (HAl.out.later (hB.out.trans (hb.mono hB.out.size))))
      have CX83 := hide (fun w' (hb : Below w75.heap.size w75 w') => P39.out.later hb)
      go_wp2_with fail
      go_region_held3 (fun w' => w'.cell? ⟨w31.heap.size, 0, none⟩ = some (.slice (some ⟨g33, 0, none⟩) l.length l.length) ∧ w'.cell? ⟨w.heap.size, 0, none⟩ = some (.slice al ml cl))
        (first | assumption | exact KC81.out _ (Below.refl _ _) | exact KC81.out _ (Below.refl _ _).drew | exact KC81.out _ hbq20 | exact KC81.out _ hbq10)
        (first
          | (go_at_call 13; refine (eqRope_cp (CX83.out wq10 hbq10) cpq0.out (by omega)).mono ?_; rintro e wq20 ⟨rfl, hq20⟩; have hbq20 : Below w75.heap.size w75 wq20 := hbq10.trans (hq20.mono hbq10.size); clear hq20)
          | (go_at_call 11; refine (CT82.out _ (Below.refl _ _).drew).mono ?_; rintro e wq10 ⟨gq0, rfl, hgq0, cpq00, hq10⟩; have cpq0 := hide cpq00; have hbq10 : Below w75.heap.size w75 wq10 := (Below.refl _ _).drew.trans hq10; clear hq10 cpq00))
      clear cpq0 hbq10 KC81 CT82 CX83 hgq0
      replace X5 := hide (X5.out.later hbq20)
      replace X11 := hide (X11.out.later hbq20)
      replace Xx0 := hide (Xx0.out.later hbq20)
      replace X45 := hide (X45.out.later hbq20)
      replace X61 := hide (X61.out.later hbq20)
      replace X73 := hide (X73.out.later hbq20)
      replace P39 := hide (P39.out.later hbq20)
      replace P55 := hide (P55.out.later hbq20)
      replace Ox0 := hide (own_below Ox0.out hbq20)
      replace Oy0 := hide (own_below Oy0.out hbq20)
      have z84 := hide hbq20.size
      replace hB := hide (hB.out.trans (hbq20.mono hB.out.size))
      clear hbq20
      have KC85 : Hid (∀ w', Below wq20.heap.size wq20 w' → w'.cell? ⟨w47.heap.size, 0, none⟩ = some (.slice (some ⟨g49, 0, none⟩) m.length m.length) ∧ w'.cell? ⟨w.heap.size + 1, 0, none⟩ = some (.slice am mm cm)) := hide (fun w' hb => ⟨(X61.out.later hb).cell, (X11.out.later hb).cell⟩)
      have CT86 := hide (fun w' (hb : Below wq20.heap.size wq20 w') => TCm.out w' (HAm.out.later (hB.out.trans (hb.mono hB.out.size))))
      have CX87 := hide (fun w' (hb : Below wq20.heap.size wq20 w') => P55.out.later hb)
      go_wp2_with fail
      go_region_held3 (fun w' => w'.cell? ⟨w47.heap.size, 0, none⟩ = some (.slice (some ⟨g49, 0, none⟩) m.length m.length) ∧ w'.cell? ⟨w.heap.size + 1, 0, none⟩ = some (.slice am mm cm))
        (first | assumption | exact KC85.out _ (Below.refl _ _) | exact KC85.out _ (Below.refl _ _).drew | exact KC85.out _ hbq21 | exact KC85.out _ hbq11)
        (first
          | (go_at_call 13; refine (eqRope_cp (CX87.out wq11 hbq11) cpq1.out (by omega)).mono ?_; rintro e wq21 ⟨rfl, hq21⟩; have hbq21 : Below wq20.heap.size wq20 wq21 := hbq11.trans (hq21.mono hbq11.size); clear hq21)
          | (go_at_call 11; refine (CT86.out _ (Below.refl _ _).drew).mono ?_; rintro e wq11 ⟨gq1, rfl, hgq1, cpq01, hq11⟩; have cpq1 := hide cpq01; have hbq11 : Below wq20.heap.size wq20 wq11 := (Below.refl _ _).drew.trans hq11; clear hq11 cpq01))
      clear cpq1 hbq11 KC85 CT86 CX87 hgq1
      replace X5 := hide (X5.out.later hbq21)
      replace X11 := hide (X11.out.later hbq21)
      replace Xx0 := hide (Xx0.out.later hbq21)
      replace X45 := hide (X45.out.later hbq21)
      replace X61 := hide (X61.out.later hbq21)
      replace X73 := hide (X73.out.later hbq21)
      replace P39 := hide (P39.out.later hbq21)
      replace P55 := hide (P55.out.later hbq21)
      replace Ox0 := hide (own_below Ox0.out hbq21)
      replace Oy0 := hide (own_below Oy0.out hbq21)
      have z88 := hide hbq21.size
      replace hB := hide (hB.out.trans (hbq21.mono hB.out.size))
      clear hbq21
      have k92 := X45.out.cell
      have M91 := hide (markRope_cp P39.out (by omega))
      obtain ⟨KK0, hKK0⟩ : ∃ KK : Nat, 1 + l.length * 5 = KK := ⟨_, rfl⟩
      rw [hKK0] at M91
      have hKb0 : 0 < KK0 ∧ KK0 ≤ 20000000 := by omega
      clear hKK0
      go_wp2_with fail
      refine (M91.out).mono ?_
      rintro e w89 ⟨rfl, hg90⟩
      clear M91 k92
      clear P39
      replace X5 := hide (X5.out.grown hg90 (fun e => by have u0 := Option.some.inj e; have ui := I38.out; have q0 := z6.out; have q1 := e4.out; have q2 := z12.out; have q3 := e10.out; have q4 := z16.out; have q5 := z21.out; have q6 := z30.out; have q7 := z40.out; have q8 := z46.out; have q9 := e44.out; have q10 := z56.out; have q11 := z62.out; have q12 := e60.out; have q13 := z68.out; have q14 := z74.out; have q15 := e72.out; have q16 := z80.out; have q17 := z84.out; have q18 := z88.out; omega))
      replace X11 := hide (X11.out.grown hg90 (fun e => by have u0 := Option.some.inj e; have ui := I38.out; have q0 := z6.out; have q1 := e4.out; have q2 := z12.out; have q3 := e10.out; have q4 := z16.out; have q5 := z21.out; have q6 := z30.out; have q7 := z40.out; have q8 := z46.out; have q9 := e44.out; have q10 := z56.out; have q11 := z62.out; have q12 := e60.out; have q13 := z68.out; have q14 := z74.out; have q15 := e72.out; have q16 := z80.out; have q17 := z84.out; have q18 := z88.out; omega))
      replace Xx0 := hide (Xx0.out.grown hg90 (fun e => by have u0 := Option.some.inj e; have ui := I38.out; have u1 := Ix0.out; have q0 := z6.out; have q1 := e4.out; have q2 := z12.out; have q3 := e10.out; have q4 := z16.out; have q5 := z21.out; have q6 := z30.out; have q7 := z40.out; have q8 := z46.out; have q9 := e44.out; have q10 := z56.out; have q11 := z62.out; have q12 := e60.out; have q13 := z68.out; have q14 := z74.out; have q15 := e72.out; have q16 := z80.out; have q17 := z84.out; have q18 := z88.out; omega))
      replace X45 := hide (X45.out.grown hg90 (fun e => by have u0 := Option.some.inj e; have ui := I38.out; have q0 := z6.out; have q1 := e4.out; have q2 := z12.out; have q3 := e10.out; have q4 := z16.out; have q5 := z21.out; have q6 := z30.out; have q7 := z40.out; have q8 := z46.out; have q9 := e44.out; have q10 := z56.out; have q11 := z62.out; have q12 := e60.out; have q13 := z68.out; have q14 := z74.out; have q15 := e72.out; have q16 := z80.out; have q17 := z84.out; have q18 := z88.out; omega))
      replace X61 := hide (X61.out.grown hg90 (fun e => by have u0 := Option.some.inj e; have ui := I38.out; have q0 := z6.out; have q1 := e4.out; have q2 := z12.out; have q3 := e10.out; have q4 := z16.out; have q5 := z21.out; have q6 := z30.out; have q7 := z40.out; have q8 := z46.out; have q9 := e44.out; have q10 := z56.out; have q11 := z62.out; have q12 := e60.out; have q13 := z68.out; have q14 := z74.out; have q15 := e72.out; have q16 := z80.out; have q17 := z84.out; have q18 := z88.out; omega))
      replace X73 := hide (X73.out.grown hg90 (fun e => by have u0 := Option.some.inj e; have ui := I38.out; have q0 := z6.out; have q1 := e4.out; have q2 := z12.out; have q3 := e10.out; have q4 := z16.out; have q5 := z21.out; have q6 := z30.out; have q7 := z40.out; have q8 := z46.out; have q9 := e44.out; have q10 := z56.out; have q11 := z62.out; have q12 := e60.out; have q13 := z68.out; have q14 := z74.out; have q15 := e72.out; have q16 := z80.out; have q17 := z84.out; have q18 := z88.out; omega))
      replace P55 := hide (P55.out.grown hg90 (fun e => by have u0 := Option.some.inj e; have ui := I38.out; have u1 := I54.out; have q0 := z6.out; have q1 := e4.out; have q2 := z12.out; have q3 := e10.out; have q4 := z16.out; have q5 := z21.out; have q6 := z30.out; have q7 := z40.out; have q8 := z46.out; have q9 := e44.out; have q10 := z56.out; have q11 := z62.out; have q12 := e60.out; have q13 := z68.out; have q14 := z74.out; have q15 := e72.out; have q16 := z80.out; have q17 := z84.out; have q18 := z88.out; omega))
      replace Ox0 := hide (own_grown Ox0.out hg90 (fun y hy e => by have u0 := Option.some.inj e; have ui := I38.out; have u2 := Lx0.out y hy; have q0 := z6.out; have q1 := e4.out; have q2 := z12.out; have q3 := e10.out; have q4 := z16.out; have q5 := z21.out; have q6 := z30.out; have q7 := z40.out; have q8 := z46.out; have q9 := e44.out; have q10 := z56.out; have q11 := z62.out; have q12 := e60.out; have q13 := z68.out; have q14 := z74.out; have q15 := e72.out; have q16 := z80.out; have q17 := z84.out; have q18 := z88.out; omega))
      replace Oy0 := hide (own_grown Oy0.out hg90 (fun y hy e => by have u0 := Option.some.inj e; have ui := I38.out; have u2 := Ly0.out y hy; have q0 := z6.out; have q1 := e4.out; have q2 := z12.out; have q3 := e10.out; have q4 := z16.out; have q5 := z21.out; have q6 := z30.out; have q7 := z40.out; have q8 := z46.out; have q9 := e44.out; have q10 := z56.out; have q11 := z62.out; have q12 := e60.out; have q13 := z68.out; have q14 := z74.out; have q15 := e72.out; have q16 := z80.out; have q17 := z84.out; have q18 := z88.out; omega))
      have z93 := hide hg90.size
      replace hB := hide (hB.out.grown hg90 hB.out.size (fun y e => by have u0 := Option.some.inj e; have ui := I38.out; have q0 := z6.out; have q1 := e4.out; have q2 := z12.out; have q3 := e10.out; have q4 := z16.out; have q5 := z21.out; have q6 := z30.out; have q7 := z40.out; have q8 := z46.out; have q9 := e44.out; have q10 := z56.out; have q11 := z62.out; have q12 := e60.out; have q13 := z68.out; have q14 := z74.out; have q15 := e72.out; have q16 := z80.out; have q17 := z84.out; have q18 := z88.out; omega))
      clear hg90
      have k97 := X61.out.cell
      have M96 := hide (markRope_on P55.out (by omega) (KK0) (by omega))
      have ek0 : decide (((KK0 + m.length * 5 : Nat) : Int) < 0) = false := by rw [decide_eq_false_iff_not]; omega
      obtain ⟨KK1, hKK1⟩ : ∃ KK : Nat, KK0 + m.length * 5 = KK := ⟨_, rfl⟩
      rw [hKK1] at M96 ek0
      have hKb1 : 0 < KK1 ∧ KK1 ≤ 40000000 := by omega
      clear hKK1
      go_wp2_with fail
      refine (M96.out).mono ?_
      rintro e w94 ⟨rfl, hg95⟩
      clear M96 k97
      clear P55
      replace X5 := hide (X5.out.grown hg95 (fun e => by have u0 := Option.some.inj e; have ui := I54.out; have q0 := z6.out; have q1 := e4.out; have q2 := z12.out; have q3 := e10.out; have q4 := z16.out; have q5 := z21.out; have q6 := z30.out; have q7 := z40.out; have q8 := z46.out; have q9 := e44.out; have q10 := z56.out; have q11 := z62.out; have q12 := e60.out; have q13 := z68.out; have q14 := z74.out; have q15 := e72.out; have q16 := z80.out; have q17 := z84.out; have q18 := z88.out; have q19 := z93.out; omega))
      replace X11 := hide (X11.out.grown hg95 (fun e => by have u0 := Option.some.inj e; have ui := I54.out; have q0 := z6.out; have q1 := e4.out; have q2 := z12.out; have q3 := e10.out; have q4 := z16.out; have q5 := z21.out; have q6 := z30.out; have q7 := z40.out; have q8 := z46.out; have q9 := e44.out; have q10 := z56.out; have q11 := z62.out; have q12 := e60.out; have q13 := z68.out; have q14 := z74.out; have q15 := e72.out; have q16 := z80.out; have q17 := z84.out; have q18 := z88.out; have q19 := z93.out; omega))
      replace Xx0 := hide (Xx0.out.grown hg95 (fun e => by have u0 := Option.some.inj e; have ui := I54.out; have u1 := Ix0.out; have q0 := z6.out; have q1 := e4.out; have q2 := z12.out; have q3 := e10.out; have q4 := z16.out; have q5 := z21.out; have q6 := z30.out; have q7 := z40.out; have q8 := z46.out; have q9 := e44.out; have q10 := z56.out; have q11 := z62.out; have q12 := e60.out; have q13 := z68.out; have q14 := z74.out; have q15 := e72.out; have q16 := z80.out; have q17 := z84.out; have q18 := z88.out; have q19 := z93.out; omega))
      replace X45 := hide (X45.out.grown hg95 (fun e => by have u0 := Option.some.inj e; have ui := I54.out; have q0 := z6.out; have q1 := e4.out; have q2 := z12.out; have q3 := e10.out; have q4 := z16.out; have q5 := z21.out; have q6 := z30.out; have q7 := z40.out; have q8 := z46.out; have q9 := e44.out; have q10 := z56.out; have q11 := z62.out; have q12 := e60.out; have q13 := z68.out; have q14 := z74.out; have q15 := e72.out; have q16 := z80.out; have q17 := z84.out; have q18 := z88.out; have q19 := z93.out; omega))
      replace X61 := hide (X61.out.grown hg95 (fun e => by have u0 := Option.some.inj e; have ui := I54.out; have q0 := z6.out; have q1 := e4.out; have q2 := z12.out; have q3 := e10.out; have q4 := z16.out; have q5 := z21.out; have q6 := z30.out; have q7 := z40.out; have q8 := z46.out; have q9 := e44.out; have q10 := z56.out; have q11 := z62.out; have q12 := e60.out; have q13 := z68.out; have q14 := z74.out; have q15 := e72.out; have q16 := z80.out; have q17 := z84.out; have q18 := z88.out; have q19 := z93.out; omega))
      replace X73 := hide (X73.out.grown hg95 (fun e => by have u0 := Option.some.inj e; have ui := I54.out; have q0 := z6.out; have q1 := e4.out; have q2 := z12.out; have q3 := e10.out; have q4 := z16.out; have q5 := z21.out; have q6 := z30.out; have q7 := z40.out; have q8 := z46.out; have q9 := e44.out; have q10 := z56.out; have q11 := z62.out; have q12 := e60.out; have q13 := z68.out; have q14 := z74.out; have q15 := e72.out; have q16 := z80.out; have q17 := z84.out; have q18 := z88.out; have q19 := z93.out; omega))
      replace Ox0 := hide (own_grown Ox0.out hg95 (fun y hy e => by have u0 := Option.some.inj e; have ui := I54.out; have u2 := Lx0.out y hy; have q0 := z6.out; have q1 := e4.out; have q2 := z12.out; have q3 := e10.out; have q4 := z16.out; have q5 := z21.out; have q6 := z30.out; have q7 := z40.out; have q8 := z46.out; have q9 := e44.out; have q10 := z56.out; have q11 := z62.out; have q12 := e60.out; have q13 := z68.out; have q14 := z74.out; have q15 := e72.out; have q16 := z80.out; have q17 := z84.out; have q18 := z88.out; have q19 := z93.out; omega))
      replace Oy0 := hide (own_grown Oy0.out hg95 (fun y hy e => by have u0 := Option.some.inj e; have ui := I54.out; have u2 := Ly0.out y hy; have q0 := z6.out; have q1 := e4.out; have q2 := z12.out; have q3 := e10.out; have q4 := z16.out; have q5 := z21.out; have q6 := z30.out; have q7 := z40.out; have q8 := z46.out; have q9 := e44.out; have q10 := z56.out; have q11 := z62.out; have q12 := e60.out; have q13 := z68.out; have q14 := z74.out; have q15 := e72.out; have q16 := z80.out; have q17 := z84.out; have q18 := z88.out; have q19 := z93.out; omega))
      have z98 := hide hg95.size
      replace hB := hide (hB.out.grown hg95 hB.out.size (fun y e => by have u0 := Option.some.inj e; have ui := I54.out; have q0 := z6.out; have q1 := e4.out; have q2 := z12.out; have q3 := e10.out; have q4 := z16.out; have q5 := z21.out; have q6 := z30.out; have q7 := z40.out; have q8 := z46.out; have q9 := e44.out; have q10 := z56.out; have q11 := z62.out; have q12 := e60.out; have q13 := z68.out; have q14 := z74.out; have q15 := e72.out; have q16 := z80.out; have q17 := z84.out; have q18 := z88.out; have q19 := z93.out; omega))
      clear hg95
      have k102 := X73.out.cell
      have k103 := Xx0.out.cell
      have E101 := hide (eqRope_own Oy0.out Ox0.out (by omega))
      go_wp2_with fail
      refine (E101.out).mono ?_
      rintro e w99 ⟨rfl, hb100⟩
      clear E101 k102 k103
      replace X5 := hide (X5.out.later hb100)
      replace X11 := hide (X11.out.later hb100)
      replace Xx0 := hide (Xx0.out.later hb100)
      replace X45 := hide (X45.out.later hb100)
      replace X61 := hide (X61.out.later hb100)
      replace X73 := hide (X73.out.later hb100)
      replace Ox0 := hide (own_below Ox0.out hb100)
      replace Oy0 := hide (own_below Oy0.out hb100)
      have z104 := hide hb100.size
      replace hB := hide (hB.out.trans (hb100.mono hB.out.size))
      clear hb100
      have k109 := X73.out.cell
      have M107 := hide (markRope_own Oy0.out (by omega))
      have em0 : decide (((1 + R0.length * 5 : Nat) : Int) < 0) = false := by rw [decide_eq_false_iff_not]; omega
      obtain ⟨KM, hKM⟩ : ∃ KM : Int, ((1 + R0.length * 5 : Nat) : Int) = KM := ⟨_, rfl⟩
      rw [hKM] at em0 M107
      have HKM := hide hKM
      clear hKM
      have em1 : (KM != KM) = false := by simp
      go_wp2_with fail
      refine (M107.out).mono ?_
      rintro e w105 ⟨rfl, hg106, mk108⟩
      clear M107 k109
      clear Oy0
      replace X5 := hide (X5.out.grown hg106 (fun e => by have u0 := Ly0.out _ e; have q0 := z6.out; have q1 := e4.out; have q2 := z12.out; have q3 := e10.out; have q4 := z16.out; have q5 := z21.out; have q6 := z30.out; have q7 := z40.out; have q8 := z46.out; have q9 := e44.out; have q10 := z56.out; have q11 := z62.out; have q12 := e60.out; have q13 := z68.out; have q14 := z74.out; have q15 := e72.out; have q16 := z80.out; have q17 := z84.out; have q18 := z88.out; have q19 := z93.out; have q20 := z98.out; have q21 := z104.out; omega))
      replace X11 := hide (X11.out.grown hg106 (fun e => by have u0 := Ly0.out _ e; have q0 := z6.out; have q1 := e4.out; have q2 := z12.out; have q3 := e10.out; have q4 := z16.out; have q5 := z21.out; have q6 := z30.out; have q7 := z40.out; have q8 := z46.out; have q9 := e44.out; have q10 := z56.out; have q11 := z62.out; have q12 := e60.out; have q13 := z68.out; have q14 := z74.out; have q15 := e72.out; have q16 := z80.out; have q17 := z84.out; have q18 := z88.out; have q19 := z93.out; have q20 := z98.out; have q21 := z104.out; omega))
      replace Xx0 := hide (Xx0.out.grown hg106 (fun e => by have u0 := Ly0.out _ e; have u1 := Ix0.out; have q0 := z6.out; have q1 := e4.out; have q2 := z12.out; have q3 := e10.out; have q4 := z16.out; have q5 := z21.out; have q6 := z30.out; have q7 := z40.out; have q8 := z46.out; have q9 := e44.out; have q10 := z56.out; have q11 := z62.out; have q12 := e60.out; have q13 := z68.out; have q14 := z74.out; have q15 := e72.out; have q16 := z80.out; have q17 := z84.out; have q18 := z88.out; have q19 := z93.out; have q20 := z98.out; have q21 := z104.out; omega))
      replace X45 := hide (X45.out.grown hg106 (fun e => by have u0 := Ly0.out _ e; have q0 := z6.out; have q1 := e4.out; have q2 := z12.out; have q3 := e10.out; have q4 := z16.out; have q5 := z21.out; have q6 := z30.out; have q7 := z40.out; have q8 := z46.out; have q9 := e44.out; have q10 := z56.out; have q11 := z62.out; have q12 := e60.out; have q13 := z68.out; have q14 := z74.out; have q15 := e72.out; have q16 := z80.out; have q17 := z84.out; have q18 := z88.out; have q19 := z93.out; have q20 := z98.out; have q21 := z104.out; omega))
      replace X61 := hide (X61.out.grown hg106 (fun e => by have u0 := Ly0.out _ e; have q0 := z6.out; have q1 := e4.out; have q2 := z12.out; have q3 := e10.out; have q4 := z16.out; have q5 := z21.out; have q6 := z30.out; have q7 := z40.out; have q8 := z46.out; have q9 := e44.out; have q10 := z56.out; have q11 := z62.out; have q12 := e60.out; have q13 := z68.out; have q14 := z74.out; have q15 := e72.out; have q16 := z80.out; have q17 := z84.out; have q18 := z88.out; have q19 := z93.out; have q20 := z98.out; have q21 := z104.out; omega))
      replace X73 := hide (X73.out.grown hg106 (fun e => by have u0 := Ly0.out _ e; have q0 := z6.out; have q1 := e4.out; have q2 := z12.out; have q3 := e10.out; have q4 := z16.out; have q5 := z21.out; have q6 := z30.out; have q7 := z40.out; have q8 := z46.out; have q9 := e44.out; have q10 := z56.out; have q11 := z62.out; have q12 := e60.out; have q13 := z68.out; have q14 := z74.out; have q15 := e72.out; have q16 := z80.out; have q17 := z84.out; have q18 := z88.out; have q19 := z93.out; have q20 := z98.out; have q21 := z104.out; omega))
      replace Ox0 := hide (own_grown Ox0.out hg106 (fun y hy e => by have u0 := Ly0.out _ e; have u2 := Lx0.out y hy; have q0 := z6.out; have q1 := e4.out; have q2 := z12.out; have q3 := e10.out; have q4 := z16.out; have q5 := z21.out; have q6 := z30.out; have q7 := z40.out; have q8 := z46.out; have q9 := e44.out; have q10 := z56.out; have q11 := z62.out; have q12 := e60.out; have q13 := z68.out; have q14 := z74.out; have q15 := e72.out; have q16 := z80.out; have q17 := z84.out; have q18 := z88.out; have q19 := z93.out; have q20 := z98.out; have q21 := z104.out; omega))
      have z110 := hide hg106.size
      replace hB := hide (hB.out.grown hg106 hB.out.size (fun y e => by have u0 := Ly0.out _ e; have q0 := z6.out; have q1 := e4.out; have q2 := z12.out; have q3 := e10.out; have q4 := z16.out; have q5 := z21.out; have q6 := z30.out; have q7 := z40.out; have q8 := z46.out; have q9 := e44.out; have q10 := z56.out; have q11 := z62.out; have q12 := e60.out; have q13 := z68.out; have q14 := z74.out; have q15 := e72.out; have q16 := z80.out; have q17 := z84.out; have q18 := z88.out; have q19 := z93.out; have q20 := z98.out; have q21 := z104.out; omega))
      clear hg106
      have Y111 := hide mk108
      clear mk108
      have k115 := X73.out.cell
      have D114 := hide (heldRope_of Y111.out (by omega))
      rw [HKM.out] at D114
      go_wp2_with fail
      refine (D114.out).mono ?_
      rintro e w112 ⟨rfl, hb113⟩
      clear D114 k115
      replace X5 := hide (X5.out.later hb113)
      replace X11 := hide (X11.out.later hb113)
      replace Xx0 := hide (Xx0.out.later hb113)
      replace X45 := hide (X45.out.later hb113)
      replace X61 := hide (X61.out.later hb113)
      replace X73 := hide (X73.out.later hb113)
      replace Y111 := hide (Y111.out.later hb113)
      replace Ox0 := hide (own_below Ox0.out hb113)
      have z116 := hide hb113.size
      replace hB := hide (hB.out.trans (hb113.mono hB.out.size))
      clear hb113
      have KC117 : Hid (∀ w', Below w112.heap.size w112 w' → w'.cell? ⟨w.heap.size, 0, none⟩ = some (.slice al ml cl) ∧ w'.cell? ⟨w.heap.size + 1, 0, none⟩ = some (.slice am mm cm)) := hide (fun w' hb => ⟨(X5.out.later hb).cell, (X11.out.later hb).cell⟩)
      have CT118 := hide (fun w' (hb : Below w112.heap.size w112 w') => TCl.out w' (HAl.out.later (hB.out.trans (hb.mono hB.out.size))))
      have CT119 := hide (fun w' (hb : Below w112.heap.size w112 w') => TCm.out w' (HAm.out.later (hB.out.trans (hb.mono hB.out.size))))
      have TB120 := hide (fun w' (hb : Below w112.heap.size w112 w') => HTb.out.below (hB.out.trans (hb.mono hB.out.size)))
      go_wp2_with fail
      go_cut [15, 16] from 94 to 101 (fun vb v7 wx => ∃ c a cc, vb = .pointer (some ⟨c, 0, none⟩) ∧ v7 = .bool R1 ∧ Hid (JnQ 30 w112 wx c R0.length a cc R0))
      case first =>
        go_region_held3 (fun w' => w'.cell? ⟨w.heap.size, 0, none⟩ = some (.slice al ml cl) ∧ w'.cell? ⟨w.heap.size + 1, 0, none⟩ = some (.slice am mm cm))
          (first | assumption | exact KC117.out _ (Below.refl _ _) | exact KC117.out _ (Below.refl _ _).drew | exact KC117.out _ ((Below.refl _ _).drew.alloc (Nat.le_refl _) _) | exact KC117.out _ hcq121 | exact KC117.out _ (hcq121.alloc hcq121.size _) | exact KC117.out _ (hcq121.setCell (by first | exact hz2q121 | exact hz1q121 | exact Nat.le_refl _) _) | exact KC117.out _ hbq121 | exact KC117.out _ (hbq121.alloc hbq121.size _) | exact KC117.out _ haq121 | exact KC117.out _ (haq121.alloc haq121.size _))
          (first
            | (go_at_call 15; refine (HI.out _ ⟨((cp0q121.out.later hp2q121).later (by first | exact Below.refl _ _ | exact (Below.refl _ _).alloc (Nat.le_refl _) _)).inn (by omega), hll, HTXl.out⟩ ⟨(cp1q121.out.later (by first | exact Below.refl _ _ | exact (Below.refl _ _).alloc (Nat.le_refl _) _)).inn (by omega), hlm, HTXm.out⟩ (TB120.out _ (by first | exact hbq121 | exact hbq121.alloc hbq121.size _))).mono ?_; rintro e wcq121 ⟨vz0, rfl, oz0, hx3⟩; obtain ⟨az0, cz0, rfl, -⟩ := own_shp oz0; have Oz0 := hide oz0; have SXq121 := hide hx3.size; have hcq121 : Below w112.heap.size w112 wcq121 := hbq121.trans ((show Below wbq121.heap.size wbq121 wcq121 from (by first | exact hx3 | exact ((Below.refl _ _).alloc (Nat.le_refl _) _).trans (hx3.mono (by simp)))).mono hbq121.size); have SYq121 : Hid (wbq121.heap.size ≤ wcq121.heap.size) := hide (by have q := hx3.size; first | exact q | (simp at q; omega)); (first | have Yq121 := hide ((CellT.later (CellT.later (CellT.later (show CellT 30 (w112.drew.alloc (.cells #[.slice none 0 0] 30)) w112.heap.size (.slice none 0 0) from CellT.new 30 w112.drew (.slice none 0 0)) hk1q121) hk2q121) hx3)) | have Yq121 := hide ((CellT.later (CellT.later (CellT.new 30 waq121 (.slice none 0 0)) hk2q121) hx3)) | have Yq121 := hide ((CellT.later (CellT.new 30 wbq121 (.slice none 0 0)) hx3)) | have Yq121 := hide trivial); (first | (have kxq121 := Yq121.out.cell; have fxq121 := frozen_of_row Yq121.out 0) | skip); clear hx3 oz0)
            | (go_at_call 11; refine (CT119.out _ (by first | exact haq121 | exact haq121.alloc haq121.size _)).mono ?_; rintro e wbq121 ⟨g1q121, rfl, hg1q121, cpyq121, hk2q121⟩; have cp1q121 := hide cpyq121; have hp2q121 : Below waq121.heap.size waq121 wbq121 := (by first | exact hk2q121 | exact ((Below.refl _ _).alloc (Nat.le_refl _) _).trans (hk2q121.mono (by simp))); have hbq121 : Below w112.heap.size w112 wbq121 := haq121.trans (hp2q121.mono haq121.size); have hz2q121 : w112.heap.size ≤ wbq121.heap.size := hbq121.size; clear cpyq121)
            | (go_at_call 11; refine (CT118.out _ (by first | exact (Below.refl _ _).drew | exact (Below.refl _ _).drew.alloc (Nat.le_refl _) _)).mono ?_; rintro e waq121 ⟨g0q121, rfl, hg0q121, cpxq121, hk1q121⟩; have cp0q121 := hide cpxq121; have haq121 : Below w112.heap.size w112 waq121 := (by first | exact (Below.refl _ _).drew.trans hk1q121 | exact ((Below.refl _ _).drew.alloc (Nat.le_refl _) _).trans (hk1q121.mono (by simp))); have hz1q121 : w112.heap.size ≤ waq121.heap.size := haq121.size; clear cpxq121))
        all_goals
          go_wp2_with fail
          go_meet
          case rel => first | exact ⟨_, _, _, rfl, rfl, hide (jn_new 30 hcq121 hbq121.size Oz0.out)⟩ | exact ⟨_, _, _, rfl, rfl, hide (jn_new 30 hcq121 (by have q1 := hk1q121.size; have q2 := hk2q121.size; have q3 := haq121.size; have q4 := hbq121.size; (try simp at q1); (try simp at q2); (try simp); omega) Oz0.out)⟩ | exact ⟨_, _, _, rfl, rfl, hide (jn_set 30 hcq121 (by have q1 := hk1q121.size; have q2 := hk2q121.size; have q3 := haq121.size; have q4 := hbq121.size; (try simp at q1); (try simp at q2); (try simp); omega) Oz0.out Yq121.out)⟩
      case rest =>
      obtain ⟨bz0, az0, cz0, rfl, rfl, HQq121⟩ := hcut
      have hb123 := HQq121.out.2.2.2.2
      have Xz0 := hide HQq121.out.1
      have Oz0 := hide HQq121.out.2.2.1
      have Dz0 := hide HQq121.out.2.2.2.1
      have Iz0 : Hid (w112.heap.size ≤ bz0 ∧ bz0 < wc.heap.size) := hide ⟨HQq121.out.2.1, Xz0.out.lt⟩
      have Lz0 : Hid (∀ y, (Value.slice az0 R0.length cz0).ownBlock = some y → w112.heap.size ≤ y ∧ y < wc.heap.size) := hide (fun y hy => World.ownsRow.lt Oz0.out y hy)
      clear HQq121 KC117 CT118 CT119 TB120
      obtain ⟨w124, hw124⟩ : ∃ wq, wc = wq := ⟨_, rfl⟩
      rw [hw124] at hb123 Xz0 Oz0 Iz0 Lz0 ⊢
      clear hw124
      replace X5 := hide (X5.out.later hb123)
      replace X11 := hide (X11.out.later hb123)
      replace Xx0 := hide (Xx0.out.later hb123)
      replace X45 := hide (X45.out.later hb123)
      replace X61 := hide (X61.out.later hb123)
      replace X73 := hide (X73.out.later hb123)
      replace Y111 := hide (Y111.out.later hb123)
      replace Ox0 := hide (own_below Ox0.out hb123)
      have z125 := hide hb123.size
      replace hB := hide (hB.out.trans (hb123.mono hB.out.size))
      clear hb123
      have k129 := Xz0.out.cell
      have k130 := Xx0.out.cell
      have E128 := hide (eqRope_own Oz0.out Ox0.out (by omega))
      go_wp2_with fail
      refine (E128.out).mono ?_
      rintro e w126 ⟨rfl, hb127⟩
      clear E128 k129 k130
      replace X5 := hide (X5.out.later hb127)
      replace X11 := hide (X11.out.later hb127)
      replace Xx0 := hide (Xx0.out.later hb127)
      replace X45 := hide (X45.out.later hb127)
      replace X61 := hide (X61.out.later hb127)
      replace X73 := hide (X73.out.later hb127)
      replace Xz0 := hide (Xz0.out.later hb127)
      replace Y111 := hide (Y111.out.later hb127)
      replace Ox0 := hide (own_below Ox0.out hb127)
      replace Oz0 := hide (own_below Oz0.out hb127)
      have z131 := hide hb127.size
      replace hB := hide (hB.out.trans (hb127.mono hB.out.size))
      clear hb127
      have k135 := X73.out.cell
      have D134 := hide (heldRope_of Y111.out (by omega))
      rw [HKM.out] at D134
      go_wp2_with fail
      refine (D134.out).mono ?_
      rintro e w132 ⟨rfl, hb133⟩
      clear D134 k135
      replace X5 := hide (X5.out.later hb133)
      replace X11 := hide (X11.out.later hb133)
      replace Xx0 := hide (Xx0.out.later hb133)
      replace X45 := hide (X45.out.later hb133)
      replace X61 := hide (X61.out.later hb133)
      replace X73 := hide (X73.out.later hb133)
      replace Xz0 := hide (Xz0.out.later hb133)
      replace Y111 := hide (Y111.out.later hb133)
      replace Ox0 := hide (own_below Ox0.out hb133)
      replace Oz0 := hide (own_below Oz0.out hb133)
      have z136 := hide hb133.size
      replace hB := hide (hB.out.trans (hb133.mono hB.out.size))
      clear hb133
      go_wp2
      go_ret
      exact ⟨rfl, hB.out⟩
    · have hbz0 : Below w.heap.size w w := Below.refl _ _
      have hbbl : Below w.heap.size w (w.alloc (.cells #[.slice al ml cl] 24)) := hbz0.alloc (Nat.le_refl _) _
      have hbbm : Below w.heap.size w ((w.alloc (.cells #[.slice al ml cl] 24)).alloc (.cells #[.slice am mm cm] 24)) := hbbl.alloc (by simp <;> omega) _
      have HB0 := hide hbbm
      have CBm : Hid (CellT 24 ((w.alloc (.cells #[.slice al ml cl] 24)).alloc (.cells #[.slice am mm cm] 24)) (w.heap.size + 1) (.slice am mm cm)) := hide (by have := CellT.new 24 (w.alloc (.cells #[.slice al ml cl] 24)) (.slice am mm cm); rwa [show (w.alloc (.cells #[.slice al ml cl] 24)).heap.size = w.heap.size + 1 by simp] at this)
      have Zl := hide (fun w' (hb : Below w.heap.size w w') => szRope_from (hal.later hb) hrl (1048576) (by omega))
      rw [if_pos fsl] at Zl
      have Zm := hide (fun w' (hb : Below w.heap.size w w') => szRope_from (ham.later hb) hrm (1048576 - szBon l) (by omega))
      rw [if_neg fsm] at Zm
      obtain ⟨Kl, hKl⟩ : ∃ K : Nat, 1048576 - szBon l = K := ⟨_, rfl⟩
      rw [hKl] at Zl Zm
      have el : decide ((Kl : Int) < 0) = false := by rw [decide_eq_false_iff_not]; omega
      clear hKl
      clear hbz0 hbbl hbbm hal hrl ham hrm fsl fsm
      go_enter Tryd.func4, Tryd.ntmps4
      go_wp2_with fail
      refine (Zl.out _ HB0.out).mono ?_
      rintro e zl ⟨rfl, hzl⟩
      have ckm := (CBm.out.later hzl).cell
      have HZl : Hid (Below w.heap.size w zl) := hide (HB0.out.trans (hzl.mono HB0.out.size))
      clear hzl
      go_wp2_with fail
      refine (Zm.out _ HZl.out).mono ?_
      rintro e zm ⟨rfl, hzm⟩
      have HZm : Hid (Below w.heap.size w zm) := hide (HZl.out.trans (hzm.mono HZl.out.size))
      clear hzm
      go_wp2
      go_ret
      exact ⟨rfl, HZm.out⟩
  · have hbz0 : Below w.heap.size w w := Below.refl _ _
    have hbbl : Below w.heap.size w (w.alloc (.cells #[.slice al ml cl] 24)) := hbz0.alloc (Nat.le_refl _) _
    have hbbm : Below w.heap.size w ((w.alloc (.cells #[.slice al ml cl] 24)).alloc (.cells #[.slice am mm cm] 24)) := hbbl.alloc (by simp <;> omega) _
    have HB0 := hide hbbm
    have Zl := hide (fun w' (hb : Below w.heap.size w w') => szRope_from (hal.later hb) hrl (1048576) (by omega))
    rw [if_neg fsl] at Zl
    clear hbz0 hbbl hbbm hal hrl ham hrm fsl
    go_enter Tryd.func4, Tryd.ntmps4
    go_wp2_with fail
    refine (Zl.out _ HB0.out).mono ?_
    rintro e zl ⟨rfl, hzl⟩
    have HZl : Hid (Below w.heap.size w zl) := hide (HB0.out.trans (hzl.mono HB0.out.size))
    clear hzl
    go_wp2
    go_ret
    exact ⟨rfl, HZl.out⟩
end Go.Proofs.YtpdngncioblibabDoor
