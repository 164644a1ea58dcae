/- The model's MergeSeqs. -/
import Derived.Test.YtnhooalibadeeabDoorSqA2
import Derived.Test.YtnhooalibadeeabDoorSqA5
import Derived.Test.YtnhooalibadeeabDoorSqL3
import Derived.Test.YtnhooalibadeeabDoorSeq4
import Derived.Deep.Cut
import Derived.Deep.CutRange
import Derived.Deep.RegionHeld3
set_option linter.unusedVariables false
namespace Go.Proofs.YtnhooalibadeeabDoor
open Go.RowKit
open Doc1

theorem boxes3S (w : World) (x y z : Value) : ∃ w1, w1 = ((w.alloc (.cells #[x] 28)).alloc (.cells #[y] 28)).alloc (.cells #[z] 28) ∧ w1.heap.size = w.heap.size + 3 ∧ Below w.heap.size w w1 ∧ CellR w1 w.heap.size x ∧ CellR w1 (w.heap.size + 1) y ∧ CellR w1 (w.heap.size + 2) z := by
  obtain ⟨s1, b1, k0, k1⟩ := boxesS2 w x y
  refine ⟨_, rfl, by simp, b1.alloc (by simp <;> omega) _, k0.later ((Below.refl _ _).alloc (Nat.le_refl _) _), k1.later ((Below.refl _ _).alloc (Nat.le_refl _) _), ?_⟩
  have := CellR.new ((w.alloc (.cells #[x] 28)).alloc (.cells #[y] 28)) z
  rwa [s1] at this
/-- Between two rounds: what is merged already, and what is left. -/
structure MGI (l m : List Am) (w3 : World) (O i k : Nat) (v : Value) (out : List Am) (wr : World) : Prop where
  box : CellR wr O v
  own : AmOwn wr (O + 1) v out
  bel : Below O w3 wr
  len : out.length ≤ i + k
  eq : mrg l m = (mrg (l.drop i) (m.drop k)).map (out ++ ·)
/-- An atom is put behind what is merged. -/
theorem MGI.next {l m : List Am} {w3 : World} {O i k : Nat} {v : Value} {out : List Am} {wr : World} (h : MGI l m w3 O i k v out wr) (hO : O ≤ w3.heap.size) {i2 k2 : Nat} {z : Am} (hik : i + k + 1 ≤ i2 + k2)
    (he : mrg (l.drop i) (m.drop k) = (mrg (l.drop i2) (m.drop k2)).map (z :: ·)) {w1 w5 : World} {v5 : Value} (hb1 : Below wr.heap.size wr w1) (o5 : AmOwn w5 (O + 1) v5 (out ++ [z])) (g5 : w1.grownBy w5 v.ownBlock) :
    CellR w5 O v ∧ MGI l m w3 O i2 k2 v5 (out ++ [z]) (w5.setCell ⟨O, 0, none⟩ v5) := by
  have hlo : ∀ y, v.ownBlock = some y → O + 1 ≤ y := fun y hy => (World.ownsRow.lt h.own y hy).1
  have hol := h.box.lt
  have b1 := h.box.later hb1
  have e5 : CellR w5 O v := by
    unfold CellR
    rw [g5.block O b1.lt (fun c => by have := hlo O c.symm; omega)]
    exact b1
  refine ⟨e5, e5.put _, own_aside o5 (by omega) _ _, ?_, by have := h.len; simp; omega, ?_⟩
  · exact ((h.bel.trans (hb1.mono (Nat.le_of_lt hol))).grown g5 (by have := hb1.size; omega) (fun y hy => by have := hlo y hy; omega)).setCell (p := ⟨O, 0, none⟩) (Nat.le_refl _) _
  · rw [h.eq, he, Option.map_map]
    congr 1
    funext t
    simp
theorem at6 {w w' : World} {B g i : Nat} {x : Am} (hb : Below B w w') (hg : g < B) (h : w.cell? ⟨g, i * 6, none⟩ = some (.int .i64 x.time) ∧ w.cell? ⟨g, i * 6 + 1, none⟩ = some (.int .i64 x.actor) ∧ w.cell? ⟨g, i * 6 + 2, none⟩ = some (.int .i64 x.above) ∧ w.cell? ⟨g, i * 6 + 3, none⟩ = some (.int .i64 x.maker) ∧ w.cell? ⟨g, i * 6 + 4, none⟩ = some (.string x.byte) ∧ w.cell? ⟨g, i * 6 + 5, none⟩ = some (.bool x.gone)) : w'.cell? ⟨g, i * 6, none⟩ = some (.int .i64 x.time) ∧ w'.cell? ⟨g, i * 6 + 1, none⟩ = some (.int .i64 x.actor) ∧ w'.cell? ⟨g, i * 6 + 2, none⟩ = some (.int .i64 x.above) ∧ w'.cell? ⟨g, i * 6 + 3, none⟩ = some (.int .i64 x.maker) ∧ w'.cell? ⟨g, i * 6 + 4, none⟩ = some (.string x.byte) ∧ w'.cell? ⟨g, i * 6 + 5, none⟩ = some (.bool x.gone) :=
  ⟨(World.cell?_of_block (a := ⟨g, i * 6, none⟩) (hb.block g hg)).trans h.1, (World.cell?_of_block (a := ⟨g, i * 6 + 1, none⟩) (hb.block g hg)).trans h.2.1, (World.cell?_of_block (a := ⟨g, i * 6 + 2, none⟩) (hb.block g hg)).trans h.2.2.1, (World.cell?_of_block (a := ⟨g, i * 6 + 3, none⟩) (hb.block g hg)).trans h.2.2.2.1, (World.cell?_of_block (a := ⟨g, i * 6 + 4, none⟩) (hb.block g hg)).trans h.2.2.2.2.1, (World.cell?_of_block (a := ⟨g, i * 6 + 5, none⟩) (hb.block g hg)).trans h.2.2.2.2.2⟩
set_option maxRecDepth 100000 in
set_option maxHeartbeats 8000000 in
theorem mergeS {w : World} {a : Option Addr} {cap : Nat} {l : List Am} (h : SIn w a cap l) {a2 : Option Addr} {cap2 : Nat} {m : List Am} (h2 : SIn w a2 cap2 m) :
    Calls Tryd.prog 7 #[.agg #[.slice a l.length cap], .agg #[.slice a2 m.length cap2]] w fun e w' => ∃ v, e = .returned (.tuple #[.agg #[v], .bool (mgB l m)]) ∧ AmOwn w' w.heap.size v (mgL l m) ∧ Below w.heap.size w w' := by
  obtain ⟨w0, hw0, hs0, hb0, hk0, hk1, hk2⟩ := boxes3S w (.slice a l.length cap) (.slice a2 m.length cap2) (.slice none 0 0)
  have HB0 := hide hb0
  have HK0 := hide hk0
  have HK1 := hide hk1
  have HK2 := hide hk2
  have HS0 := hide hs0
  have S1 := hide (goodSeqS (h.later hb0))
  have S2 := hide (fun w' (hb : Below w0.heap.size w0 w') => goodSeqS ((h2.later hb0).later hb))
  have k0 := hk0.cell
  have k1 := hk1.cell
  have H1 := hide h
  have H2 := hide h2
  have hl1 := h.len
  have hl2 := h2.len
  clear h h2 hb0 hk0 hk1 hk2 hs0
  cases hq1 : goodQ l with
  | false =>
    have HRD := hide (mg_no (l := l) (m := m) (.inl hq1))
    rw [HRD.out.1, HRD.out.2]
    rw [hq1] at S1
    clear hq1
    go_enter Tryd.func7, Tryd.ntmps7
    rw [hw0] at k0
    go_wp2_with fail
    rw [← hw0] at k0 ⊢
    clear hw0 k0
    refine S1.out.mono ?_
    rintro e w1 ⟨rfl, hb1⟩
    have HKz := hide (HK2.out.later hb1)
    have HBz := hide (HB0.out.trans (hb1.mono HB0.out.size))
    have k3 := HKz.out.cell
    have f3 := HKz.out.fz
    clear hb1
    go_wp2
    refine bodyPost_ret (results_cell_tmp rfl _ _ (w.heap.size + 2) 28 _ (0, 0) _ (.bool false) rfl rfl (HKz.out.put _) Tryd.underlying28 rfl sizeSeqI) rfl ?_
    exact ⟨_, rfl, World.ownsRow_nil _ _ _ _, HBz.out.setCell (p := ⟨w.heap.size + 2, 0, none⟩) (by show w.heap.size ≤ w.heap.size + 2; omega) _⟩
  | true =>
    cases hq2 : goodQ m with
    | false =>
      have HRD := hide (mg_no (l := l) (m := m) (.inr (.inl hq2)))
      rw [HRD.out.1, HRD.out.2]
      rw [hq1] at S1
      rw [hq2] at S2
      clear hq1 hq2
      go_enter Tryd.func7, Tryd.ntmps7
      rw [hw0] at k0
      go_wp2_with fail
      rw [← hw0] at k0 ⊢
      clear hw0 k0
      refine S1.out.mono ?_
      rintro e w1 ⟨rfl, hb1⟩
      have HB1 := hide (HB0.out.trans (hb1.mono HB0.out.size))
      have HKy := hide (HK2.out.later hb1)
      have k4 := (HK1.out.later hb1).cell
      have S3 := hide (S2.out w1 hb1)
      clear hb1 k1
      go_wp2_with fail
      refine S3.out.mono ?_
      rintro e w2 ⟨rfl, hb2⟩
      have HKz := hide (HKy.out.later hb2)
      have HBz := hide (HB1.out.trans (hb2.mono HB1.out.size))
      have k3 := HKz.out.cell
      have f3 := HKz.out.fz
      clear hb2 k4
      go_wp2
      refine bodyPost_ret (results_cell_tmp rfl _ _ (w.heap.size + 2) 28 _ (0, 0) _ (.bool false) rfl rfl (HKz.out.put _) Tryd.underlying28 rfl sizeSeqI) rfl ?_
      exact ⟨_, rfl, World.ownsRow_nil _ _ _ _, HBz.out.setCell (p := ⟨w.heap.size + 2, 0, none⟩) (by show w.heap.size ≤ w.heap.size + 2; omega) _⟩
    | true =>
      have HNN : Hid (mrg l m = none → mgB l m = false ∧ mgL l m = []) := hide (fun c => mg_no (.inr (.inr c)))
      have HSS : Hid (∀ out, mrg l m = some out → mgB l m = goodQ out ∧ mgL l m = if goodQ out = true then out else []) := hide (fun out c => mg_some hq1 hq2 c)
      have HX1 : Hid (∀ i (hi : i < l.length), l[i].byte.size = 1) := hide (fun i hi => by have := (good_at hq1 hi).1; unfold isOk at this; simp at this; omega)
      have HX2 : Hid (∀ i (hi : i < m.length), m[i].byte.size = 1) := hide (fun i hi => by have := (good_at hq2 hi).1; unfold isOk at this; simp at this; omega)
      have hg1 := good_len hq1
      have hg2l := good_len hq2
      rw [hq1] at S1
      rw [hq2] at S2
      obtain ⟨D, hDD⟩ : ∃ D, mgB l m = D := ⟨_, rfl⟩
      obtain ⟨R, hRR⟩ : ∃ R, mgL l m = R := ⟨_, rfl⟩
      simp only [hDD, hRR] at HNN HSS ⊢
      clear hq1 hq2 hDD hRR
      go_enter Tryd.func7, Tryd.ntmps7
      rw [hw0] at k0
      go_wp2_with fail
      rw [← hw0] at k0 ⊢
      clear hw0 k0
      refine S1.out.mono ?_
      rintro e w1 ⟨rfl, hb1⟩
      have HB1 := hide (HB0.out.trans (hb1.mono HB0.out.size))
      have HJ0 := hide (HK0.out.later hb1)
      have HJ1 := hide (HK1.out.later hb1)
      have HJ2 := hide (HK2.out.later hb1)
      have k4 := HJ1.out.cell
      have S3 := hide (S2.out w1 hb1)
      clear hb1 k1 S1 S2 HK0 HK1 HK2
      go_wp2_with fail
      refine S3.out.mono ?_
      rintro e w2 ⟨rfl, hb2⟩
      have HB2 := hide (HB1.out.trans (hb2.mono HB1.out.size))
      obtain ⟨w3, hw3⟩ : ∃ w3, w3 = w2.alloc (.cells #[.slice none 0 0] 28) := ⟨_, rfl⟩
      have hb3 : Below w2.heap.size w2 w3 := by rw [hw3]; exact (Below.refl _ _).alloc (Nat.le_refl _) _
      have I0 := hide ((HJ0.out.later hb2).later hb3)
      have I1 := hide ((HJ1.out.later hb2).later hb3)
      have I2 := hide ((HJ2.out.later hb2).later hb3)
      have HB3 := hide (HB2.out.trans (hb3.mono HB2.out.size))
      have hO : w.heap.size + 2 < w2.heap.size := (HJ2.out.later hb2).lt
      have HO3 := hide hb3.size
      have R0 : Hid (MGI l m w3 w2.heap.size 0 0 (.slice none 0 0) [] w3) := hide ⟨by rw [hw3]; exact CellR.new _ _, World.ownsRow_nil _ _ _ _, Below.refl _ _, Nat.zero_le _, by simp⟩
      clear hb2 hb3 k4 S3 HJ0 HJ1 HJ2
      go_wp2
      rw [← hw3]
      clear hw3
      go_loopw [7, 8] (fun vi vk wr => ∃ i k : Nat, i ≤ l.length ∧ k ≤ m.length ∧ vi = .int .i64 i ∧ vk = .int .i64 k ∧ ∃ v out, Hid (MGI l m w3 w2.heap.size i k v out wr)) (fun vi vk _ => (l.length - (intOf vi).toNat) + (m.length - (intOf vk).toNat))
      case atStart => exact ⟨0, 0, by omega, by omega, rfl, rfl, _, _, R0⟩
      case round =>
        obtain ⟨i, k, hi, hk, rfl, rfl, v, out, HT⟩ := hrel
        clear R0
        obtain ⟨av, cv, rfl, -⟩ := own_shp HT.out.own
        have HBW := hide (HB3.out.trans (HT.out.bel.mono (by omega)))
        have J0 : Hid (CellR wr w.heap.size (.slice a l.length cap)) := hide (by unfold CellR; rw [HT.out.bel.block _ (by omega)]; exact I0.out)
        have J1 : Hid (CellR wr (w.heap.size + 1) (.slice a2 m.length cap2)) := hide (by unfold CellR; rw [HT.out.bel.block _ (by omega)]; exact I1.out)
        have J2 : Hid (CellR wr (w.heap.size + 2) (.slice none 0 0)) := hide (by unfold CellR; rw [HT.out.bel.block _ (by omega)]; exact I2.out)
        have A1 := hide (H1.out.later HBW.out)
        have A2 := hide (H2.out.later HBW.out)
        have k0 := J0.out.cell
        have k1 := J1.out.cell
        have hlo := HT.out.len
        have hol := HT.out.box.lt
        have qi0 : (0 : Int) ≤ (i : Int) := by omega
        have qk0 : (0 : Int) ≤ (k : Int) := by omega
        by_cases hil : i < l.length
        · have qil : (i : Int) < (l.length : Int) := by omega
          obtain ⟨g, rfl, hg, -⟩ := H1.out.inn.ad (by intro c; rw [c] at hil; simp at hil)
          obtain ⟨g', e', -, hc⟩ := A1.out.inn.ad (by intro c; rw [c] at hil; simp at hil)
          cases e'
          obtain ⟨x, hx⟩ : ∃ x, x = l[i] := ⟨_, rfl⟩
          have hx6' := hc.amat i hil
          rw [← hx] at hx6'
          have hx6 := hide hx6'
          clear hc hx6'
          have qie : ((i : Int) == (l.length : Int)) = false := by rw [beq_eq_false_iff_ne]; omega
          by_cases hkm : k < m.length
          · have qkm : (k : Int) < (m.length : Int) := by omega
            obtain ⟨g2, rfl, hg2, -⟩ := H2.out.inn.ad (by intro c; rw [c] at hkm; simp at hkm)
            obtain ⟨g2', e2', -, hc2⟩ := A2.out.inn.ad (by intro c; rw [c] at hkm; simp at hkm)
            cases e2'
            obtain ⟨y, hy⟩ : ∃ y, y = m[k] := ⟨_, rfl⟩
            have hy6' := hc2.amat k hkm
            rw [← hy] at hy6'
            have hy6 := hide hy6'
            clear hc2 hy6'
            have qke : ((k : Int) == (m.length : Int)) = false := by rw [beq_eq_false_iff_ne]; omega
            have LS := hide (fun w => l17Less_any x y w)
            have LS2 := hide (fun w => l17Less_any y x w)
            unfold amV at LS LS2
            have KS : Hid (∀ w', Below wr.heap.size wr w' → w'.cell? ⟨w.heap.size, 0, none⟩ = some (.slice (some ⟨g, 0, none⟩) l.length cap) ∧ w'.cell? ⟨w.heap.size + 1, 0, none⟩ = some (.slice (some ⟨g2, 0, none⟩) m.length cap2) ∧ w'.cell? ⟨g, i * 6, none⟩ = some (.int .i64 x.time) ∧ w'.cell? ⟨g, i * 6 + 1, none⟩ = some (.int .i64 x.actor) ∧ w'.cell? ⟨g, i * 6 + 2, none⟩ = some (.int .i64 x.above) ∧ w'.cell? ⟨g, i * 6 + 3, none⟩ = some (.int .i64 x.maker) ∧ w'.cell? ⟨g, i * 6 + 4, none⟩ = some (.string x.byte) ∧ w'.cell? ⟨g, i * 6 + 5, none⟩ = some (.bool x.gone) ∧ w'.cell? ⟨g2, k * 6, none⟩ = some (.int .i64 y.time) ∧ w'.cell? ⟨g2, k * 6 + 1, none⟩ = some (.int .i64 y.actor) ∧ w'.cell? ⟨g2, k * 6 + 2, none⟩ = some (.int .i64 y.above) ∧ w'.cell? ⟨g2, k * 6 + 3, none⟩ = some (.int .i64 y.maker) ∧ w'.cell? ⟨g2, k * 6 + 4, none⟩ = some (.string y.byte) ∧ w'.cell? ⟨g2, k * 6 + 5, none⟩ = some (.bool y.gone)) := hide (fun w' hb => by have X := at6 hb (by omega) hx6.out; have Y := at6 hb (by omega) hy6.out; exact ⟨(J0.out.later hb).cell, (J1.out.later hb).cell, X.1, X.2.1, X.2.2.1, X.2.2.2.1, X.2.2.2.2.1, X.2.2.2.2.2, Y⟩)
            cases h1 : lt2 x y with
            | true =>
              have HMG : Hid (mrg (l.drop i) (m.drop k) = (mrg (l.drop (i + 1)) (m.drop k)).map (x :: ·)) := hide (by rw [hx]; exact mg_l hil (.inr ⟨hkm, by rw [← hx, ← hy]; exact h1⟩))
              rw [h1] at LS
              clear LS2 h1 hx hy HNN HSS
              go_wp2_with fail
              refine wp_region_held_drew (S := fun w' => w'.cell? ⟨w.heap.size, 0, none⟩ = some (.slice (some ⟨g, 0, none⟩) l.length cap) ∧ w'.cell? ⟨w.heap.size + 1, 0, none⟩ = some (.slice (some ⟨g2, 0, none⟩) m.length cap2) ∧ w'.cell? ⟨g, i * 6, none⟩ = some (.int .i64 x.time) ∧ w'.cell? ⟨g, i * 6 + 1, none⟩ = some (.int .i64 x.actor) ∧ w'.cell? ⟨g, i * 6 + 2, none⟩ = some (.int .i64 x.above) ∧ w'.cell? ⟨g, i * 6 + 3, none⟩ = some (.int .i64 x.maker) ∧ w'.cell? ⟨g, i * 6 + 4, none⟩ = some (.string x.byte) ∧ w'.cell? ⟨g, i * 6 + 5, none⟩ = some (.bool x.gone) ∧ w'.cell? ⟨g2, k * 6, none⟩ = some (.int .i64 y.time) ∧ w'.cell? ⟨g2, k * 6 + 1, none⟩ = some (.int .i64 y.actor) ∧ w'.cell? ⟨g2, k * 6 + 2, none⟩ = some (.int .i64 y.above) ∧ w'.cell? ⟨g2, k * 6 + 3, none⟩ = some (.int .i64 y.maker) ∧ w'.cell? ⟨g2, k * 6 + 4, none⟩ = some (.string y.byte) ∧ w'.cell? ⟨g2, k * 6 + 5, none⟩ = some (.bool y.gone)) (by kernel_rfl) (KS.out _ (Below.refl _ _).drew) (fun hS => ?_)
              refine wpAnyH_take (i := 0) (v := .int .i64 (k : Int)) (List.getElem?_toArray.trans rfl) (by kernel_rfl) (by kernel_rfl) (by kernel_rfl) (fun _ _ _ h => h) (Or.inl ⟨by rfl, fun w' hw => by go_simp⟩) hS ?_
              try simp only [Act.put, List.setIfInBounds_toArray, List.set_cons_zero, List.set_cons_succ]
              refine wpAnyH_take (i := 1) (v := .pointer (some ⟨w.heap.size + 1, 0, none⟩)) (List.getElem?_toArray.trans rfl) (by kernel_rfl) (by kernel_rfl) (by kernel_rfl) (fun _ _ _ h => h) (Or.inl ⟨by rfl, fun w' hw => by go_simp⟩) hS ?_
              try simp only [Act.put, List.setIfInBounds_toArray, List.set_cons_zero, List.set_cons_succ]
              refine wpAnyH_take (i := 2) (v := .slice (some ⟨g2, 0, none⟩) m.length cap2) (List.getElem?_toArray.trans rfl) (by kernel_rfl) (by kernel_rfl) (by kernel_rfl) (fun _ _ _ h => h) (Or.inl ⟨by rfl, fun w' hw => by obtain ⟨r0, r1, x0, x1, x2, x3, x4, x5, y0, y1, y2, y3, y4, y5⟩ := hw; go_simp⟩) hS ?_
              try simp only [Act.put, List.setIfInBounds_toArray, List.set_cons_zero, List.set_cons_succ]
              refine wpAnyH_take (i := 3) (v := .int .i64 (m.length : Int)) (List.getElem?_toArray.trans rfl) (by kernel_rfl) (by kernel_rfl) (by kernel_rfl) (fun _ _ _ h => h) (Or.inl ⟨by rfl, fun w' hw => by go_simp⟩) hS ?_
              try simp only [Act.put, List.setIfInBounds_toArray, List.set_cons_zero, List.set_cons_succ]
              refine wpAnyH_take (i := 4) (v := .bool false) (List.getElem?_toArray.trans rfl) (by kernel_rfl) (by kernel_rfl) (by kernel_rfl) (fun _ _ _ h => h) (Or.inl ⟨by rfl, fun w' hw => by go_simp⟩) hS ?_
              try simp only [Act.put, List.setIfInBounds_toArray, List.set_cons_zero, List.set_cons_succ]
              refine wpAnyH_take (i := 5) (v := .bool false) (List.getElem?_toArray.trans rfl) (by kernel_rfl) (by kernel_rfl) (by kernel_rfl) (fun _ _ _ h => h) (Or.inl ⟨by rfl, fun w' hw => by go_simp⟩) hS ?_
              try simp only [Act.put, List.setIfInBounds_toArray, List.set_cons_zero, List.set_cons_succ]
              refine wpAnyH_take (i := 6) (v := .int .i64 (i : Int)) (List.getElem?_toArray.trans rfl) (by kernel_rfl) (by kernel_rfl) (by kernel_rfl) (fun _ _ _ h => h) (Or.inl ⟨by rfl, fun w' hw => by go_simp⟩) hS ?_
              try simp only [Act.put, List.setIfInBounds_toArray, List.set_cons_zero, List.set_cons_succ]
              refine wpAnyH_take (i := 7) (v := .pointer (some ⟨w.heap.size, 0, none⟩)) (List.getElem?_toArray.trans rfl) (by kernel_rfl) (by kernel_rfl) (by kernel_rfl) (fun _ _ _ h => h) (Or.inl ⟨by rfl, fun w' hw => by go_simp⟩) hS ?_
              try simp only [Act.put, List.setIfInBounds_toArray, List.set_cons_zero, List.set_cons_succ]
              refine wpAnyH_take (i := 8) (v := .slice (some ⟨g, 0, none⟩) l.length cap) (List.getElem?_toArray.trans rfl) (by kernel_rfl) (by kernel_rfl) (by kernel_rfl) (fun _ _ _ h => h) (Or.inl ⟨by rfl, fun w' hw => by obtain ⟨r0, r1, x0, x1, x2, x3, x4, x5, y0, y1, y2, y3, y4, y5⟩ := hw; go_simp⟩) hS ?_
              try simp only [Act.put, List.setIfInBounds_toArray, List.set_cons_zero, List.set_cons_succ]
              refine wpAnyH_take (i := 9) (v := .int .i64 (l.length : Int)) (List.getElem?_toArray.trans rfl) (by kernel_rfl) (by kernel_rfl) (by kernel_rfl) (fun _ _ _ h => h) (Or.inl ⟨by rfl, fun w' hw => by go_simp⟩) hS ?_
              try simp only [Act.put, List.setIfInBounds_toArray, List.set_cons_zero, List.set_cons_succ]
              refine wpAnyH_take (i := 10) (v := .bool true) (List.getElem?_toArray.trans rfl) (by kernel_rfl) (by kernel_rfl) (by kernel_rfl) (fun _ _ _ h => h) (Or.inl ⟨by rfl, fun w' hw => by go_simp⟩) hS ?_
              try simp only [Act.put, List.setIfInBounds_toArray, List.set_cons_zero, List.set_cons_succ]
              refine wpAnyH_take (i := 11) (v := .bool true) (List.getElem?_toArray.trans rfl) (by kernel_rfl) (by kernel_rfl) (by kernel_rfl) (fun _ _ _ h => h) (Or.inl ⟨by rfl, fun w' hw => by go_simp⟩) hS ?_
              try simp only [Act.put, List.setIfInBounds_toArray, List.set_cons_zero, List.set_cons_succ]
              refine wpAnyH_take (i := 12) (v := .pointer (some ⟨w.heap.size, 0, none⟩)) (List.getElem?_toArray.trans rfl) (by kernel_rfl) (by kernel_rfl) (by kernel_rfl) (fun _ _ _ h => h) (Or.inl ⟨by rfl, fun w' hw => by go_simp⟩) hS ?_
              try simp only [Act.put, List.setIfInBounds_toArray, List.set_cons_zero, List.set_cons_succ]
              refine wpAnyH_take (i := 13) (v := .slice (some ⟨g, 0, none⟩) l.length cap) (List.getElem?_toArray.trans rfl) (by kernel_rfl) (by kernel_rfl) (by kernel_rfl) (fun _ _ _ h => h) (Or.inl ⟨by rfl, fun w' hw => by obtain ⟨r0, r1, x0, x1, x2, x3, x4, x5, y0, y1, y2, y3, y4, y5⟩ := hw; go_simp⟩) hS ?_
              try simp only [Act.put, List.setIfInBounds_toArray, List.set_cons_zero, List.set_cons_succ]
              refine wpAnyH_take (i := 14) (v := .int .i64 (i : Int)) (List.getElem?_toArray.trans rfl) (by kernel_rfl) (by kernel_rfl) (by kernel_rfl) (fun _ _ _ h => h) (Or.inl ⟨by rfl, fun w' hw => by go_simp⟩) hS ?_
              try simp only [Act.put, List.setIfInBounds_toArray, List.set_cons_zero, List.set_cons_succ]
              refine wpAnyH_take (i := 15) (v := .pointer (some ⟨g, i * 6, none⟩)) (List.getElem?_toArray.trans rfl) (by kernel_rfl) (by kernel_rfl) (by kernel_rfl) (fun _ _ _ h => h) (Or.inl ⟨by rfl, fun w' hw => by go_simp⟩) hS ?_
              try simp only [Act.put, List.setIfInBounds_toArray, List.set_cons_zero, List.set_cons_succ]
              refine wpAnyH_take (i := 16) (v := .agg #[.int .i64 x.time, .int .i64 x.actor, .int .i64 x.above, .int .i64 x.maker, .string x.byte, .bool x.gone]) (List.getElem?_toArray.trans rfl) (by kernel_rfl) (by kernel_rfl) (by kernel_rfl) (fun _ _ _ h => h) (Or.inl ⟨by rfl, fun w' hw => by obtain ⟨r0, r1, x0, x1, x2, x3, x4, x5, y0, y1, y2, y3, y4, y5⟩ := hw; go_simp⟩) hS ?_
              try simp only [Act.put, List.setIfInBounds_toArray, List.set_cons_zero, List.set_cons_succ]
              refine wpAnyH_take (i := 17) (v := .pointer (some ⟨w.heap.size + 1, 0, none⟩)) (List.getElem?_toArray.trans rfl) (by kernel_rfl) (by kernel_rfl) (by kernel_rfl) (fun _ _ _ h => h) (Or.inl ⟨by rfl, fun w' hw => by go_simp⟩) hS ?_
              try simp only [Act.put, List.setIfInBounds_toArray, List.set_cons_zero, List.set_cons_succ]
              refine wpAnyH_take (i := 18) (v := .slice (some ⟨g2, 0, none⟩) m.length cap2) (List.getElem?_toArray.trans rfl) (by kernel_rfl) (by kernel_rfl) (by kernel_rfl) (fun _ _ _ h => h) (Or.inl ⟨by rfl, fun w' hw => by obtain ⟨r0, r1, x0, x1, x2, x3, x4, x5, y0, y1, y2, y3, y4, y5⟩ := hw; go_simp⟩) hS ?_
              try simp only [Act.put, List.setIfInBounds_toArray, List.set_cons_zero, List.set_cons_succ]
              refine wpAnyH_take (i := 19) (v := .int .i64 (k : Int)) (List.getElem?_toArray.trans rfl) (by kernel_rfl) (by kernel_rfl) (by kernel_rfl) (fun _ _ _ h => h) (Or.inl ⟨by rfl, fun w' hw => by go_simp⟩) hS ?_
              try simp only [Act.put, List.setIfInBounds_toArray, List.set_cons_zero, List.set_cons_succ]
              refine wpAnyH_take (i := 20) (v := .pointer (some ⟨g2, k * 6, none⟩)) (List.getElem?_toArray.trans rfl) (by kernel_rfl) (by kernel_rfl) (by kernel_rfl) (fun _ _ _ h => h) (Or.inl ⟨by rfl, fun w' hw => by go_simp⟩) hS ?_
              try simp only [Act.put, List.setIfInBounds_toArray, List.set_cons_zero, List.set_cons_succ]
              refine wpAnyH_take (i := 21) (v := .agg #[.int .i64 y.time, .int .i64 y.actor, .int .i64 y.above, .int .i64 y.maker, .string y.byte, .bool y.gone]) (List.getElem?_toArray.trans rfl) (by kernel_rfl) (by kernel_rfl) (by kernel_rfl) (fun _ _ _ h => h) (Or.inl ⟨by rfl, fun w' hw => by obtain ⟨r0, r1, x0, x1, x2, x3, x4, x5, y0, y1, y2, y3, y4, y5⟩ := hw; go_simp⟩) hS ?_
              try simp only [Act.put, List.setIfInBounds_toArray, List.set_cons_zero, List.set_cons_succ]
              refine wpAnyH_ready (rs := [22]) (by kernel_rfl) (by simp) ?_
              refine AllReadyH.cons rfl (fun K hK => ?_) AllReadyH.nil
              go_simp
              go_at_call 22
              refine (LS.out _).mono ?_
              rintro e v3 ⟨rfl, hv3⟩; have hbv3 : Below wr.heap.size wr v3 := (Below.refl _ _).drew.trans hv3
              have hS1 := KS.out v3 hbv3
              go_simp
              refine hK.out _ _ hS1 (fun _ => ?_)
              clear hK K
              refine wpAnyH_take (i := 23) (v := .bool true) (List.getElem?_toArray.trans rfl) (by kernel_rfl) (by kernel_rfl) (by kernel_rfl) (fun _ _ _ h => h) (Or.inl ⟨by rfl, fun w' hw => by go_simp⟩) hS1 ?_
              try simp only [Act.put, List.setIfInBounds_toArray, List.set_cons_zero, List.set_cons_succ]
              refine wpAnyH_take (i := 24) (v := .bool true) (List.getElem?_toArray.trans rfl) (by kernel_rfl) (by kernel_rfl) (by kernel_rfl) (fun _ _ _ h => h) (Or.inl ⟨by rfl, fun w' hw => by go_simp⟩) hS1 ?_
              try simp only [Act.put, List.setIfInBounds_toArray, List.set_cons_zero, List.set_cons_succ]
              refine wpAnyH_take (i := 25) (v := .bool true) (List.getElem?_toArray.trans rfl) (by kernel_rfl) (by kernel_rfl) (by kernel_rfl) (fun _ _ _ h => h) (Or.inl ⟨by rfl, fun w' hw => by go_simp⟩) hS1 ?_
              try simp only [Act.put, List.setIfInBounds_toArray, List.set_cons_zero, List.set_cons_succ]
              refine wpAnyH_done (by kernel_rfl) ?_ _
              clear LS KS
              go_wp2_with fail
              have KX : Hid (∀ w', Below w2.heap.size v3 w' → w'.cell? ⟨w.heap.size, 0, none⟩ = some (.slice (some ⟨g, 0, none⟩) l.length cap) ∧ w'.cell? ⟨g, i * 6, none⟩ = some (.int .i64 x.time) ∧ w'.cell? ⟨g, i * 6 + 1, none⟩ = some (.int .i64 x.actor) ∧ w'.cell? ⟨g, i * 6 + 2, none⟩ = some (.int .i64 x.above) ∧ w'.cell? ⟨g, i * 6 + 3, none⟩ = some (.int .i64 x.maker) ∧ w'.cell? ⟨g, i * 6 + 4, none⟩ = some (.string x.byte) ∧ w'.cell? ⟨g, i * 6 + 5, none⟩ = some (.bool x.gone)) := hide (fun w' hb => ⟨(World.cell?_of_block (a := ⟨w.heap.size, 0, none⟩) (hb.block (w.heap.size) (by omega))).trans (J0.out.later hbv3).cell, at6 hb (by omega) (at6 (hbv3) (by omega) hx6.out)⟩)
              have BX3 := hide (HT.out.box.later hbv3)
              have OW3 := hide (own_below HT.out.own hbv3)
              have hO3 : w2.heap.size < v3.heap.size := BX3.out.lt
              refine wp_region_held_drew (S := fun w' => w'.cell? ⟨w.heap.size, 0, none⟩ = some (.slice (some ⟨g, 0, none⟩) l.length cap) ∧ w'.cell? ⟨g, i * 6, none⟩ = some (.int .i64 x.time) ∧ w'.cell? ⟨g, i * 6 + 1, none⟩ = some (.int .i64 x.actor) ∧ w'.cell? ⟨g, i * 6 + 2, none⟩ = some (.int .i64 x.above) ∧ w'.cell? ⟨g, i * 6 + 3, none⟩ = some (.int .i64 x.maker) ∧ w'.cell? ⟨g, i * 6 + 4, none⟩ = some (.string x.byte) ∧ w'.cell? ⟨g, i * 6 + 5, none⟩ = some (.bool x.gone)) (by kernel_rfl) (KX.out _ (Below.refl _ _).drew) (fun hS => ?_)
              obtain ⟨wa, hwa⟩ : ∃ w', v3.drew = w' := ⟨_, rfl⟩
              have hBa : Hid (Below w2.heap.size v3 wa) := hide (by rw [← hwa]; exact (Below.refl _ _).drew)
              have hPa : Hid (Below wr.heap.size wr wa) := hide (by rw [← hwa]; exact hbv3.drew)
              have BXa : Hid (CellR wa w2.heap.size (.slice av out.length cv)) := hide (by rw [← hwa]; exact BX3.out)
              have OWa : Hid (AmOwn wa (w2.heap.size + 1) (.slice av out.length cv) out) := hide (by rw [← hwa]; exact OW3.out)
              rw [hwa]
              clear hwa hS
              refine wpAnyH_take (i := 0) (v := .pointer (some ⟨w2.heap.size, 0, none⟩)) (List.getElem?_toArray.trans rfl) (by kernel_rfl) (by kernel_rfl) (by kernel_rfl) (fun _ _ _ h => h) (Or.inl ⟨by rfl, fun w' hw => by go_simp⟩) (KX.out _ hBa.out) ?_
              try simp only [Act.put, List.setIfInBounds_toArray, List.set_cons_zero, List.set_cons_succ]
              refine wpAnyH_take (i := 2) (v := .pointer (some ⟨w.heap.size, 0, none⟩)) (List.getElem?_toArray.trans rfl) (by kernel_rfl) (by kernel_rfl) (by kernel_rfl) (fun _ _ _ h => h) (Or.inl ⟨by rfl, fun w' hw => by go_simp⟩) (KX.out _ hBa.out) ?_
              try simp only [Act.put, List.setIfInBounds_toArray, List.set_cons_zero, List.set_cons_succ]
              refine wpAnyH_take (i := 3) (v := .slice (some ⟨g, 0, none⟩) l.length cap) (List.getElem?_toArray.trans rfl) (by kernel_rfl) (by kernel_rfl) (by kernel_rfl) (fun _ _ _ h => h) (Or.inl ⟨by rfl, fun w' hw => by obtain ⟨r0, x0, x1, x2, x3, x4, x5⟩ := hw; go_simp⟩) (KX.out _ hBa.out) ?_
              try simp only [Act.put, List.setIfInBounds_toArray, List.set_cons_zero, List.set_cons_succ]
              refine wpAnyH_take (i := 4) (v := .int .i64 (i : Int)) (List.getElem?_toArray.trans rfl) (by kernel_rfl) (by kernel_rfl) (by kernel_rfl) (fun _ _ _ h => h) (Or.inl ⟨by rfl, fun w' hw => by go_simp⟩) (KX.out _ hBa.out) ?_
              try simp only [Act.put, List.setIfInBounds_toArray, List.set_cons_zero, List.set_cons_succ]
              refine wpAnyH_take (i := 5) (v := .pointer (some ⟨g, i * 6, none⟩)) (List.getElem?_toArray.trans rfl) (by kernel_rfl) (by kernel_rfl) (by kernel_rfl) (fun _ _ _ h => h) (Or.inl ⟨by rfl, fun w' hw => by go_simp⟩) (KX.out _ hBa.out) ?_
              try simp only [Act.put, List.setIfInBounds_toArray, List.set_cons_zero, List.set_cons_succ]
              refine wpAnyH_take (i := 6) (v := .agg #[.int .i64 x.time, .int .i64 x.actor, .int .i64 x.above, .int .i64 x.maker, .string x.byte, .bool x.gone]) (List.getElem?_toArray.trans rfl) (by kernel_rfl) (by kernel_rfl) (by kernel_rfl) (fun _ _ _ h => h) (Or.inl ⟨by rfl, fun w' hw => by obtain ⟨r0, x0, x1, x2, x3, x4, x5⟩ := hw; go_simp⟩) (KX.out _ hBa.out) ?_
              try simp only [Act.put, List.setIfInBounds_toArray, List.set_cons_zero, List.set_cons_succ]
              refine wpAnyH_ready (rs := [1, 7]) (by kernel_rfl) (by simp) ?_
              refine AllReadyH.cons (List.getElem?_toArray.trans rfl) (fun K hK => ?_) ?_
              · skip
                have kO := BXa.out.cell
                go_simp
                refine hK.out _ _ (KX.out _ hBa.out) (fun _ => ?_)
                clear hK K kO
                try simp only [Act.put, List.setIfInBounds_toArray, List.set_cons_zero, List.set_cons_succ]
                refine wpAnyH_ready (rs := [7]) (by kernel_rfl) (by simp) ?_
                refine AllReadyH.cons (List.getElem?_toArray.trans rfl) (fun K hK => ?_) AllReadyH.nil
                go_simp
                have hBx1 : Hid (Below w2.heap.size v3 (wa.alloc (.cells #[.int .i64 x.time, .int .i64 x.actor, .int .i64 x.above, .int .i64 x.maker, .string x.byte, .bool x.gone] 47))) := hide (hBa.out.alloc (by have := hBa.out.size; omega) _)
                refine hK.out _ _ (KX.out _ hBx1.out) (fun _ => ?_)
                clear hK K
                try simp only [Act.put, List.setIfInBounds_toArray, List.set_cons_zero, List.set_cons_succ]
                have hPx1 : Hid (Below wr.heap.size wr (wa.alloc (.cells #[.int .i64 x.time, .int .i64 x.actor, .int .i64 x.above, .int .i64 x.maker, .string x.byte, .bool x.gone] 47))) := hide (hPa.out.alloc hPa.out.size _)
                have BXx1 : Hid (CellR (wa.alloc (.cells #[.int .i64 x.time, .int .i64 x.actor, .int .i64 x.above, .int .i64 x.maker, .string x.byte, .bool x.gone] 47)) w2.heap.size (.slice av out.length cv)) := hide (keep_al BXa.out)
                have OWx1 : Hid (AmOwn (wa.alloc (.cells #[.int .i64 x.time, .int .i64 x.actor, .int .i64 x.above, .int .i64 x.maker, .string x.byte, .bool x.gone] 47)) (w2.heap.size + 1) (.slice av out.length cv) out) := hide (World.ownsRow.alloc OWa.out _)
                have hM : Hid ((wa.alloc (.cells #[.int .i64 x.time, .int .i64 x.actor, .int .i64 x.above, .int .i64 x.maker, .string x.byte, .bool x.gone] 47)).heap[wa.heap.size]? = some (.cells #[.int .i64 x.time, .int .i64 x.actor, .int .i64 x.above, .int .i64 x.maker, .string x.byte, .bool x.gone] 47)) := hide (heap_alloc_new wa _)
                obtain ⟨x1, hwx1⟩ : ∃ w', wa.alloc (.cells #[.int .i64 x.time, .int .i64 x.actor, .int .i64 x.above, .int .i64 x.maker, .string x.byte, .bool x.gone] 47) = w' := ⟨_, rfl⟩
                rw [hwx1] at hBx1 hPx1 BXx1 OWx1 hM ⊢
                clear hwx1
                refine wpAnyH_ready (rs := [8]) (by kernel_rfl) (by simp) ?_
                refine AllReadyH.cons (List.getElem?_toArray.trans rfl) (fun K hK => ?_) AllReadyH.nil
                refine step_ams rfl _ _ rfl (w2.heap.size + 1) (.slice av out.length cv) out (some ⟨wa.heap.size, 0, none⟩) 1 [x] (by simp <;> omega) rfl rfl OWx1.out (am_at hM.out) (BXx1.out.lt) ?_
                intro v5 w5 own5 grow5
                have NX := hide (HT.out.next HO3.out (i2 := i + 1) (k2 := k) (by omega) HMG.out hPx1.out own5 grow5)
                have hB5 : Hid (Below w2.heap.size v3 w5) := hide (hBx1.out.grown grow5 (by have := hBx1.out.size; omega) (fun y hy => by have := (World.ownsRow.lt OWx1.out y hy).1; omega))
                obtain ⟨a5, c5, he5, -⟩ := own_shp own5
                rw [show (out ++ [x]).length = out.length + 1 by simp] at he5
                subst he5
                have kO := NX.out.1.cell
                have fO := NX.out.1.fz
                clear own5 grow5
                refine hK.out _ _ (KX.out _ hB5.out) (fun _ => ?_)
                clear hK K
                try simp only [Act.put, List.setIfInBounds_toArray, List.set_cons_zero, List.set_cons_succ]
                refine wpAnyH_take (i := 9) (v := .pointer (some ⟨w2.heap.size, 0, none⟩)) (List.getElem?_toArray.trans rfl) (by kernel_rfl) (by kernel_rfl) (by kernel_rfl) (fun _ _ _ h => h) (Or.inl ⟨by rfl, fun w' hw => by go_simp⟩) (KX.out _ hB5.out) ?_
                try simp only [Act.put, List.setIfInBounds_toArray, List.set_cons_zero, List.set_cons_succ]
                refine wpAnyH_ready (rs := [10]) (by kernel_rfl) (by simp) ?_
                refine AllReadyH.cons (List.getElem?_toArray.trans rfl) (fun K hK => ?_) AllReadyH.nil
                go_simp
                refine hK.out _ _ (KX.out _ (hB5.out.setCell (p := ⟨w2.heap.size, 0, none⟩) (Nat.le_refl _) _)) (fun _ => ?_)
                clear hK K kO fO
                try simp only [Act.put, List.setIfInBounds_toArray, List.set_cons_zero, List.set_cons_succ]
                refine wpAnyH_done (by kernel_rfl) ?_ _
                have N5 := hide NX.out.2
                clear NX
                go_wp2
                exact ⟨⟨i + 1, k, by omega, by omega, by first | rfl | go_num, by first | rfl | go_num, _, _, N5⟩, by simp [intOf]; omega⟩
              refine AllReadyH.cons (List.getElem?_toArray.trans rfl) (fun K hK => ?_) AllReadyH.nil
              go_simp
              have hBx2 : Hid (Below w2.heap.size v3 (wa.alloc (.cells #[.int .i64 x.time, .int .i64 x.actor, .int .i64 x.above, .int .i64 x.maker, .string x.byte, .bool x.gone] 47))) := hide (hBa.out.alloc (by have := hBa.out.size; omega) _)
              refine hK.out _ _ (KX.out _ hBx2.out) (fun _ => ?_)
              clear hK K
              try simp only [Act.put, List.setIfInBounds_toArray, List.set_cons_zero, List.set_cons_succ]
              have hPx2 : Hid (Below wr.heap.size wr (wa.alloc (.cells #[.int .i64 x.time, .int .i64 x.actor, .int .i64 x.above, .int .i64 x.maker, .string x.byte, .bool x.gone] 47))) := hide (hPa.out.alloc hPa.out.size _)
              have BXx2 : Hid (CellR (wa.alloc (.cells #[.int .i64 x.time, .int .i64 x.actor, .int .i64 x.above, .int .i64 x.maker, .string x.byte, .bool x.gone] 47)) w2.heap.size (.slice av out.length cv)) := hide (keep_al BXa.out)
              have OWx2 : Hid (AmOwn (wa.alloc (.cells #[.int .i64 x.time, .int .i64 x.actor, .int .i64 x.above, .int .i64 x.maker, .string x.byte, .bool x.gone] 47)) (w2.heap.size + 1) (.slice av out.length cv) out) := hide (World.ownsRow.alloc OWa.out _)
              have hM : Hid ((wa.alloc (.cells #[.int .i64 x.time, .int .i64 x.actor, .int .i64 x.above, .int .i64 x.maker, .string x.byte, .bool x.gone] 47)).heap[wa.heap.size]? = some (.cells #[.int .i64 x.time, .int .i64 x.actor, .int .i64 x.above, .int .i64 x.maker, .string x.byte, .bool x.gone] 47)) := hide (heap_alloc_new wa _)
              obtain ⟨x2, hwx2⟩ : ∃ w', wa.alloc (.cells #[.int .i64 x.time, .int .i64 x.actor, .int .i64 x.above, .int .i64 x.maker, .string x.byte, .bool x.gone] 47) = w' := ⟨_, rfl⟩
              rw [hwx2] at hBx2 hPx2 BXx2 OWx2 hM ⊢
              clear hwx2
              refine wpAnyH_ready (rs := [1]) (by kernel_rfl) (by simp) ?_
              refine AllReadyH.cons (List.getElem?_toArray.trans rfl) (fun K hK => ?_) AllReadyH.nil
              have kO := BXx2.out.cell
              go_simp
              refine hK.out _ _ (KX.out _ hBx2.out) (fun _ => ?_)
              clear hK K kO
              try simp only [Act.put, List.setIfInBounds_toArray, List.set_cons_zero, List.set_cons_succ]
              refine wpAnyH_ready (rs := [8]) (by kernel_rfl) (by simp) ?_
              refine AllReadyH.cons (List.getElem?_toArray.trans rfl) (fun K hK => ?_) AllReadyH.nil
              refine step_ams rfl _ _ rfl (w2.heap.size + 1) (.slice av out.length cv) out (some ⟨wa.heap.size, 0, none⟩) 1 [x] (by simp <;> omega) rfl rfl OWx2.out (am_at hM.out) (BXx2.out.lt) ?_
              intro v5 w5 own5 grow5
              have NX := hide (HT.out.next HO3.out (i2 := i + 1) (k2 := k) (by omega) HMG.out hPx2.out own5 grow5)
              have hB5 : Hid (Below w2.heap.size v3 w5) := hide (hBx2.out.grown grow5 (by have := hBx2.out.size; omega) (fun y hy => by have := (World.ownsRow.lt OWx2.out y hy).1; omega))
              obtain ⟨a5, c5, he5, -⟩ := own_shp own5
              rw [show (out ++ [x]).length = out.length + 1 by simp] at he5
              subst he5
              have kO := NX.out.1.cell
              have fO := NX.out.1.fz
              clear own5 grow5
              refine hK.out _ _ (KX.out _ hB5.out) (fun _ => ?_)
              clear hK K
              try simp only [Act.put, List.setIfInBounds_toArray, List.set_cons_zero, List.set_cons_succ]
              refine wpAnyH_take (i := 9) (v := .pointer (some ⟨w2.heap.size, 0, none⟩)) (List.getElem?_toArray.trans rfl) (by kernel_rfl) (by kernel_rfl) (by kernel_rfl) (fun _ _ _ h => h) (Or.inl ⟨by rfl, fun w' hw => by go_simp⟩) (KX.out _ hB5.out) ?_
              try simp only [Act.put, List.setIfInBounds_toArray, List.set_cons_zero, List.set_cons_succ]
              refine wpAnyH_ready (rs := [10]) (by kernel_rfl) (by simp) ?_
              refine AllReadyH.cons (List.getElem?_toArray.trans rfl) (fun K hK => ?_) AllReadyH.nil
              go_simp
              refine hK.out _ _ (KX.out _ (hB5.out.setCell (p := ⟨w2.heap.size, 0, none⟩) (Nat.le_refl _) _)) (fun _ => ?_)
              clear hK K kO fO
              try simp only [Act.put, List.setIfInBounds_toArray, List.set_cons_zero, List.set_cons_succ]
              refine wpAnyH_done (by kernel_rfl) ?_ _
              have N5 := hide NX.out.2
              clear NX
              go_wp2
              exact ⟨⟨i + 1, k, by omega, by omega, by first | rfl | go_num, by first | rfl | go_num, _, _, N5⟩, by simp [intOf]; omega⟩
            | false =>
              cases h2 : lt2 y x with
              | true =>
                have HMG : Hid (mrg (l.drop i) (m.drop k) = (mrg (l.drop i) (m.drop (k + 1))).map (y :: ·)) := hide (by rw [hy]; exact mg_r hkm (.inr ⟨hil, by rw [← hx, ← hy]; exact h1, by rw [← hx, ← hy]; exact h2⟩))
                rw [h1] at LS
                rw [h2] at LS2
                clear h1 h2 hx hy HNN HSS
                go_wp2_with fail
                refine wp_region_held_drew (S := fun w' => w'.cell? ⟨w.heap.size, 0, none⟩ = some (.slice (some ⟨g, 0, none⟩) l.length cap) ∧ w'.cell? ⟨w.heap.size + 1, 0, none⟩ = some (.slice (some ⟨g2, 0, none⟩) m.length cap2) ∧ w'.cell? ⟨g, i * 6, none⟩ = some (.int .i64 x.time) ∧ w'.cell? ⟨g, i * 6 + 1, none⟩ = some (.int .i64 x.actor) ∧ w'.cell? ⟨g, i * 6 + 2, none⟩ = some (.int .i64 x.above) ∧ w'.cell? ⟨g, i * 6 + 3, none⟩ = some (.int .i64 x.maker) ∧ w'.cell? ⟨g, i * 6 + 4, none⟩ = some (.string x.byte) ∧ w'.cell? ⟨g, i * 6 + 5, none⟩ = some (.bool x.gone) ∧ w'.cell? ⟨g2, k * 6, none⟩ = some (.int .i64 y.time) ∧ w'.cell? ⟨g2, k * 6 + 1, none⟩ = some (.int .i64 y.actor) ∧ w'.cell? ⟨g2, k * 6 + 2, none⟩ = some (.int .i64 y.above) ∧ w'.cell? ⟨g2, k * 6 + 3, none⟩ = some (.int .i64 y.maker) ∧ w'.cell? ⟨g2, k * 6 + 4, none⟩ = some (.string y.byte) ∧ w'.cell? ⟨g2, k * 6 + 5, none⟩ = some (.bool y.gone)) (by kernel_rfl) (KS.out _ (Below.refl _ _).drew) (fun hS => ?_)
                refine wpAnyH_take (i := 0) (v := .int .i64 (k : Int)) (List.getElem?_toArray.trans rfl) (by kernel_rfl) (by kernel_rfl) (by kernel_rfl) (fun _ _ _ h => h) (Or.inl ⟨by rfl, fun w' hw => by go_simp⟩) hS ?_
                try simp only [Act.put, List.setIfInBounds_toArray, List.set_cons_zero, List.set_cons_succ]
                refine wpAnyH_take (i := 1) (v := .pointer (some ⟨w.heap.size + 1, 0, none⟩)) (List.getElem?_toArray.trans rfl) (by kernel_rfl) (by kernel_rfl) (by kernel_rfl) (fun _ _ _ h => h) (Or.inl ⟨by rfl, fun w' hw => by go_simp⟩) hS ?_
                try simp only [Act.put, List.setIfInBounds_toArray, List.set_cons_zero, List.set_cons_succ]
                refine wpAnyH_take (i := 2) (v := .slice (some ⟨g2, 0, none⟩) m.length cap2) (List.getElem?_toArray.trans rfl) (by kernel_rfl) (by kernel_rfl) (by kernel_rfl) (fun _ _ _ h => h) (Or.inl ⟨by rfl, fun w' hw => by obtain ⟨r0, r1, x0, x1, x2, x3, x4, x5, y0, y1, y2, y3, y4, y5⟩ := hw; go_simp⟩) hS ?_
                try simp only [Act.put, List.setIfInBounds_toArray, List.set_cons_zero, List.set_cons_succ]
                refine wpAnyH_take (i := 3) (v := .int .i64 (m.length : Int)) (List.getElem?_toArray.trans rfl) (by kernel_rfl) (by kernel_rfl) (by kernel_rfl) (fun _ _ _ h => h) (Or.inl ⟨by rfl, fun w' hw => by go_simp⟩) hS ?_
                try simp only [Act.put, List.setIfInBounds_toArray, List.set_cons_zero, List.set_cons_succ]
                refine wpAnyH_take (i := 4) (v := .bool false) (List.getElem?_toArray.trans rfl) (by kernel_rfl) (by kernel_rfl) (by kernel_rfl) (fun _ _ _ h => h) (Or.inl ⟨by rfl, fun w' hw => by go_simp⟩) hS ?_
                try simp only [Act.put, List.setIfInBounds_toArray, List.set_cons_zero, List.set_cons_succ]
                refine wpAnyH_take (i := 5) (v := .bool false) (List.getElem?_toArray.trans rfl) (by kernel_rfl) (by kernel_rfl) (by kernel_rfl) (fun _ _ _ h => h) (Or.inl ⟨by rfl, fun w' hw => by go_simp⟩) hS ?_
                try simp only [Act.put, List.setIfInBounds_toArray, List.set_cons_zero, List.set_cons_succ]
                refine wpAnyH_take (i := 6) (v := .int .i64 (i : Int)) (List.getElem?_toArray.trans rfl) (by kernel_rfl) (by kernel_rfl) (by kernel_rfl) (fun _ _ _ h => h) (Or.inl ⟨by rfl, fun w' hw => by go_simp⟩) hS ?_
                try simp only [Act.put, List.setIfInBounds_toArray, List.set_cons_zero, List.set_cons_succ]
                refine wpAnyH_take (i := 7) (v := .pointer (some ⟨w.heap.size, 0, none⟩)) (List.getElem?_toArray.trans rfl) (by kernel_rfl) (by kernel_rfl) (by kernel_rfl) (fun _ _ _ h => h) (Or.inl ⟨by rfl, fun w' hw => by go_simp⟩) hS ?_
                try simp only [Act.put, List.setIfInBounds_toArray, List.set_cons_zero, List.set_cons_succ]
                refine wpAnyH_take (i := 8) (v := .slice (some ⟨g, 0, none⟩) l.length cap) (List.getElem?_toArray.trans rfl) (by kernel_rfl) (by kernel_rfl) (by kernel_rfl) (fun _ _ _ h => h) (Or.inl ⟨by rfl, fun w' hw => by obtain ⟨r0, r1, x0, x1, x2, x3, x4, x5, y0, y1, y2, y3, y4, y5⟩ := hw; go_simp⟩) hS ?_
                try simp only [Act.put, List.setIfInBounds_toArray, List.set_cons_zero, List.set_cons_succ]
                refine wpAnyH_take (i := 9) (v := .int .i64 (l.length : Int)) (List.getElem?_toArray.trans rfl) (by kernel_rfl) (by kernel_rfl) (by kernel_rfl) (fun _ _ _ h => h) (Or.inl ⟨by rfl, fun w' hw => by go_simp⟩) hS ?_
                try simp only [Act.put, List.setIfInBounds_toArray, List.set_cons_zero, List.set_cons_succ]
                refine wpAnyH_take (i := 10) (v := .bool true) (List.getElem?_toArray.trans rfl) (by kernel_rfl) (by kernel_rfl) (by kernel_rfl) (fun _ _ _ h => h) (Or.inl ⟨by rfl, fun w' hw => by go_simp⟩) hS ?_
                try simp only [Act.put, List.setIfInBounds_toArray, List.set_cons_zero, List.set_cons_succ]
                refine wpAnyH_take (i := 11) (v := .bool true) (List.getElem?_toArray.trans rfl) (by kernel_rfl) (by kernel_rfl) (by kernel_rfl) (fun _ _ _ h => h) (Or.inl ⟨by rfl, fun w' hw => by go_simp⟩) hS ?_
                try simp only [Act.put, List.setIfInBounds_toArray, List.set_cons_zero, List.set_cons_succ]
                refine wpAnyH_take (i := 12) (v := .pointer (some ⟨w.heap.size, 0, none⟩)) (List.getElem?_toArray.trans rfl) (by kernel_rfl) (by kernel_rfl) (by kernel_rfl) (fun _ _ _ h => h) (Or.inl ⟨by rfl, fun w' hw => by go_simp⟩) hS ?_
                try simp only [Act.put, List.setIfInBounds_toArray, List.set_cons_zero, List.set_cons_succ]
                refine wpAnyH_take (i := 13) (v := .slice (some ⟨g, 0, none⟩) l.length cap) (List.getElem?_toArray.trans rfl) (by kernel_rfl) (by kernel_rfl) (by kernel_rfl) (fun _ _ _ h => h) (Or.inl ⟨by rfl, fun w' hw => by obtain ⟨r0, r1, x0, x1, x2, x3, x4, x5, y0, y1, y2, y3, y4, y5⟩ := hw; go_simp⟩) hS ?_
                try simp only [Act.put, List.setIfInBounds_toArray, List.set_cons_zero, List.set_cons_succ]
                refine wpAnyH_take (i := 14) (v := .int .i64 (i : Int)) (List.getElem?_toArray.trans rfl) (by kernel_rfl) (by kernel_rfl) (by kernel_rfl) (fun _ _ _ h => h) (Or.inl ⟨by rfl, fun w' hw => by go_simp⟩) hS ?_
                try simp only [Act.put, List.setIfInBounds_toArray, List.set_cons_zero, List.set_cons_succ]
                refine wpAnyH_take (i := 15) (v := .pointer (some ⟨g, i * 6, none⟩)) (List.getElem?_toArray.trans rfl) (by kernel_rfl) (by kernel_rfl) (by kernel_rfl) (fun _ _ _ h => h) (Or.inl ⟨by rfl, fun w' hw => by go_simp⟩) hS ?_
                try simp only [Act.put, List.setIfInBounds_toArray, List.set_cons_zero, List.set_cons_succ]
                refine wpAnyH_take (i := 16) (v := .agg #[.int .i64 x.time, .int .i64 x.actor, .int .i64 x.above, .int .i64 x.maker, .string x.byte, .bool x.gone]) (List.getElem?_toArray.trans rfl) (by kernel_rfl) (by kernel_rfl) (by kernel_rfl) (fun _ _ _ h => h) (Or.inl ⟨by rfl, fun w' hw => by obtain ⟨r0, r1, x0, x1, x2, x3, x4, x5, y0, y1, y2, y3, y4, y5⟩ := hw; go_simp⟩) hS ?_
                try simp only [Act.put, List.setIfInBounds_toArray, List.set_cons_zero, List.set_cons_succ]
                refine wpAnyH_take (i := 17) (v := .pointer (some ⟨w.heap.size + 1, 0, none⟩)) (List.getElem?_toArray.trans rfl) (by kernel_rfl) (by kernel_rfl) (by kernel_rfl) (fun _ _ _ h => h) (Or.inl ⟨by rfl, fun w' hw => by go_simp⟩) hS ?_
                try simp only [Act.put, List.setIfInBounds_toArray, List.set_cons_zero, List.set_cons_succ]
                refine wpAnyH_take (i := 18) (v := .slice (some ⟨g2, 0, none⟩) m.length cap2) (List.getElem?_toArray.trans rfl) (by kernel_rfl) (by kernel_rfl) (by kernel_rfl) (fun _ _ _ h => h) (Or.inl ⟨by rfl, fun w' hw => by obtain ⟨r0, r1, x0, x1, x2, x3, x4, x5, y0, y1, y2, y3, y4, y5⟩ := hw; go_simp⟩) hS ?_
                try simp only [Act.put, List.setIfInBounds_toArray, List.set_cons_zero, List.set_cons_succ]
                refine wpAnyH_take (i := 19) (v := .int .i64 (k : Int)) (List.getElem?_toArray.trans rfl) (by kernel_rfl) (by kernel_rfl) (by kernel_rfl) (fun _ _ _ h => h) (Or.inl ⟨by rfl, fun w' hw => by go_simp⟩) hS ?_
                try simp only [Act.put, List.setIfInBounds_toArray, List.set_cons_zero, List.set_cons_succ]
                refine wpAnyH_take (i := 20) (v := .pointer (some ⟨g2, k * 6, none⟩)) (List.getElem?_toArray.trans rfl) (by kernel_rfl) (by kernel_rfl) (by kernel_rfl) (fun _ _ _ h => h) (Or.inl ⟨by rfl, fun w' hw => by go_simp⟩) hS ?_
                try simp only [Act.put, List.setIfInBounds_toArray, List.set_cons_zero, List.set_cons_succ]
                refine wpAnyH_take (i := 21) (v := .agg #[.int .i64 y.time, .int .i64 y.actor, .int .i64 y.above, .int .i64 y.maker, .string y.byte, .bool y.gone]) (List.getElem?_toArray.trans rfl) (by kernel_rfl) (by kernel_rfl) (by kernel_rfl) (fun _ _ _ h => h) (Or.inl ⟨by rfl, fun w' hw => by obtain ⟨r0, r1, x0, x1, x2, x3, x4, x5, y0, y1, y2, y3, y4, y5⟩ := hw; go_simp⟩) hS ?_
                try simp only [Act.put, List.setIfInBounds_toArray, List.set_cons_zero, List.set_cons_succ]
                refine wpAnyH_ready (rs := [22]) (by kernel_rfl) (by simp) ?_
                refine AllReadyH.cons rfl (fun K hK => ?_) AllReadyH.nil
                go_simp
                go_at_call 22
                refine (LS.out _).mono ?_
                rintro e v3 ⟨rfl, hv3⟩; have hbv3 : Below wr.heap.size wr v3 := (Below.refl _ _).drew.trans hv3
                have hS1 := KS.out v3 hbv3
                go_simp
                refine hK.out _ _ hS1 (fun _ => ?_)
                clear hK K
                refine wpAnyH_take (i := 23) (v := .bool false) (List.getElem?_toArray.trans rfl) (by kernel_rfl) (by kernel_rfl) (by kernel_rfl) (fun _ _ _ h => h) (Or.inl ⟨by rfl, fun w' hw => by go_simp⟩) hS1 ?_
                try simp only [Act.put, List.setIfInBounds_toArray, List.set_cons_zero, List.set_cons_succ]
                refine wpAnyH_take (i := 24) (v := .bool false) (List.getElem?_toArray.trans rfl) (by kernel_rfl) (by kernel_rfl) (by kernel_rfl) (fun _ _ _ h => h) (Or.inl ⟨by rfl, fun w' hw => by go_simp⟩) hS1 ?_
                try simp only [Act.put, List.setIfInBounds_toArray, List.set_cons_zero, List.set_cons_succ]
                refine wpAnyH_take (i := 25) (v := .bool false) (List.getElem?_toArray.trans rfl) (by kernel_rfl) (by kernel_rfl) (by kernel_rfl) (fun _ _ _ h => h) (Or.inl ⟨by rfl, fun w' hw => by go_simp⟩) hS1 ?_
                try simp only [Act.put, List.setIfInBounds_toArray, List.set_cons_zero, List.set_cons_succ]
                refine wpAnyH_done (by kernel_rfl) ?_ _
                go_wp2_with fail
                refine wp_region_held_drew (S := fun w' => w'.cell? ⟨w.heap.size, 0, none⟩ = some (.slice (some ⟨g, 0, none⟩) l.length cap) ∧ w'.cell? ⟨w.heap.size + 1, 0, none⟩ = some (.slice (some ⟨g2, 0, none⟩) m.length cap2) ∧ w'.cell? ⟨g, i * 6, none⟩ = some (.int .i64 x.time) ∧ w'.cell? ⟨g, i * 6 + 1, none⟩ = some (.int .i64 x.actor) ∧ w'.cell? ⟨g, i * 6 + 2, none⟩ = some (.int .i64 x.above) ∧ w'.cell? ⟨g, i * 6 + 3, none⟩ = some (.int .i64 x.maker) ∧ w'.cell? ⟨g, i * 6 + 4, none⟩ = some (.string x.byte) ∧ w'.cell? ⟨g, i * 6 + 5, none⟩ = some (.bool x.gone) ∧ w'.cell? ⟨g2, k * 6, none⟩ = some (.int .i64 y.time) ∧ w'.cell? ⟨g2, k * 6 + 1, none⟩ = some (.int .i64 y.actor) ∧ w'.cell? ⟨g2, k * 6 + 2, none⟩ = some (.int .i64 y.above) ∧ w'.cell? ⟨g2, k * 6 + 3, none⟩ = some (.int .i64 y.maker) ∧ w'.cell? ⟨g2, k * 6 + 4, none⟩ = some (.string y.byte) ∧ w'.cell? ⟨g2, k * 6 + 5, none⟩ = some (.bool y.gone)) (by kernel_rfl) (KS.out _ (hbv3.drew)) (fun hS => ?_)
                refine wpAnyH_take (i := 0) (v := .int .i64 (i : Int)) (List.getElem?_toArray.trans rfl) (by kernel_rfl) (by kernel_rfl) (by kernel_rfl) (fun _ _ _ h => h) (Or.inl ⟨by rfl, fun w' hw => by go_simp⟩) hS ?_
                try simp only [Act.put, List.setIfInBounds_toArray, List.set_cons_zero, List.set_cons_succ]
                refine wpAnyH_take (i := 1) (v := .pointer (some ⟨w.heap.size, 0, none⟩)) (List.getElem?_toArray.trans rfl) (by kernel_rfl) (by kernel_rfl) (by kernel_rfl) (fun _ _ _ h => h) (Or.inl ⟨by rfl, fun w' hw => by go_simp⟩) hS ?_
                try simp only [Act.put, List.setIfInBounds_toArray, List.set_cons_zero, List.set_cons_succ]
                refine wpAnyH_take (i := 2) (v := .slice (some ⟨g, 0, none⟩) l.length cap) (List.getElem?_toArray.trans rfl) (by kernel_rfl) (by kernel_rfl) (by kernel_rfl) (fun _ _ _ h => h) (Or.inl ⟨by rfl, fun w' hw => by obtain ⟨r0, r1, x0, x1, x2, x3, x4, x5, y0, y1, y2, y3, y4, y5⟩ := hw; go_simp⟩) hS ?_
                try simp only [Act.put, List.setIfInBounds_toArray, List.set_cons_zero, List.set_cons_succ]
                refine wpAnyH_take (i := 3) (v := .int .i64 (l.length : Int)) (List.getElem?_toArray.trans rfl) (by kernel_rfl) (by kernel_rfl) (by kernel_rfl) (fun _ _ _ h => h) (Or.inl ⟨by rfl, fun w' hw => by go_simp⟩) hS ?_
                try simp only [Act.put, List.setIfInBounds_toArray, List.set_cons_zero, List.set_cons_succ]
                refine wpAnyH_take (i := 4) (v := .bool false) (List.getElem?_toArray.trans rfl) (by kernel_rfl) (by kernel_rfl) (by kernel_rfl) (fun _ _ _ h => h) (Or.inl ⟨by rfl, fun w' hw => by go_simp⟩) hS ?_
                try simp only [Act.put, List.setIfInBounds_toArray, List.set_cons_zero, List.set_cons_succ]
                refine wpAnyH_take (i := 5) (v := .bool false) (List.getElem?_toArray.trans rfl) (by kernel_rfl) (by kernel_rfl) (by kernel_rfl) (fun _ _ _ h => h) (Or.inl ⟨by rfl, fun w' hw => by go_simp⟩) hS ?_
                try simp only [Act.put, List.setIfInBounds_toArray, List.set_cons_zero, List.set_cons_succ]
                refine wpAnyH_take (i := 6) (v := .pointer (some ⟨w.heap.size + 1, 0, none⟩)) (List.getElem?_toArray.trans rfl) (by kernel_rfl) (by kernel_rfl) (by kernel_rfl) (fun _ _ _ h => h) (Or.inl ⟨by rfl, fun w' hw => by go_simp⟩) hS ?_
                try simp only [Act.put, List.setIfInBounds_toArray, List.set_cons_zero, List.set_cons_succ]
                refine wpAnyH_take (i := 7) (v := .slice (some ⟨g2, 0, none⟩) m.length cap2) (List.getElem?_toArray.trans rfl) (by kernel_rfl) (by kernel_rfl) (by kernel_rfl) (fun _ _ _ h => h) (Or.inl ⟨by rfl, fun w' hw => by obtain ⟨r0, r1, x0, x1, x2, x3, x4, x5, y0, y1, y2, y3, y4, y5⟩ := hw; go_simp⟩) hS ?_
                try simp only [Act.put, List.setIfInBounds_toArray, List.set_cons_zero, List.set_cons_succ]
                refine wpAnyH_take (i := 8) (v := .int .i64 (k : Int)) (List.getElem?_toArray.trans rfl) (by kernel_rfl) (by kernel_rfl) (by kernel_rfl) (fun _ _ _ h => h) (Or.inl ⟨by rfl, fun w' hw => by go_simp⟩) hS ?_
                try simp only [Act.put, List.setIfInBounds_toArray, List.set_cons_zero, List.set_cons_succ]
                refine wpAnyH_take (i := 9) (v := .pointer (some ⟨g2, k * 6, none⟩)) (List.getElem?_toArray.trans rfl) (by kernel_rfl) (by kernel_rfl) (by kernel_rfl) (fun _ _ _ h => h) (Or.inl ⟨by rfl, fun w' hw => by go_simp⟩) hS ?_
                try simp only [Act.put, List.setIfInBounds_toArray, List.set_cons_zero, List.set_cons_succ]
                refine wpAnyH_take (i := 10) (v := .agg #[.int .i64 y.time, .int .i64 y.actor, .int .i64 y.above, .int .i64 y.maker, .string y.byte, .bool y.gone]) (List.getElem?_toArray.trans rfl) (by kernel_rfl) (by kernel_rfl) (by kernel_rfl) (fun _ _ _ h => h) (Or.inl ⟨by rfl, fun w' hw => by obtain ⟨r0, r1, x0, x1, x2, x3, x4, x5, y0, y1, y2, y3, y4, y5⟩ := hw; go_simp⟩) hS ?_
                try simp only [Act.put, List.setIfInBounds_toArray, List.set_cons_zero, List.set_cons_succ]
                refine wpAnyH_take (i := 11) (v := .pointer (some ⟨w.heap.size, 0, none⟩)) (List.getElem?_toArray.trans rfl) (by kernel_rfl) (by kernel_rfl) (by kernel_rfl) (fun _ _ _ h => h) (Or.inl ⟨by rfl, fun w' hw => by go_simp⟩) hS ?_
                try simp only [Act.put, List.setIfInBounds_toArray, List.set_cons_zero, List.set_cons_succ]
                refine wpAnyH_take (i := 12) (v := .slice (some ⟨g, 0, none⟩) l.length cap) (List.getElem?_toArray.trans rfl) (by kernel_rfl) (by kernel_rfl) (by kernel_rfl) (fun _ _ _ h => h) (Or.inl ⟨by rfl, fun w' hw => by obtain ⟨r0, r1, x0, x1, x2, x3, x4, x5, y0, y1, y2, y3, y4, y5⟩ := hw; go_simp⟩) hS ?_
                try simp only [Act.put, List.setIfInBounds_toArray, List.set_cons_zero, List.set_cons_succ]
                refine wpAnyH_take (i := 13) (v := .int .i64 (i : Int)) (List.getElem?_toArray.trans rfl) (by kernel_rfl) (by kernel_rfl) (by kernel_rfl) (fun _ _ _ h => h) (Or.inl ⟨by rfl, fun w' hw => by go_simp⟩) hS ?_
                try simp only [Act.put, List.setIfInBounds_toArray, List.set_cons_zero, List.set_cons_succ]
                refine wpAnyH_take (i := 14) (v := .pointer (some ⟨g, i * 6, none⟩)) (List.getElem?_toArray.trans rfl) (by kernel_rfl) (by kernel_rfl) (by kernel_rfl) (fun _ _ _ h => h) (Or.inl ⟨by rfl, fun w' hw => by go_simp⟩) hS ?_
                try simp only [Act.put, List.setIfInBounds_toArray, List.set_cons_zero, List.set_cons_succ]
                refine wpAnyH_take (i := 15) (v := .agg #[.int .i64 x.time, .int .i64 x.actor, .int .i64 x.above, .int .i64 x.maker, .string x.byte, .bool x.gone]) (List.getElem?_toArray.trans rfl) (by kernel_rfl) (by kernel_rfl) (by kernel_rfl) (fun _ _ _ h => h) (Or.inl ⟨by rfl, fun w' hw => by obtain ⟨r0, r1, x0, x1, x2, x3, x4, x5, y0, y1, y2, y3, y4, y5⟩ := hw; go_simp⟩) hS ?_
                try simp only [Act.put, List.setIfInBounds_toArray, List.set_cons_zero, List.set_cons_succ]
                refine wpAnyH_ready (rs := [16]) (by kernel_rfl) (by simp) ?_
                refine AllReadyH.cons rfl (fun K hK => ?_) AllReadyH.nil
                go_simp
                go_at_call 22
                refine (LS2.out _).mono ?_
                rintro e v4 ⟨rfl, hv4⟩; have hbv4 : Below wr.heap.size wr v4 := hbv3.trans (((Below.refl _ _).drew.trans hv4).mono hbv3.size)
                have hS1 := KS.out v4 hbv4
                go_simp
                refine hK.out _ _ hS1 (fun _ => ?_)
                clear hK K
                refine wpAnyH_take (i := 17) (v := .bool true) (List.getElem?_toArray.trans rfl) (by kernel_rfl) (by kernel_rfl) (by kernel_rfl) (fun _ _ _ h => h) (Or.inl ⟨by rfl, fun w' hw => by go_simp⟩) hS1 ?_
                try simp only [Act.put, List.setIfInBounds_toArray, List.set_cons_zero, List.set_cons_succ]
                refine wpAnyH_take (i := 18) (v := .bool true) (List.getElem?_toArray.trans rfl) (by kernel_rfl) (by kernel_rfl) (by kernel_rfl) (fun _ _ _ h => h) (Or.inl ⟨by rfl, fun w' hw => by go_simp⟩) hS1 ?_
                try simp only [Act.put, List.setIfInBounds_toArray, List.set_cons_zero, List.set_cons_succ]
                refine wpAnyH_done (by kernel_rfl) ?_ _
                clear LS LS2 KS
                go_wp2_with fail
                have KX : Hid (∀ w', Below w2.heap.size v4 w' → w'.cell? ⟨w.heap.size + 1, 0, none⟩ = some (.slice (some ⟨g2, 0, none⟩) m.length cap2) ∧ w'.cell? ⟨g2, k * 6, none⟩ = some (.int .i64 y.time) ∧ w'.cell? ⟨g2, k * 6 + 1, none⟩ = some (.int .i64 y.actor) ∧ w'.cell? ⟨g2, k * 6 + 2, none⟩ = some (.int .i64 y.above) ∧ w'.cell? ⟨g2, k * 6 + 3, none⟩ = some (.int .i64 y.maker) ∧ w'.cell? ⟨g2, k * 6 + 4, none⟩ = some (.string y.byte) ∧ w'.cell? ⟨g2, k * 6 + 5, none⟩ = some (.bool y.gone)) := hide (fun w' hb => ⟨(World.cell?_of_block (a := ⟨w.heap.size + 1, 0, none⟩) (hb.block (w.heap.size + 1) (by omega))).trans (J1.out.later hbv4).cell, at6 hb (by omega) (at6 (hbv4) (by omega) hy6.out)⟩)
                have BX3 := hide (HT.out.box.later hbv4)
                have OW3 := hide (own_below HT.out.own hbv4)
                have hO3 : w2.heap.size < v4.heap.size := BX3.out.lt
                refine wp_region_held_drew (S := fun w' => w'.cell? ⟨w.heap.size + 1, 0, none⟩ = some (.slice (some ⟨g2, 0, none⟩) m.length cap2) ∧ w'.cell? ⟨g2, k * 6, none⟩ = some (.int .i64 y.time) ∧ w'.cell? ⟨g2, k * 6 + 1, none⟩ = some (.int .i64 y.actor) ∧ w'.cell? ⟨g2, k * 6 + 2, none⟩ = some (.int .i64 y.above) ∧ w'.cell? ⟨g2, k * 6 + 3, none⟩ = some (.int .i64 y.maker) ∧ w'.cell? ⟨g2, k * 6 + 4, none⟩ = some (.string y.byte) ∧ w'.cell? ⟨g2, k * 6 + 5, none⟩ = some (.bool y.gone)) (by kernel_rfl) (KX.out _ (Below.refl _ _).drew) (fun hS => ?_)
                obtain ⟨wa, hwa⟩ : ∃ w', v4.drew = w' := ⟨_, rfl⟩
                have hBa : Hid (Below w2.heap.size v4 wa) := hide (by rw [← hwa]; exact (Below.refl _ _).drew)
                have hPa : Hid (Below wr.heap.size wr wa) := hide (by rw [← hwa]; exact hbv4.drew)
                have BXa : Hid (CellR wa w2.heap.size (.slice av out.length cv)) := hide (by rw [← hwa]; exact BX3.out)
                have OWa : Hid (AmOwn wa (w2.heap.size + 1) (.slice av out.length cv) out) := hide (by rw [← hwa]; exact OW3.out)
                rw [hwa]
                clear hwa hS
                refine wpAnyH_take (i := 0) (v := .pointer (some ⟨w2.heap.size, 0, none⟩)) (List.getElem?_toArray.trans rfl) (by kernel_rfl) (by kernel_rfl) (by kernel_rfl) (fun _ _ _ h => h) (Or.inl ⟨by rfl, fun w' hw => by go_simp⟩) (KX.out _ hBa.out) ?_
                try simp only [Act.put, List.setIfInBounds_toArray, List.set_cons_zero, List.set_cons_succ]
                refine wpAnyH_take (i := 2) (v := .pointer (some ⟨w.heap.size + 1, 0, none⟩)) (List.getElem?_toArray.trans rfl) (by kernel_rfl) (by kernel_rfl) (by kernel_rfl) (fun _ _ _ h => h) (Or.inl ⟨by rfl, fun w' hw => by go_simp⟩) (KX.out _ hBa.out) ?_
                try simp only [Act.put, List.setIfInBounds_toArray, List.set_cons_zero, List.set_cons_succ]
                refine wpAnyH_take (i := 3) (v := .slice (some ⟨g2, 0, none⟩) m.length cap2) (List.getElem?_toArray.trans rfl) (by kernel_rfl) (by kernel_rfl) (by kernel_rfl) (fun _ _ _ h => h) (Or.inl ⟨by rfl, fun w' hw => by obtain ⟨r0, x0, x1, x2, x3, x4, x5⟩ := hw; go_simp⟩) (KX.out _ hBa.out) ?_
                try simp only [Act.put, List.setIfInBounds_toArray, List.set_cons_zero, List.set_cons_succ]
                refine wpAnyH_take (i := 4) (v := .int .i64 (k : Int)) (List.getElem?_toArray.trans rfl) (by kernel_rfl) (by kernel_rfl) (by kernel_rfl) (fun _ _ _ h => h) (Or.inl ⟨by rfl, fun w' hw => by go_simp⟩) (KX.out _ hBa.out) ?_
                try simp only [Act.put, List.setIfInBounds_toArray, List.set_cons_zero, List.set_cons_succ]
                refine wpAnyH_take (i := 5) (v := .pointer (some ⟨g2, k * 6, none⟩)) (List.getElem?_toArray.trans rfl) (by kernel_rfl) (by kernel_rfl) (by kernel_rfl) (fun _ _ _ h => h) (Or.inl ⟨by rfl, fun w' hw => by go_simp⟩) (KX.out _ hBa.out) ?_
                try simp only [Act.put, List.setIfInBounds_toArray, List.set_cons_zero, List.set_cons_succ]
                refine wpAnyH_take (i := 6) (v := .agg #[.int .i64 y.time, .int .i64 y.actor, .int .i64 y.above, .int .i64 y.maker, .string y.byte, .bool y.gone]) (List.getElem?_toArray.trans rfl) (by kernel_rfl) (by kernel_rfl) (by kernel_rfl) (fun _ _ _ h => h) (Or.inl ⟨by rfl, fun w' hw => by obtain ⟨r0, x0, x1, x2, x3, x4, x5⟩ := hw; go_simp⟩) (KX.out _ hBa.out) ?_
                try simp only [Act.put, List.setIfInBounds_toArray, List.set_cons_zero, List.set_cons_succ]
                refine wpAnyH_ready (rs := [1, 7]) (by kernel_rfl) (by simp) ?_
                refine AllReadyH.cons (List.getElem?_toArray.trans rfl) (fun K hK => ?_) ?_
                · skip
                  have kO := BXa.out.cell
                  go_simp
                  refine hK.out _ _ (KX.out _ hBa.out) (fun _ => ?_)
                  clear hK K kO
                  try simp only [Act.put, List.setIfInBounds_toArray, List.set_cons_zero, List.set_cons_succ]
                  refine wpAnyH_ready (rs := [7]) (by kernel_rfl) (by simp) ?_
                  refine AllReadyH.cons (List.getElem?_toArray.trans rfl) (fun K hK => ?_) AllReadyH.nil
                  go_simp
                  have hBx1 : Hid (Below w2.heap.size v4 (wa.alloc (.cells #[.int .i64 y.time, .int .i64 y.actor, .int .i64 y.above, .int .i64 y.maker, .string y.byte, .bool y.gone] 47))) := hide (hBa.out.alloc (by have := hBa.out.size; omega) _)
                  refine hK.out _ _ (KX.out _ hBx1.out) (fun _ => ?_)
                  clear hK K
                  try simp only [Act.put, List.setIfInBounds_toArray, List.set_cons_zero, List.set_cons_succ]
                  have hPx1 : Hid (Below wr.heap.size wr (wa.alloc (.cells #[.int .i64 y.time, .int .i64 y.actor, .int .i64 y.above, .int .i64 y.maker, .string y.byte, .bool y.gone] 47))) := hide (hPa.out.alloc hPa.out.size _)
                  have BXx1 : Hid (CellR (wa.alloc (.cells #[.int .i64 y.time, .int .i64 y.actor, .int .i64 y.above, .int .i64 y.maker, .string y.byte, .bool y.gone] 47)) w2.heap.size (.slice av out.length cv)) := hide (keep_al BXa.out)
                  have OWx1 : Hid (AmOwn (wa.alloc (.cells #[.int .i64 y.time, .int .i64 y.actor, .int .i64 y.above, .int .i64 y.maker, .string y.byte, .bool y.gone] 47)) (w2.heap.size + 1) (.slice av out.length cv) out) := hide (World.ownsRow.alloc OWa.out _)
                  have hM : Hid ((wa.alloc (.cells #[.int .i64 y.time, .int .i64 y.actor, .int .i64 y.above, .int .i64 y.maker, .string y.byte, .bool y.gone] 47)).heap[wa.heap.size]? = some (.cells #[.int .i64 y.time, .int .i64 y.actor, .int .i64 y.above, .int .i64 y.maker, .string y.byte, .bool y.gone] 47)) := hide (heap_alloc_new wa _)
                  obtain ⟨x1, hwx1⟩ : ∃ w', wa.alloc (.cells #[.int .i64 y.time, .int .i64 y.actor, .int .i64 y.above, .int .i64 y.maker, .string y.byte, .bool y.gone] 47) = w' := ⟨_, rfl⟩
                  rw [hwx1] at hBx1 hPx1 BXx1 OWx1 hM ⊢
                  clear hwx1
                  refine wpAnyH_ready (rs := [8]) (by kernel_rfl) (by simp) ?_
                  refine AllReadyH.cons (List.getElem?_toArray.trans rfl) (fun K hK => ?_) AllReadyH.nil
                  refine step_ams rfl _ _ rfl (w2.heap.size + 1) (.slice av out.length cv) out (some ⟨wa.heap.size, 0, none⟩) 1 [y] (by simp <;> omega) rfl rfl OWx1.out (am_at hM.out) (BXx1.out.lt) ?_
                  intro v5 w5 own5 grow5
                  have NX := hide (HT.out.next HO3.out (i2 := i) (k2 := k + 1) (by omega) HMG.out hPx1.out own5 grow5)
                  have hB5 : Hid (Below w2.heap.size v4 w5) := hide (hBx1.out.grown grow5 (by have := hBx1.out.size; omega) (fun y hy => by have := (World.ownsRow.lt OWx1.out y hy).1; omega))
                  obtain ⟨a5, c5, he5, -⟩ := own_shp own5
                  rw [show (out ++ [y]).length = out.length + 1 by simp] at he5
                  subst he5
                  have kO := NX.out.1.cell
                  have fO := NX.out.1.fz
                  clear own5 grow5
                  refine hK.out _ _ (KX.out _ hB5.out) (fun _ => ?_)
                  clear hK K
                  try simp only [Act.put, List.setIfInBounds_toArray, List.set_cons_zero, List.set_cons_succ]
                  refine wpAnyH_take (i := 9) (v := .pointer (some ⟨w2.heap.size, 0, none⟩)) (List.getElem?_toArray.trans rfl) (by kernel_rfl) (by kernel_rfl) (by kernel_rfl) (fun _ _ _ h => h) (Or.inl ⟨by rfl, fun w' hw => by go_simp⟩) (KX.out _ hB5.out) ?_
                  try simp only [Act.put, List.setIfInBounds_toArray, List.set_cons_zero, List.set_cons_succ]
                  refine wpAnyH_ready (rs := [10]) (by kernel_rfl) (by simp) ?_
                  refine AllReadyH.cons (List.getElem?_toArray.trans rfl) (fun K hK => ?_) AllReadyH.nil
                  go_simp
                  refine hK.out _ _ (KX.out _ (hB5.out.setCell (p := ⟨w2.heap.size, 0, none⟩) (Nat.le_refl _) _)) (fun _ => ?_)
                  clear hK K kO fO
                  try simp only [Act.put, List.setIfInBounds_toArray, List.set_cons_zero, List.set_cons_succ]
                  refine wpAnyH_done (by kernel_rfl) ?_ _
                  have N5 := hide NX.out.2
                  clear NX
                  go_wp2
                  exact ⟨⟨i, k + 1, by omega, by omega, by first | rfl | go_num, by first | rfl | go_num, _, _, N5⟩, by simp [intOf]; omega⟩
                refine AllReadyH.cons (List.getElem?_toArray.trans rfl) (fun K hK => ?_) AllReadyH.nil
                go_simp
                have hBx2 : Hid (Below w2.heap.size v4 (wa.alloc (.cells #[.int .i64 y.time, .int .i64 y.actor, .int .i64 y.above, .int .i64 y.maker, .string y.byte, .bool y.gone] 47))) := hide (hBa.out.alloc (by have := hBa.out.size; omega) _)
                refine hK.out _ _ (KX.out _ hBx2.out) (fun _ => ?_)
                clear hK K
                try simp only [Act.put, List.setIfInBounds_toArray, List.set_cons_zero, List.set_cons_succ]
                have hPx2 : Hid (Below wr.heap.size wr (wa.alloc (.cells #[.int .i64 y.time, .int .i64 y.actor, .int .i64 y.above, .int .i64 y.maker, .string y.byte, .bool y.gone] 47))) := hide (hPa.out.alloc hPa.out.size _)
                have BXx2 : Hid (CellR (wa.alloc (.cells #[.int .i64 y.time, .int .i64 y.actor, .int .i64 y.above, .int .i64 y.maker, .string y.byte, .bool y.gone] 47)) w2.heap.size (.slice av out.length cv)) := hide (keep_al BXa.out)
                have OWx2 : Hid (AmOwn (wa.alloc (.cells #[.int .i64 y.time, .int .i64 y.actor, .int .i64 y.above, .int .i64 y.maker, .string y.byte, .bool y.gone] 47)) (w2.heap.size + 1) (.slice av out.length cv) out) := hide (World.ownsRow.alloc OWa.out _)
                have hM : Hid ((wa.alloc (.cells #[.int .i64 y.time, .int .i64 y.actor, .int .i64 y.above, .int .i64 y.maker, .string y.byte, .bool y.gone] 47)).heap[wa.heap.size]? = some (.cells #[.int .i64 y.time, .int .i64 y.actor, .int .i64 y.above, .int .i64 y.maker, .string y.byte, .bool y.gone] 47)) := hide (heap_alloc_new wa _)
                obtain ⟨x2, hwx2⟩ : ∃ w', wa.alloc (.cells #[.int .i64 y.time, .int .i64 y.actor, .int .i64 y.above, .int .i64 y.maker, .string y.byte, .bool y.gone] 47) = w' := ⟨_, rfl⟩
                rw [hwx2] at hBx2 hPx2 BXx2 OWx2 hM ⊢
                clear hwx2
                refine wpAnyH_ready (rs := [1]) (by kernel_rfl) (by simp) ?_
                refine AllReadyH.cons (List.getElem?_toArray.trans rfl) (fun K hK => ?_) AllReadyH.nil
                have kO := BXx2.out.cell
                go_simp
                refine hK.out _ _ (KX.out _ hBx2.out) (fun _ => ?_)
                clear hK K kO
                try simp only [Act.put, List.setIfInBounds_toArray, List.set_cons_zero, List.set_cons_succ]
                refine wpAnyH_ready (rs := [8]) (by kernel_rfl) (by simp) ?_
                refine AllReadyH.cons (List.getElem?_toArray.trans rfl) (fun K hK => ?_) AllReadyH.nil
                refine step_ams rfl _ _ rfl (w2.heap.size + 1) (.slice av out.length cv) out (some ⟨wa.heap.size, 0, none⟩) 1 [y] (by simp <;> omega) rfl rfl OWx2.out (am_at hM.out) (BXx2.out.lt) ?_
                intro v5 w5 own5 grow5
                have NX := hide (HT.out.next HO3.out (i2 := i) (k2 := k + 1) (by omega) HMG.out hPx2.out own5 grow5)
                have hB5 : Hid (Below w2.heap.size v4 w5) := hide (hBx2.out.grown grow5 (by have := hBx2.out.size; omega) (fun y hy => by have := (World.ownsRow.lt OWx2.out y hy).1; omega))
                obtain ⟨a5, c5, he5, -⟩ := own_shp own5
                rw [show (out ++ [y]).length = out.length + 1 by simp] at he5
                subst he5
                have kO := NX.out.1.cell
                have fO := NX.out.1.fz
                clear own5 grow5
                refine hK.out _ _ (KX.out _ hB5.out) (fun _ => ?_)
                clear hK K
                try simp only [Act.put, List.setIfInBounds_toArray, List.set_cons_zero, List.set_cons_succ]
                refine wpAnyH_take (i := 9) (v := .pointer (some ⟨w2.heap.size, 0, none⟩)) (List.getElem?_toArray.trans rfl) (by kernel_rfl) (by kernel_rfl) (by kernel_rfl) (fun _ _ _ h => h) (Or.inl ⟨by rfl, fun w' hw => by go_simp⟩) (KX.out _ hB5.out) ?_
                try simp only [Act.put, List.setIfInBounds_toArray, List.set_cons_zero, List.set_cons_succ]
                refine wpAnyH_ready (rs := [10]) (by kernel_rfl) (by simp) ?_
                refine AllReadyH.cons (List.getElem?_toArray.trans rfl) (fun K hK => ?_) AllReadyH.nil
                go_simp
                refine hK.out _ _ (KX.out _ (hB5.out.setCell (p := ⟨w2.heap.size, 0, none⟩) (Nat.le_refl _) _)) (fun _ => ?_)
                clear hK K kO fO
                try simp only [Act.put, List.setIfInBounds_toArray, List.set_cons_zero, List.set_cons_succ]
                refine wpAnyH_done (by kernel_rfl) ?_ _
                have N5 := hide NX.out.2
                clear NX
                go_wp2
                exact ⟨⟨i, k + 1, by omega, by omega, by first | rfl | go_num, by first | rfl | go_num, _, _, N5⟩, by simp [intOf]; omega⟩
              | false =>
                have HMG5 : Hid (mrg (l.drop i) (m.drop k) = if alk x y then (mrg (l.drop (i + 1)) (m.drop (k + 1))).map ({ x with gone := x.gone || y.gone } :: ·) else none) := hide (by rw [hx, hy]; exact mg_b hil hkm (by rw [← hx, ← hy]; exact h1) (by rw [← hx, ← hy]; exact h2))
                have AL := hide (fun w => l17Alike_any x y w)
                unfold amV at AL
                rw [h1] at LS
                rw [h2] at LS2
                have HSZ : Hid (x.byte.size = 1) := hide (by rw [hx]; exact HX1.out i hil)
                clear h1 h2 hx hy
                go_wp2_with fail
                refine wp_region_held_drew (S := fun w' => w'.cell? ⟨w.heap.size, 0, none⟩ = some (.slice (some ⟨g, 0, none⟩) l.length cap) ∧ w'.cell? ⟨w.heap.size + 1, 0, none⟩ = some (.slice (some ⟨g2, 0, none⟩) m.length cap2) ∧ w'.cell? ⟨g, i * 6, none⟩ = some (.int .i64 x.time) ∧ w'.cell? ⟨g, i * 6 + 1, none⟩ = some (.int .i64 x.actor) ∧ w'.cell? ⟨g, i * 6 + 2, none⟩ = some (.int .i64 x.above) ∧ w'.cell? ⟨g, i * 6 + 3, none⟩ = some (.int .i64 x.maker) ∧ w'.cell? ⟨g, i * 6 + 4, none⟩ = some (.string x.byte) ∧ w'.cell? ⟨g, i * 6 + 5, none⟩ = some (.bool x.gone) ∧ w'.cell? ⟨g2, k * 6, none⟩ = some (.int .i64 y.time) ∧ w'.cell? ⟨g2, k * 6 + 1, none⟩ = some (.int .i64 y.actor) ∧ w'.cell? ⟨g2, k * 6 + 2, none⟩ = some (.int .i64 y.above) ∧ w'.cell? ⟨g2, k * 6 + 3, none⟩ = some (.int .i64 y.maker) ∧ w'.cell? ⟨g2, k * 6 + 4, none⟩ = some (.string y.byte) ∧ w'.cell? ⟨g2, k * 6 + 5, none⟩ = some (.bool y.gone)) (by kernel_rfl) (KS.out _ (Below.refl _ _).drew) (fun hS => ?_)
                refine wpAnyH_take (i := 0) (v := .int .i64 (k : Int)) (List.getElem?_toArray.trans rfl) (by kernel_rfl) (by kernel_rfl) (by kernel_rfl) (fun _ _ _ h => h) (Or.inl ⟨by rfl, fun w' hw => by go_simp⟩) hS ?_
                try simp only [Act.put, List.setIfInBounds_toArray, List.set_cons_zero, List.set_cons_succ]
                refine wpAnyH_take (i := 1) (v := .pointer (some ⟨w.heap.size + 1, 0, none⟩)) (List.getElem?_toArray.trans rfl) (by kernel_rfl) (by kernel_rfl) (by kernel_rfl) (fun _ _ _ h => h) (Or.inl ⟨by rfl, fun w' hw => by go_simp⟩) hS ?_
                try simp only [Act.put, List.setIfInBounds_toArray, List.set_cons_zero, List.set_cons_succ]
                refine wpAnyH_take (i := 2) (v := .slice (some ⟨g2, 0, none⟩) m.length cap2) (List.getElem?_toArray.trans rfl) (by kernel_rfl) (by kernel_rfl) (by kernel_rfl) (fun _ _ _ h => h) (Or.inl ⟨by rfl, fun w' hw => by obtain ⟨r0, r1, x0, x1, x2, x3, x4, x5, y0, y1, y2, y3, y4, y5⟩ := hw; go_simp⟩) hS ?_
                try simp only [Act.put, List.setIfInBounds_toArray, List.set_cons_zero, List.set_cons_succ]
                refine wpAnyH_take (i := 3) (v := .int .i64 (m.length : Int)) (List.getElem?_toArray.trans rfl) (by kernel_rfl) (by kernel_rfl) (by kernel_rfl) (fun _ _ _ h => h) (Or.inl ⟨by rfl, fun w' hw => by go_simp⟩) hS ?_
                try simp only [Act.put, List.setIfInBounds_toArray, List.set_cons_zero, List.set_cons_succ]
                refine wpAnyH_take (i := 4) (v := .bool false) (List.getElem?_toArray.trans rfl) (by kernel_rfl) (by kernel_rfl) (by kernel_rfl) (fun _ _ _ h => h) (Or.inl ⟨by rfl, fun w' hw => by go_simp⟩) hS ?_
                try simp only [Act.put, List.setIfInBounds_toArray, List.set_cons_zero, List.set_cons_succ]
                refine wpAnyH_take (i := 5) (v := .bool false) (List.getElem?_toArray.trans rfl) (by kernel_rfl) (by kernel_rfl) (by kernel_rfl) (fun _ _ _ h => h) (Or.inl ⟨by rfl, fun w' hw => by go_simp⟩) hS ?_
                try simp only [Act.put, List.setIfInBounds_toArray, List.set_cons_zero, List.set_cons_succ]
                refine wpAnyH_take (i := 6) (v := .int .i64 (i : Int)) (List.getElem?_toArray.trans rfl) (by kernel_rfl) (by kernel_rfl) (by kernel_rfl) (fun _ _ _ h => h) (Or.inl ⟨by rfl, fun w' hw => by go_simp⟩) hS ?_
                try simp only [Act.put, List.setIfInBounds_toArray, List.set_cons_zero, List.set_cons_succ]
                refine wpAnyH_take (i := 7) (v := .pointer (some ⟨w.heap.size, 0, none⟩)) (List.getElem?_toArray.trans rfl) (by kernel_rfl) (by kernel_rfl) (by kernel_rfl) (fun _ _ _ h => h) (Or.inl ⟨by rfl, fun w' hw => by go_simp⟩) hS ?_
                try simp only [Act.put, List.setIfInBounds_toArray, List.set_cons_zero, List.set_cons_succ]
                refine wpAnyH_take (i := 8) (v := .slice (some ⟨g, 0, none⟩) l.length cap) (List.getElem?_toArray.trans rfl) (by kernel_rfl) (by kernel_rfl) (by kernel_rfl) (fun _ _ _ h => h) (Or.inl ⟨by rfl, fun w' hw => by obtain ⟨r0, r1, x0, x1, x2, x3, x4, x5, y0, y1, y2, y3, y4, y5⟩ := hw; go_simp⟩) hS ?_
                try simp only [Act.put, List.setIfInBounds_toArray, List.set_cons_zero, List.set_cons_succ]
                refine wpAnyH_take (i := 9) (v := .int .i64 (l.length : Int)) (List.getElem?_toArray.trans rfl) (by kernel_rfl) (by kernel_rfl) (by kernel_rfl) (fun _ _ _ h => h) (Or.inl ⟨by rfl, fun w' hw => by go_simp⟩) hS ?_
                try simp only [Act.put, List.setIfInBounds_toArray, List.set_cons_zero, List.set_cons_succ]
                refine wpAnyH_take (i := 10) (v := .bool true) (List.getElem?_toArray.trans rfl) (by kernel_rfl) (by kernel_rfl) (by kernel_rfl) (fun _ _ _ h => h) (Or.inl ⟨by rfl, fun w' hw => by go_simp⟩) hS ?_
                try simp only [Act.put, List.setIfInBounds_toArray, List.set_cons_zero, List.set_cons_succ]
                refine wpAnyH_take (i := 11) (v := .bool true) (List.getElem?_toArray.trans rfl) (by kernel_rfl) (by kernel_rfl) (by kernel_rfl) (fun _ _ _ h => h) (Or.inl ⟨by rfl, fun w' hw => by go_simp⟩) hS ?_
                try simp only [Act.put, List.setIfInBounds_toArray, List.set_cons_zero, List.set_cons_succ]
                refine wpAnyH_take (i := 12) (v := .pointer (some ⟨w.heap.size, 0, none⟩)) (List.getElem?_toArray.trans rfl) (by kernel_rfl) (by kernel_rfl) (by kernel_rfl) (fun _ _ _ h => h) (Or.inl ⟨by rfl, fun w' hw => by go_simp⟩) hS ?_
                try simp only [Act.put, List.setIfInBounds_toArray, List.set_cons_zero, List.set_cons_succ]
                refine wpAnyH_take (i := 13) (v := .slice (some ⟨g, 0, none⟩) l.length cap) (List.getElem?_toArray.trans rfl) (by kernel_rfl) (by kernel_rfl) (by kernel_rfl) (fun _ _ _ h => h) (Or.inl ⟨by rfl, fun w' hw => by obtain ⟨r0, r1, x0, x1, x2, x3, x4, x5, y0, y1, y2, y3, y4, y5⟩ := hw; go_simp⟩) hS ?_
                try simp only [Act.put, List.setIfInBounds_toArray, List.set_cons_zero, List.set_cons_succ]
                refine wpAnyH_take (i := 14) (v := .int .i64 (i : Int)) (List.getElem?_toArray.trans rfl) (by kernel_rfl) (by kernel_rfl) (by kernel_rfl) (fun _ _ _ h => h) (Or.inl ⟨by rfl, fun w' hw => by go_simp⟩) hS ?_
                try simp only [Act.put, List.setIfInBounds_toArray, List.set_cons_zero, List.set_cons_succ]
                refine wpAnyH_take (i := 15) (v := .pointer (some ⟨g, i * 6, none⟩)) (List.getElem?_toArray.trans rfl) (by kernel_rfl) (by kernel_rfl) (by kernel_rfl) (fun _ _ _ h => h) (Or.inl ⟨by rfl, fun w' hw => by go_simp⟩) hS ?_
                try simp only [Act.put, List.setIfInBounds_toArray, List.set_cons_zero, List.set_cons_succ]
                refine wpAnyH_take (i := 16) (v := .agg #[.int .i64 x.time, .int .i64 x.actor, .int .i64 x.above, .int .i64 x.maker, .string x.byte, .bool x.gone]) (List.getElem?_toArray.trans rfl) (by kernel_rfl) (by kernel_rfl) (by kernel_rfl) (fun _ _ _ h => h) (Or.inl ⟨by rfl, fun w' hw => by obtain ⟨r0, r1, x0, x1, x2, x3, x4, x5, y0, y1, y2, y3, y4, y5⟩ := hw; go_simp⟩) hS ?_
                try simp only [Act.put, List.setIfInBounds_toArray, List.set_cons_zero, List.set_cons_succ]
                refine wpAnyH_take (i := 17) (v := .pointer (some ⟨w.heap.size + 1, 0, none⟩)) (List.getElem?_toArray.trans rfl) (by kernel_rfl) (by kernel_rfl) (by kernel_rfl) (fun _ _ _ h => h) (Or.inl ⟨by rfl, fun w' hw => by go_simp⟩) hS ?_
                try simp only [Act.put, List.setIfInBounds_toArray, List.set_cons_zero, List.set_cons_succ]
                refine wpAnyH_take (i := 18) (v := .slice (some ⟨g2, 0, none⟩) m.length cap2) (List.getElem?_toArray.trans rfl) (by kernel_rfl) (by kernel_rfl) (by kernel_rfl) (fun _ _ _ h => h) (Or.inl ⟨by rfl, fun w' hw => by obtain ⟨r0, r1, x0, x1, x2, x3, x4, x5, y0, y1, y2, y3, y4, y5⟩ := hw; go_simp⟩) hS ?_
                try simp only [Act.put, List.setIfInBounds_toArray, List.set_cons_zero, List.set_cons_succ]
                refine wpAnyH_take (i := 19) (v := .int .i64 (k : Int)) (List.getElem?_toArray.trans rfl) (by kernel_rfl) (by kernel_rfl) (by kernel_rfl) (fun _ _ _ h => h) (Or.inl ⟨by rfl, fun w' hw => by go_simp⟩) hS ?_
                try simp only [Act.put, List.setIfInBounds_toArray, List.set_cons_zero, List.set_cons_succ]
                refine wpAnyH_take (i := 20) (v := .pointer (some ⟨g2, k * 6, none⟩)) (List.getElem?_toArray.trans rfl) (by kernel_rfl) (by kernel_rfl) (by kernel_rfl) (fun _ _ _ h => h) (Or.inl ⟨by rfl, fun w' hw => by go_simp⟩) hS ?_
                try simp only [Act.put, List.setIfInBounds_toArray, List.set_cons_zero, List.set_cons_succ]
                refine wpAnyH_take (i := 21) (v := .agg #[.int .i64 y.time, .int .i64 y.actor, .int .i64 y.above, .int .i64 y.maker, .string y.byte, .bool y.gone]) (List.getElem?_toArray.trans rfl) (by kernel_rfl) (by kernel_rfl) (by kernel_rfl) (fun _ _ _ h => h) (Or.inl ⟨by rfl, fun w' hw => by obtain ⟨r0, r1, x0, x1, x2, x3, x4, x5, y0, y1, y2, y3, y4, y5⟩ := hw; go_simp⟩) hS ?_
                try simp only [Act.put, List.setIfInBounds_toArray, List.set_cons_zero, List.set_cons_succ]
                refine wpAnyH_ready (rs := [22]) (by kernel_rfl) (by simp) ?_
                refine AllReadyH.cons rfl (fun K hK => ?_) AllReadyH.nil
                go_simp
                go_at_call 22
                refine (LS.out _).mono ?_
                rintro e v3 ⟨rfl, hv3⟩; have hbv3 : Below wr.heap.size wr v3 := (Below.refl _ _).drew.trans hv3
                have hS1 := KS.out v3 hbv3
                go_simp
                refine hK.out _ _ hS1 (fun _ => ?_)
                clear hK K
                refine wpAnyH_take (i := 23) (v := .bool false) (List.getElem?_toArray.trans rfl) (by kernel_rfl) (by kernel_rfl) (by kernel_rfl) (fun _ _ _ h => h) (Or.inl ⟨by rfl, fun w' hw => by go_simp⟩) hS1 ?_
                try simp only [Act.put, List.setIfInBounds_toArray, List.set_cons_zero, List.set_cons_succ]
                refine wpAnyH_take (i := 24) (v := .bool false) (List.getElem?_toArray.trans rfl) (by kernel_rfl) (by kernel_rfl) (by kernel_rfl) (fun _ _ _ h => h) (Or.inl ⟨by rfl, fun w' hw => by go_simp⟩) hS1 ?_
                try simp only [Act.put, List.setIfInBounds_toArray, List.set_cons_zero, List.set_cons_succ]
                refine wpAnyH_take (i := 25) (v := .bool false) (List.getElem?_toArray.trans rfl) (by kernel_rfl) (by kernel_rfl) (by kernel_rfl) (fun _ _ _ h => h) (Or.inl ⟨by rfl, fun w' hw => by go_simp⟩) hS1 ?_
                try simp only [Act.put, List.setIfInBounds_toArray, List.set_cons_zero, List.set_cons_succ]
                refine wpAnyH_done (by kernel_rfl) ?_ _
                go_wp2_with fail
                refine wp_region_held_drew (S := fun w' => w'.cell? ⟨w.heap.size, 0, none⟩ = some (.slice (some ⟨g, 0, none⟩) l.length cap) ∧ w'.cell? ⟨w.heap.size + 1, 0, none⟩ = some (.slice (some ⟨g2, 0, none⟩) m.length cap2) ∧ w'.cell? ⟨g, i * 6, none⟩ = some (.int .i64 x.time) ∧ w'.cell? ⟨g, i * 6 + 1, none⟩ = some (.int .i64 x.actor) ∧ w'.cell? ⟨g, i * 6 + 2, none⟩ = some (.int .i64 x.above) ∧ w'.cell? ⟨g, i * 6 + 3, none⟩ = some (.int .i64 x.maker) ∧ w'.cell? ⟨g, i * 6 + 4, none⟩ = some (.string x.byte) ∧ w'.cell? ⟨g, i * 6 + 5, none⟩ = some (.bool x.gone) ∧ w'.cell? ⟨g2, k * 6, none⟩ = some (.int .i64 y.time) ∧ w'.cell? ⟨g2, k * 6 + 1, none⟩ = some (.int .i64 y.actor) ∧ w'.cell? ⟨g2, k * 6 + 2, none⟩ = some (.int .i64 y.above) ∧ w'.cell? ⟨g2, k * 6 + 3, none⟩ = some (.int .i64 y.maker) ∧ w'.cell? ⟨g2, k * 6 + 4, none⟩ = some (.string y.byte) ∧ w'.cell? ⟨g2, k * 6 + 5, none⟩ = some (.bool y.gone)) (by kernel_rfl) (KS.out _ (hbv3.drew)) (fun hS => ?_)
                refine wpAnyH_take (i := 0) (v := .int .i64 (i : Int)) (List.getElem?_toArray.trans rfl) (by kernel_rfl) (by kernel_rfl) (by kernel_rfl) (fun _ _ _ h => h) (Or.inl ⟨by rfl, fun w' hw => by go_simp⟩) hS ?_
                try simp only [Act.put, List.setIfInBounds_toArray, List.set_cons_zero, List.set_cons_succ]
                refine wpAnyH_take (i := 1) (v := .pointer (some ⟨w.heap.size, 0, none⟩)) (List.getElem?_toArray.trans rfl) (by kernel_rfl) (by kernel_rfl) (by kernel_rfl) (fun _ _ _ h => h) (Or.inl ⟨by rfl, fun w' hw => by go_simp⟩) hS ?_
                try simp only [Act.put, List.setIfInBounds_toArray, List.set_cons_zero, List.set_cons_succ]
                refine wpAnyH_take (i := 2) (v := .slice (some ⟨g, 0, none⟩) l.length cap) (List.getElem?_toArray.trans rfl) (by kernel_rfl) (by kernel_rfl) (by kernel_rfl) (fun _ _ _ h => h) (Or.inl ⟨by rfl, fun w' hw => by obtain ⟨r0, r1, x0, x1, x2, x3, x4, x5, y0, y1, y2, y3, y4, y5⟩ := hw; go_simp⟩) hS ?_
                try simp only [Act.put, List.setIfInBounds_toArray, List.set_cons_zero, List.set_cons_succ]
                refine wpAnyH_take (i := 3) (v := .int .i64 (l.length : Int)) (List.getElem?_toArray.trans rfl) (by kernel_rfl) (by kernel_rfl) (by kernel_rfl) (fun _ _ _ h => h) (Or.inl ⟨by rfl, fun w' hw => by go_simp⟩) hS ?_
                try simp only [Act.put, List.setIfInBounds_toArray, List.set_cons_zero, List.set_cons_succ]
                refine wpAnyH_take (i := 4) (v := .bool false) (List.getElem?_toArray.trans rfl) (by kernel_rfl) (by kernel_rfl) (by kernel_rfl) (fun _ _ _ h => h) (Or.inl ⟨by rfl, fun w' hw => by go_simp⟩) hS ?_
                try simp only [Act.put, List.setIfInBounds_toArray, List.set_cons_zero, List.set_cons_succ]
                refine wpAnyH_take (i := 5) (v := .bool false) (List.getElem?_toArray.trans rfl) (by kernel_rfl) (by kernel_rfl) (by kernel_rfl) (fun _ _ _ h => h) (Or.inl ⟨by rfl, fun w' hw => by go_simp⟩) hS ?_
                try simp only [Act.put, List.setIfInBounds_toArray, List.set_cons_zero, List.set_cons_succ]
                refine wpAnyH_take (i := 6) (v := .pointer (some ⟨w.heap.size + 1, 0, none⟩)) (List.getElem?_toArray.trans rfl) (by kernel_rfl) (by kernel_rfl) (by kernel_rfl) (fun _ _ _ h => h) (Or.inl ⟨by rfl, fun w' hw => by go_simp⟩) hS ?_
                try simp only [Act.put, List.setIfInBounds_toArray, List.set_cons_zero, List.set_cons_succ]
                refine wpAnyH_take (i := 7) (v := .slice (some ⟨g2, 0, none⟩) m.length cap2) (List.getElem?_toArray.trans rfl) (by kernel_rfl) (by kernel_rfl) (by kernel_rfl) (fun _ _ _ h => h) (Or.inl ⟨by rfl, fun w' hw => by obtain ⟨r0, r1, x0, x1, x2, x3, x4, x5, y0, y1, y2, y3, y4, y5⟩ := hw; go_simp⟩) hS ?_
                try simp only [Act.put, List.setIfInBounds_toArray, List.set_cons_zero, List.set_cons_succ]
                refine wpAnyH_take (i := 8) (v := .int .i64 (k : Int)) (List.getElem?_toArray.trans rfl) (by kernel_rfl) (by kernel_rfl) (by kernel_rfl) (fun _ _ _ h => h) (Or.inl ⟨by rfl, fun w' hw => by go_simp⟩) hS ?_
                try simp only [Act.put, List.setIfInBounds_toArray, List.set_cons_zero, List.set_cons_succ]
                refine wpAnyH_take (i := 9) (v := .pointer (some ⟨g2, k * 6, none⟩)) (List.getElem?_toArray.trans rfl) (by kernel_rfl) (by kernel_rfl) (by kernel_rfl) (fun _ _ _ h => h) (Or.inl ⟨by rfl, fun w' hw => by go_simp⟩) hS ?_
                try simp only [Act.put, List.setIfInBounds_toArray, List.set_cons_zero, List.set_cons_succ]
                refine wpAnyH_take (i := 10) (v := .agg #[.int .i64 y.time, .int .i64 y.actor, .int .i64 y.above, .int .i64 y.maker, .string y.byte, .bool y.gone]) (List.getElem?_toArray.trans rfl) (by kernel_rfl) (by kernel_rfl) (by kernel_rfl) (fun _ _ _ h => h) (Or.inl ⟨by rfl, fun w' hw => by obtain ⟨r0, r1, x0, x1, x2, x3, x4, x5, y0, y1, y2, y3, y4, y5⟩ := hw; go_simp⟩) hS ?_
                try simp only [Act.put, List.setIfInBounds_toArray, List.set_cons_zero, List.set_cons_succ]
                refine wpAnyH_take (i := 11) (v := .pointer (some ⟨w.heap.size, 0, none⟩)) (List.getElem?_toArray.trans rfl) (by kernel_rfl) (by kernel_rfl) (by kernel_rfl) (fun _ _ _ h => h) (Or.inl ⟨by rfl, fun w' hw => by go_simp⟩) hS ?_
                try simp only [Act.put, List.setIfInBounds_toArray, List.set_cons_zero, List.set_cons_succ]
                refine wpAnyH_take (i := 12) (v := .slice (some ⟨g, 0, none⟩) l.length cap) (List.getElem?_toArray.trans rfl) (by kernel_rfl) (by kernel_rfl) (by kernel_rfl) (fun _ _ _ h => h) (Or.inl ⟨by rfl, fun w' hw => by obtain ⟨r0, r1, x0, x1, x2, x3, x4, x5, y0, y1, y2, y3, y4, y5⟩ := hw; go_simp⟩) hS ?_
                try simp only [Act.put, List.setIfInBounds_toArray, List.set_cons_zero, List.set_cons_succ]
                refine wpAnyH_take (i := 13) (v := .int .i64 (i : Int)) (List.getElem?_toArray.trans rfl) (by kernel_rfl) (by kernel_rfl) (by kernel_rfl) (fun _ _ _ h => h) (Or.inl ⟨by rfl, fun w' hw => by go_simp⟩) hS ?_
                try simp only [Act.put, List.setIfInBounds_toArray, List.set_cons_zero, List.set_cons_succ]
                refine wpAnyH_take (i := 14) (v := .pointer (some ⟨g, i * 6, none⟩)) (List.getElem?_toArray.trans rfl) (by kernel_rfl) (by kernel_rfl) (by kernel_rfl) (fun _ _ _ h => h) (Or.inl ⟨by rfl, fun w' hw => by go_simp⟩) hS ?_
                try simp only [Act.put, List.setIfInBounds_toArray, List.set_cons_zero, List.set_cons_succ]
                refine wpAnyH_take (i := 15) (v := .agg #[.int .i64 x.time, .int .i64 x.actor, .int .i64 x.above, .int .i64 x.maker, .string x.byte, .bool x.gone]) (List.getElem?_toArray.trans rfl) (by kernel_rfl) (by kernel_rfl) (by kernel_rfl) (fun _ _ _ h => h) (Or.inl ⟨by rfl, fun w' hw => by obtain ⟨r0, r1, x0, x1, x2, x3, x4, x5, y0, y1, y2, y3, y4, y5⟩ := hw; go_simp⟩) hS ?_
                try simp only [Act.put, List.setIfInBounds_toArray, List.set_cons_zero, List.set_cons_succ]
                refine wpAnyH_ready (rs := [16]) (by kernel_rfl) (by simp) ?_
                refine AllReadyH.cons rfl (fun K hK => ?_) AllReadyH.nil
                go_simp
                go_at_call 22
                refine (LS2.out _).mono ?_
                rintro e v4 ⟨rfl, hv4⟩; have hbv4 : Below wr.heap.size wr v4 := hbv3.trans (((Below.refl _ _).drew.trans hv4).mono hbv3.size)
                have hS1 := KS.out v4 hbv4
                go_simp
                refine hK.out _ _ hS1 (fun _ => ?_)
                clear hK K
                refine wpAnyH_take (i := 17) (v := .bool false) (List.getElem?_toArray.trans rfl) (by kernel_rfl) (by kernel_rfl) (by kernel_rfl) (fun _ _ _ h => h) (Or.inl ⟨by rfl, fun w' hw => by go_simp⟩) hS1 ?_
                try simp only [Act.put, List.setIfInBounds_toArray, List.set_cons_zero, List.set_cons_succ]
                refine wpAnyH_take (i := 18) (v := .bool false) (List.getElem?_toArray.trans rfl) (by kernel_rfl) (by kernel_rfl) (by kernel_rfl) (fun _ _ _ h => h) (Or.inl ⟨by rfl, fun w' hw => by go_simp⟩) hS1 ?_
                try simp only [Act.put, List.setIfInBounds_toArray, List.set_cons_zero, List.set_cons_succ]
                refine wpAnyH_done (by kernel_rfl) ?_ _
                clear LS LS2 KS
                obtain ⟨x0, x1, x2, x3, x4, x5⟩ := at6 hbv4 (by omega) hx6.out
                have k0v := (J0.out.later hbv4).cell
                obtain ⟨w7, hw7⟩ : ∃ w7, w7 = v4.alloc (.cells #[.int .i64 x.time, .int .i64 x.actor, .int .i64 x.above, .int .i64 x.maker, .string x.byte, .bool x.gone] 47) := ⟨_, rfl⟩
                have hb7 : Below v4.heap.size v4 w7 := by rw [hw7]; exact (Below.refl _ _).alloc (Nat.le_refl _) _
                have BX7 : Hid (BxA w7 v4.heap.size x) := hide (by rw [hw7]; exact BxA.new _ x)
                have hP7 : Below wr.heap.size wr w7 := hbv4.trans (hb7.mono hbv4.size)
                have hr4 := hbv4.size
                go_wp2_with fail
                rw [← hw7]
                clear hw7 x0 x1 x2 x3 x4 x5 k0v
                obtain ⟨xg, hxg⟩ : ∃ g, g = x.gone := ⟨_, rfl⟩
                rw [← hxg] at AL
                have KS8 : Hid (∀ w', Below w7.heap.size w7 w' → w'.cell? ⟨v4.heap.size, 0, none⟩ = some (.int .i64 x.time) ∧ w'.cell? ⟨v4.heap.size, 1, none⟩ = some (.int .i64 x.actor) ∧ w'.cell? ⟨v4.heap.size, 2, none⟩ = some (.int .i64 x.above) ∧ w'.cell? ⟨v4.heap.size, 3, none⟩ = some (.int .i64 x.maker) ∧ w'.cell? ⟨v4.heap.size, 4, none⟩ = some (.string x.byte) ∧ w'.cell? ⟨v4.heap.size, 5, none⟩ = some (.bool xg) ∧ w'.cell? ⟨w.heap.size + 1, 0, none⟩ = some (.slice (some ⟨g2, 0, none⟩) m.length cap2) ∧ w'.cell? ⟨g2, k * 6, none⟩ = some (.int .i64 y.time) ∧ w'.cell? ⟨g2, k * 6 + 1, none⟩ = some (.int .i64 y.actor) ∧ w'.cell? ⟨g2, k * 6 + 2, none⟩ = some (.int .i64 y.above) ∧ w'.cell? ⟨g2, k * 6 + 3, none⟩ = some (.int .i64 y.maker) ∧ w'.cell? ⟨g2, k * 6 + 4, none⟩ = some (.string y.byte) ∧ w'.cell? ⟨g2, k * 6 + 5, none⟩ = some (.bool y.gone)) := hide (fun w' hb => by
                  rw [hxg]
                  have X := (BX7.out.later hb).cells
                  exact ⟨X.1, X.2.1, X.2.2.1, X.2.2.2.1, X.2.2.2.2.1, X.2.2.2.2.2, (J1.out.later (hP7.trans (hb.mono hP7.size))).cell, at6 (hP7.trans (hb.mono hP7.size)) (by omega) hy6.out⟩)
                have HXG := hide hxg
                clear hxg
                cases ha : alk x y with
                | false =>
                  have HRD : Hid (D = false ∧ R = []) := hide (HNN.out (by rw [HT.out.eq, HMG5.out, if_neg (by rw [ha]; simp)]; rfl))
                  rw [ha] at AL
                  clear ha HNN HSS
                  refine wp_region_held_drew (S := fun w' => w'.cell? ⟨v4.heap.size, 0, none⟩ = some (.int .i64 x.time) ∧ w'.cell? ⟨v4.heap.size, 1, none⟩ = some (.int .i64 x.actor) ∧ w'.cell? ⟨v4.heap.size, 2, none⟩ = some (.int .i64 x.above) ∧ w'.cell? ⟨v4.heap.size, 3, none⟩ = some (.int .i64 x.maker) ∧ w'.cell? ⟨v4.heap.size, 4, none⟩ = some (.string x.byte) ∧ w'.cell? ⟨v4.heap.size, 5, none⟩ = some (.bool xg) ∧ w'.cell? ⟨w.heap.size + 1, 0, none⟩ = some (.slice (some ⟨g2, 0, none⟩) m.length cap2) ∧ w'.cell? ⟨g2, k * 6, none⟩ = some (.int .i64 y.time) ∧ w'.cell? ⟨g2, k * 6 + 1, none⟩ = some (.int .i64 y.actor) ∧ w'.cell? ⟨g2, k * 6 + 2, none⟩ = some (.int .i64 y.above) ∧ w'.cell? ⟨g2, k * 6 + 3, none⟩ = some (.int .i64 y.maker) ∧ w'.cell? ⟨g2, k * 6 + 4, none⟩ = some (.string y.byte) ∧ w'.cell? ⟨g2, k * 6 + 5, none⟩ = some (.bool y.gone)) (by kernel_rfl) (KS8.out _ (Below.refl _ _).drew) (fun hS => ?_)
                  refine wpAnyH_take (i := 0) (v := .agg #[.int .i64 x.time, .int .i64 x.actor, .int .i64 x.above, .int .i64 x.maker, .string x.byte, .bool xg]) (List.getElem?_toArray.trans rfl) (by kernel_rfl) (by kernel_rfl) (by kernel_rfl) (fun _ _ _ h => h) (Or.inl ⟨by rfl, fun w' hw => by obtain ⟨b0, b1, b2, b3, b4, b5, r1, y0, y1, y2, y3, y4, y5⟩ := hw; go_simp⟩) hS ?_
                  try simp only [Act.put, List.setIfInBounds_toArray, List.set_cons_zero, List.set_cons_succ]
                  refine wpAnyH_take (i := 1) (v := .pointer (some ⟨w.heap.size + 1, 0, none⟩)) (List.getElem?_toArray.trans rfl) (by kernel_rfl) (by kernel_rfl) (by kernel_rfl) (fun _ _ _ h => h) (Or.inl ⟨by rfl, fun w' hw => by go_simp⟩) hS ?_
                  try simp only [Act.put, List.setIfInBounds_toArray, List.set_cons_zero, List.set_cons_succ]
                  refine wpAnyH_take (i := 2) (v := .slice (some ⟨g2, 0, none⟩) m.length cap2) (List.getElem?_toArray.trans rfl) (by kernel_rfl) (by kernel_rfl) (by kernel_rfl) (fun _ _ _ h => h) (Or.inl ⟨by rfl, fun w' hw => by obtain ⟨b0, b1, b2, b3, b4, b5, r1, y0, y1, y2, y3, y4, y5⟩ := hw; go_simp⟩) hS ?_
                  try simp only [Act.put, List.setIfInBounds_toArray, List.set_cons_zero, List.set_cons_succ]
                  refine wpAnyH_take (i := 3) (v := .int .i64 (k : Int)) (List.getElem?_toArray.trans rfl) (by kernel_rfl) (by kernel_rfl) (by kernel_rfl) (fun _ _ _ h => h) (Or.inl ⟨by rfl, fun w' hw => by go_simp⟩) hS ?_
                  try simp only [Act.put, List.setIfInBounds_toArray, List.set_cons_zero, List.set_cons_succ]
                  refine wpAnyH_take (i := 4) (v := .pointer (some ⟨g2, k * 6, none⟩)) (List.getElem?_toArray.trans rfl) (by kernel_rfl) (by kernel_rfl) (by kernel_rfl) (fun _ _ _ h => h) (Or.inl ⟨by rfl, fun w' hw => by go_simp⟩) hS ?_
                  try simp only [Act.put, List.setIfInBounds_toArray, List.set_cons_zero, List.set_cons_succ]
                  refine wpAnyH_take (i := 5) (v := .agg #[.int .i64 y.time, .int .i64 y.actor, .int .i64 y.above, .int .i64 y.maker, .string y.byte, .bool y.gone]) (List.getElem?_toArray.trans rfl) (by kernel_rfl) (by kernel_rfl) (by kernel_rfl) (fun _ _ _ h => h) (Or.inl ⟨by rfl, fun w' hw => by obtain ⟨b0, b1, b2, b3, b4, b5, r1, y0, y1, y2, y3, y4, y5⟩ := hw; go_simp⟩) hS ?_
                  try simp only [Act.put, List.setIfInBounds_toArray, List.set_cons_zero, List.set_cons_succ]
                  refine wpAnyH_ready (rs := [6]) (by kernel_rfl) (by simp) ?_
                  refine AllReadyH.cons rfl (fun K hK => ?_) AllReadyH.nil
                  go_simp
                  go_at_call 23
                  refine (AL.out _).mono ?_
                  rintro e v8 ⟨rfl, hv8⟩; have hb8 : Below w7.heap.size w7 v8 := (Below.refl _ _).drew.trans hv8
                  have hS1 := KS8.out v8 hb8
                  go_simp
                  refine hK.out _ _ hS1 (fun _ => ?_)
                  clear hK K
                  refine wpAnyH_take (i := 7) (v := .bool true) (List.getElem?_toArray.trans rfl) (by kernel_rfl) (by kernel_rfl) (by kernel_rfl) (fun _ _ _ h => h) (Or.inl ⟨by rfl, fun w' hw => by go_simp⟩) hS1 ?_
                  try simp only [Act.put, List.setIfInBounds_toArray, List.set_cons_zero, List.set_cons_succ]
                  refine wpAnyH_done (by kernel_rfl) ?_ _
                  have HB8 := hide (hP7.trans (hb8.mono hP7.size))
                  have HK8 := hide (J2.out.later HB8.out)
                  have HBw8 := hide (HBW.out.trans (HB8.out.mono HBW.out.size))
                  have k3 := HK8.out.cell
                  have f3 := HK8.out.fz
                  clear KS8
                  go_wp2
                  refine bodyPost_ret (results_cell_tmp rfl _ _ (w.heap.size + 2) 28 _ (0, 0) _ (.bool false) rfl rfl (HK8.out.put _) Tryd.underlying28 rfl sizeSeqI) rfl ?_
                  rw [HRD.out.1, HRD.out.2]
                  exact ⟨_, rfl, World.ownsRow_nil _ _ _ _, HBw8.out.setCell (p := ⟨w.heap.size + 2, 0, none⟩) (by show w.heap.size ≤ w.heap.size + 2; omega) _⟩
                | true =>
                  have HMG : Hid (mrg (l.drop i) (m.drop k) = (mrg (l.drop (i + 1)) (m.drop (k + 1))).map ({ x with gone := xg || y.gone } :: ·)) := hide (by rw [HMG5.out, if_pos ha, HXG.out])
                  rw [ha] at AL
                  clear ha HNN HSS HMG5
                  refine wp_region_held_drew (S := fun w' => w'.cell? ⟨v4.heap.size, 0, none⟩ = some (.int .i64 x.time) ∧ w'.cell? ⟨v4.heap.size, 1, none⟩ = some (.int .i64 x.actor) ∧ w'.cell? ⟨v4.heap.size, 2, none⟩ = some (.int .i64 x.above) ∧ w'.cell? ⟨v4.heap.size, 3, none⟩ = some (.int .i64 x.maker) ∧ w'.cell? ⟨v4.heap.size, 4, none⟩ = some (.string x.byte) ∧ w'.cell? ⟨v4.heap.size, 5, none⟩ = some (.bool xg) ∧ w'.cell? ⟨w.heap.size + 1, 0, none⟩ = some (.slice (some ⟨g2, 0, none⟩) m.length cap2) ∧ w'.cell? ⟨g2, k * 6, none⟩ = some (.int .i64 y.time) ∧ w'.cell? ⟨g2, k * 6 + 1, none⟩ = some (.int .i64 y.actor) ∧ w'.cell? ⟨g2, k * 6 + 2, none⟩ = some (.int .i64 y.above) ∧ w'.cell? ⟨g2, k * 6 + 3, none⟩ = some (.int .i64 y.maker) ∧ w'.cell? ⟨g2, k * 6 + 4, none⟩ = some (.string y.byte) ∧ w'.cell? ⟨g2, k * 6 + 5, none⟩ = some (.bool y.gone)) (by kernel_rfl) (KS8.out _ (Below.refl _ _).drew) (fun hS => ?_)
                  refine wpAnyH_take (i := 0) (v := .agg #[.int .i64 x.time, .int .i64 x.actor, .int .i64 x.above, .int .i64 x.maker, .string x.byte, .bool xg]) (List.getElem?_toArray.trans rfl) (by kernel_rfl) (by kernel_rfl) (by kernel_rfl) (fun _ _ _ h => h) (Or.inl ⟨by rfl, fun w' hw => by obtain ⟨b0, b1, b2, b3, b4, b5, r1, y0, y1, y2, y3, y4, y5⟩ := hw; go_simp⟩) hS ?_
                  try simp only [Act.put, List.setIfInBounds_toArray, List.set_cons_zero, List.set_cons_succ]
                  refine wpAnyH_take (i := 1) (v := .pointer (some ⟨w.heap.size + 1, 0, none⟩)) (List.getElem?_toArray.trans rfl) (by kernel_rfl) (by kernel_rfl) (by kernel_rfl) (fun _ _ _ h => h) (Or.inl ⟨by rfl, fun w' hw => by go_simp⟩) hS ?_
                  try simp only [Act.put, List.setIfInBounds_toArray, List.set_cons_zero, List.set_cons_succ]
                  refine wpAnyH_take (i := 2) (v := .slice (some ⟨g2, 0, none⟩) m.length cap2) (List.getElem?_toArray.trans rfl) (by kernel_rfl) (by kernel_rfl) (by kernel_rfl) (fun _ _ _ h => h) (Or.inl ⟨by rfl, fun w' hw => by obtain ⟨b0, b1, b2, b3, b4, b5, r1, y0, y1, y2, y3, y4, y5⟩ := hw; go_simp⟩) hS ?_
                  try simp only [Act.put, List.setIfInBounds_toArray, List.set_cons_zero, List.set_cons_succ]
                  refine wpAnyH_take (i := 3) (v := .int .i64 (k : Int)) (List.getElem?_toArray.trans rfl) (by kernel_rfl) (by kernel_rfl) (by kernel_rfl) (fun _ _ _ h => h) (Or.inl ⟨by rfl, fun w' hw => by go_simp⟩) hS ?_
                  try simp only [Act.put, List.setIfInBounds_toArray, List.set_cons_zero, List.set_cons_succ]
                  refine wpAnyH_take (i := 4) (v := .pointer (some ⟨g2, k * 6, none⟩)) (List.getElem?_toArray.trans rfl) (by kernel_rfl) (by kernel_rfl) (by kernel_rfl) (fun _ _ _ h => h) (Or.inl ⟨by rfl, fun w' hw => by go_simp⟩) hS ?_
                  try simp only [Act.put, List.setIfInBounds_toArray, List.set_cons_zero, List.set_cons_succ]
                  refine wpAnyH_take (i := 5) (v := .agg #[.int .i64 y.time, .int .i64 y.actor, .int .i64 y.above, .int .i64 y.maker, .string y.byte, .bool y.gone]) (List.getElem?_toArray.trans rfl) (by kernel_rfl) (by kernel_rfl) (by kernel_rfl) (fun _ _ _ h => h) (Or.inl ⟨by rfl, fun w' hw => by obtain ⟨b0, b1, b2, b3, b4, b5, r1, y0, y1, y2, y3, y4, y5⟩ := hw; go_simp⟩) hS ?_
                  try simp only [Act.put, List.setIfInBounds_toArray, List.set_cons_zero, List.set_cons_succ]
                  refine wpAnyH_ready (rs := [6]) (by kernel_rfl) (by simp) ?_
                  refine AllReadyH.cons rfl (fun K hK => ?_) AllReadyH.nil
                  go_simp
                  go_at_call 23
                  refine (AL.out _).mono ?_
                  rintro e v8 ⟨rfl, hv8⟩; have hb8 : Below w7.heap.size w7 v8 := (Below.refl _ _).drew.trans hv8
                  have hS1 := KS8.out v8 hb8
                  go_simp
                  refine hK.out _ _ hS1 (fun _ => ?_)
                  clear hK K
                  refine wpAnyH_take (i := 7) (v := .bool false) (List.getElem?_toArray.trans rfl) (by kernel_rfl) (by kernel_rfl) (by kernel_rfl) (fun _ _ _ h => h) (Or.inl ⟨by rfl, fun w' hw => by go_simp⟩) hS1 ?_
                  try simp only [Act.put, List.setIfInBounds_toArray, List.set_cons_zero, List.set_cons_succ]
                  refine wpAnyH_done (by kernel_rfl) ?_ _
                  have HB8 := hide (hP7.trans (hb8.mono hP7.size))
                  have BX8 := hide (BX7.out.later hb8)
                  have HR4 : wr.heap.size ≤ v4.heap.size := hr4
                  have h48 : v4.heap.size < v8.heap.size := BX8.out.lt
                  obtain ⟨b0, b1, b2, b3, b4, b5⟩ := BX8.out.cells
                  rw [← HXG.out] at b5
                  have e5 := frozen_of_row BX8.out 5
                  have e6 := (HT.out.box.later HB8.out).cell
                  have k1v := (J1.out.later HB8.out).cell
                  have y5 := (at6 HB8.out (by omega) hy6.out).2.2.2.2.2
                  have n1 : ¬ v4.heap.size = w2.heap.size := by omega
                  have n2 : ¬ w2.heap.size = v4.heap.size := by omega
                  have FX : Hid (∀ zg : Bool, BxA (v8.setCell ⟨v4.heap.size, 5, none⟩ (.bool zg)) v4.heap.size { x with gone := zg }) := hide (fun zg => by unfold BxA; rw [cell_put BX8.out]; rfl)
                  have FO : Hid (∀ zg : Bool, AmOwn (v8.setCell ⟨v4.heap.size, 5, none⟩ (.bool zg)) (w2.heap.size + 1) (.slice av out.length cv) out) := hide (fun zg => set_keepA HT.out.own HR4 HB8.out _ _)
                  have FP : Hid (∀ zg : Bool, Below wr.heap.size wr (v8.setCell ⟨v4.heap.size, 5, none⟩ (.bool zg))) := hide (fun zg => HB8.out.setCell (p := ⟨v4.heap.size, 5, none⟩) HR4 _)
                  have FS : Hid (∀ zg : Bool, (v8.setCell ⟨v4.heap.size, 5, none⟩ (.bool zg)).heap.size = v8.heap.size) := hide (fun zg => by simp [World.setCell])
                  clear KS8 HXG hS1 hS
                  cases xg with
                  | true =>
                    have HAI : Hid (AmIn ((v8.setCell ⟨v4.heap.size, 5, none⟩ (.bool true)).alloc (.cells #[.int .i64 x.time, .int .i64 x.actor, .int .i64 x.above, .int .i64 x.maker, .string x.byte, .bool true] 47)) (some ⟨v8.heap.size, 0, none⟩) 1 [({ x with gone := true } : Am)]) := hide (by have := AmIn.one (v8.setCell ⟨v4.heap.size, 5, none⟩ (.bool true)) { x with gone := true }; rwa [FS.out] at this)
                    have OW9 := hide (FO.out true)
                    have hP9 : Hid (Below wr.heap.size wr ((v8.setCell ⟨v4.heap.size, 5, none⟩ (.bool true)).alloc (.cells #[.int .i64 x.time, .int .i64 x.actor, .int .i64 x.above, .int .i64 x.maker, .string x.byte, .bool true] 47))) := hide ((FP.out true).alloc (FP.out true).size _)
                    obtain ⟨d0, d1, d2, d3, d4, d5⟩ := (FX.out true).cells
                    have HMGz : Hid (mrg (l.drop i) (m.drop k) = (mrg (l.drop (i + 1)) (m.drop (k + 1))).map (({ x with gone := true } : Am) :: ·)) := HMG
                    have hsz8 : w2.heap.size + 1 ≤ v8.heap.size := by omega
                    clear FX FO FP
                    go_wp2_with (at_builtin; go_loud (refine append_ams _ rfl _ _ rfl (w2.heap.size + 1) _ out (OW9.out.alloc _) _ 1 [({ x with gone := true } : Am)] (by simp <;> omega) rfl rfl HAI.out (by simp <;> omega) ?_); intro v5 w5 own5 grow5 _; have NX := hide (HT.out.next HO3.out (i2 := i + 1) (k2 := k + 1) (by omega) HMGz.out hP9.out own5 grow5); have kO := NX.out.1.cell; have fO := NX.out.1.fz; obtain ⟨a5, c5, he5, -⟩ := own_shp own5; rw [show (out ++ [({ x with gone := true } : Am)]).length = out.length + 1 by simp] at he5; subst he5; clear own5 grow5)
                    exact ⟨⟨i + 1, k + 1, by omega, by omega, by first | rfl | go_num, by first | rfl | go_num, _, _, hide NX.out.2⟩, by simp [intOf]; omega⟩
                  | false =>
                    have HAI : Hid (AmIn ((v8.setCell ⟨v4.heap.size, 5, none⟩ (.bool y.gone)).alloc (.cells #[.int .i64 x.time, .int .i64 x.actor, .int .i64 x.above, .int .i64 x.maker, .string x.byte, .bool y.gone] 47)) (some ⟨v8.heap.size, 0, none⟩) 1 [({ x with gone := y.gone } : Am)]) := hide (by have := AmIn.one (v8.setCell ⟨v4.heap.size, 5, none⟩ (.bool y.gone)) { x with gone := y.gone }; rwa [FS.out] at this)
                    have OW9 := hide (FO.out y.gone)
                    have hP9 : Hid (Below wr.heap.size wr ((v8.setCell ⟨v4.heap.size, 5, none⟩ (.bool y.gone)).alloc (.cells #[.int .i64 x.time, .int .i64 x.actor, .int .i64 x.above, .int .i64 x.maker, .string x.byte, .bool y.gone] 47))) := hide ((FP.out y.gone).alloc (FP.out y.gone).size _)
                    obtain ⟨d0, d1, d2, d3, d4, d5⟩ := (FX.out y.gone).cells
                    have HMGz : Hid (mrg (l.drop i) (m.drop k) = (mrg (l.drop (i + 1)) (m.drop (k + 1))).map (({ x with gone := y.gone } : Am) :: ·)) := HMG
                    have hsz8 : w2.heap.size + 1 ≤ v8.heap.size := by omega
                    clear FX FO FP
                    go_wp2_with (at_builtin; go_loud (refine append_ams _ rfl _ _ rfl (w2.heap.size + 1) _ out (OW9.out.alloc _) _ 1 [({ x with gone := y.gone } : Am)] (by simp <;> omega) rfl rfl HAI.out (by simp <;> omega) ?_); intro v5 w5 own5 grow5 _; have NX := hide (HT.out.next HO3.out (i2 := i + 1) (k2 := k + 1) (by omega) HMGz.out hP9.out own5 grow5); have kO := NX.out.1.cell; have fO := NX.out.1.fz; obtain ⟨a5, c5, he5, -⟩ := own_shp own5; rw [show (out ++ [({ x with gone := y.gone } : Am)]).length = out.length + 1 by simp] at he5; subst he5; clear own5 grow5)
                    exact ⟨⟨i + 1, k + 1, by omega, by omega, by first | rfl | go_num, by first | rfl | go_num, _, _, hide NX.out.2⟩, by simp [intOf]; omega⟩
          · have qke : ((k : Int) == (m.length : Int)) = true := by rw [beq_iff_eq]; omega
            have HMG : Hid (mrg (l.drop i) (m.drop k) = (mrg (l.drop (i + 1)) (m.drop k)).map (x :: ·)) := hide (by rw [hx]; exact mg_l hil (.inl (by omega)))
            have KS : Hid (∀ w', Below wr.heap.size wr w' → w'.cell? ⟨w.heap.size, 0, none⟩ = some (.slice (some ⟨g, 0, none⟩) l.length cap) ∧ w'.cell? ⟨w.heap.size + 1, 0, none⟩ = some (.slice a2 m.length cap2) ∧ w'.cell? ⟨g, i * 6, none⟩ = some (.int .i64 x.time) ∧ w'.cell? ⟨g, i * 6 + 1, none⟩ = some (.int .i64 x.actor) ∧ w'.cell? ⟨g, i * 6 + 2, none⟩ = some (.int .i64 x.above) ∧ w'.cell? ⟨g, i * 6 + 3, none⟩ = some (.int .i64 x.maker) ∧ w'.cell? ⟨g, i * 6 + 4, none⟩ = some (.string x.byte) ∧ w'.cell? ⟨g, i * 6 + 5, none⟩ = some (.bool x.gone)) := hide (fun w' hb => ⟨(J0.out.later hb).cell, (J1.out.later hb).cell, at6 hb (by omega) hx6.out⟩)
            clear hx HNN HSS
            go_wp2_with fail
            refine wp_region_held_drew (S := fun w' => w'.cell? ⟨w.heap.size, 0, none⟩ = some (.slice (some ⟨g, 0, none⟩) l.length cap) ∧ w'.cell? ⟨w.heap.size + 1, 0, none⟩ = some (.slice a2 m.length cap2) ∧ w'.cell? ⟨g, i * 6, none⟩ = some (.int .i64 x.time) ∧ w'.cell? ⟨g, i * 6 + 1, none⟩ = some (.int .i64 x.actor) ∧ w'.cell? ⟨g, i * 6 + 2, none⟩ = some (.int .i64 x.above) ∧ w'.cell? ⟨g, i * 6 + 3, none⟩ = some (.int .i64 x.maker) ∧ w'.cell? ⟨g, i * 6 + 4, none⟩ = some (.string x.byte) ∧ w'.cell? ⟨g, i * 6 + 5, none⟩ = some (.bool x.gone)) (by kernel_rfl) (KS.out _ (Below.refl _ _).drew) (fun hS => ?_)
            refine wpAnyH_take (i := 0) (v := .int .i64 (k : Int)) (List.getElem?_toArray.trans rfl) (by kernel_rfl) (by kernel_rfl) (by kernel_rfl) (fun _ _ _ h => h) (Or.inl ⟨by rfl, fun w' hw => by go_simp⟩) hS ?_
            try simp only [Act.put, List.setIfInBounds_toArray, List.set_cons_zero, List.set_cons_succ]
            refine wpAnyH_take (i := 1) (v := .pointer (some ⟨w.heap.size + 1, 0, none⟩)) (List.getElem?_toArray.trans rfl) (by kernel_rfl) (by kernel_rfl) (by kernel_rfl) (fun _ _ _ h => h) (Or.inl ⟨by rfl, fun w' hw => by go_simp⟩) hS ?_
            try simp only [Act.put, List.setIfInBounds_toArray, List.set_cons_zero, List.set_cons_succ]
            refine wpAnyH_take (i := 2) (v := .slice a2 m.length cap2) (List.getElem?_toArray.trans rfl) (by kernel_rfl) (by kernel_rfl) (by kernel_rfl) (fun _ _ _ h => h) (Or.inl ⟨by rfl, fun w' hw => by obtain ⟨r0, r1, x0, x1, x2, x3, x4, x5⟩ := hw; go_simp⟩) hS ?_
            try simp only [Act.put, List.setIfInBounds_toArray, List.set_cons_zero, List.set_cons_succ]
            refine wpAnyH_take (i := 3) (v := .int .i64 (m.length : Int)) (List.getElem?_toArray.trans rfl) (by kernel_rfl) (by kernel_rfl) (by kernel_rfl) (fun _ _ _ h => h) (Or.inl ⟨by rfl, fun w' hw => by go_simp⟩) hS ?_
            try simp only [Act.put, List.setIfInBounds_toArray, List.set_cons_zero, List.set_cons_succ]
            refine wpAnyH_take (i := 4) (v := .bool true) (List.getElem?_toArray.trans rfl) (by kernel_rfl) (by kernel_rfl) (by kernel_rfl) (fun _ _ _ h => h) (Or.inl ⟨by rfl, fun w' hw => by go_simp⟩) hS ?_
            try simp only [Act.put, List.setIfInBounds_toArray, List.set_cons_zero, List.set_cons_succ]
            refine wpAnyH_take (i := 5) (v := .bool true) (List.getElem?_toArray.trans rfl) (by kernel_rfl) (by kernel_rfl) (by kernel_rfl) (fun _ _ _ h => h) (Or.inl ⟨by rfl, fun w' hw => by go_simp⟩) hS ?_
            try simp only [Act.put, List.setIfInBounds_toArray, List.set_cons_zero, List.set_cons_succ]
            refine wpAnyH_take (i := 6) (v := undef) (List.getElem?_toArray.trans rfl) (by kernel_rfl) (by kernel_rfl) (by kernel_rfl) (fun _ _ _ h => h) (Or.inr ⟨by rfl, rfl⟩) hS ?_
            try simp only [Act.put, List.setIfInBounds_toArray, List.set_cons_zero, List.set_cons_succ]
            refine wpAnyH_take (i := 7) (v := undef) (List.getElem?_toArray.trans rfl) (by kernel_rfl) (by kernel_rfl) (by kernel_rfl) (fun _ _ _ h => h) (Or.inr ⟨by rfl, rfl⟩) hS ?_
            try simp only [Act.put, List.setIfInBounds_toArray, List.set_cons_zero, List.set_cons_succ]
            refine wpAnyH_take (i := 8) (v := undef) (List.getElem?_toArray.trans rfl) (by kernel_rfl) (by kernel_rfl) (by kernel_rfl) (fun _ _ _ h => h) (Or.inr ⟨by rfl, rfl⟩) hS ?_
            try simp only [Act.put, List.setIfInBounds_toArray, List.set_cons_zero, List.set_cons_succ]
            refine wpAnyH_take (i := 9) (v := undef) (List.getElem?_toArray.trans rfl) (by kernel_rfl) (by kernel_rfl) (by kernel_rfl) (fun _ _ _ h => h) (Or.inr ⟨by rfl, rfl⟩) hS ?_
            try simp only [Act.put, List.setIfInBounds_toArray, List.set_cons_zero, List.set_cons_succ]
            refine wpAnyH_take (i := 10) (v := undef) (List.getElem?_toArray.trans rfl) (by kernel_rfl) (by kernel_rfl) (by kernel_rfl) (fun _ _ _ h => h) (Or.inr ⟨by rfl, rfl⟩) hS ?_
            try simp only [Act.put, List.setIfInBounds_toArray, List.set_cons_zero, List.set_cons_succ]
            refine wpAnyH_take (i := 11) (v := undef) (List.getElem?_toArray.trans rfl) (by kernel_rfl) (by kernel_rfl) (by kernel_rfl) (fun _ _ _ h => h) (Or.inr ⟨by rfl, rfl⟩) hS ?_
            try simp only [Act.put, List.setIfInBounds_toArray, List.set_cons_zero, List.set_cons_succ]
            refine wpAnyH_take (i := 12) (v := undef) (List.getElem?_toArray.trans rfl) (by kernel_rfl) (by kernel_rfl) (by kernel_rfl) (fun _ _ _ h => h) (Or.inr ⟨by rfl, rfl⟩) hS ?_
            try simp only [Act.put, List.setIfInBounds_toArray, List.set_cons_zero, List.set_cons_succ]
            refine wpAnyH_take (i := 13) (v := undef) (List.getElem?_toArray.trans rfl) (by kernel_rfl) (by kernel_rfl) (by kernel_rfl) (fun _ _ _ h => h) (Or.inr ⟨by rfl, rfl⟩) hS ?_
            try simp only [Act.put, List.setIfInBounds_toArray, List.set_cons_zero, List.set_cons_succ]
            refine wpAnyH_take (i := 14) (v := undef) (List.getElem?_toArray.trans rfl) (by kernel_rfl) (by kernel_rfl) (by kernel_rfl) (fun _ _ _ h => h) (Or.inr ⟨by rfl, rfl⟩) hS ?_
            try simp only [Act.put, List.setIfInBounds_toArray, List.set_cons_zero, List.set_cons_succ]
            refine wpAnyH_take (i := 15) (v := undef) (List.getElem?_toArray.trans rfl) (by kernel_rfl) (by kernel_rfl) (by kernel_rfl) (fun _ _ _ h => h) (Or.inr ⟨by rfl, rfl⟩) hS ?_
            try simp only [Act.put, List.setIfInBounds_toArray, List.set_cons_zero, List.set_cons_succ]
            refine wpAnyH_take (i := 16) (v := undef) (List.getElem?_toArray.trans rfl) (by kernel_rfl) (by kernel_rfl) (by kernel_rfl) (fun _ _ _ h => h) (Or.inr ⟨by rfl, rfl⟩) hS ?_
            try simp only [Act.put, List.setIfInBounds_toArray, List.set_cons_zero, List.set_cons_succ]
            refine wpAnyH_take (i := 17) (v := undef) (List.getElem?_toArray.trans rfl) (by kernel_rfl) (by kernel_rfl) (by kernel_rfl) (fun _ _ _ h => h) (Or.inr ⟨by rfl, rfl⟩) hS ?_
            try simp only [Act.put, List.setIfInBounds_toArray, List.set_cons_zero, List.set_cons_succ]
            refine wpAnyH_take (i := 18) (v := undef) (List.getElem?_toArray.trans rfl) (by kernel_rfl) (by kernel_rfl) (by kernel_rfl) (fun _ _ _ h => h) (Or.inr ⟨by rfl, rfl⟩) hS ?_
            try simp only [Act.put, List.setIfInBounds_toArray, List.set_cons_zero, List.set_cons_succ]
            refine wpAnyH_take (i := 19) (v := undef) (List.getElem?_toArray.trans rfl) (by kernel_rfl) (by kernel_rfl) (by kernel_rfl) (fun _ _ _ h => h) (Or.inr ⟨by rfl, rfl⟩) hS ?_
            try simp only [Act.put, List.setIfInBounds_toArray, List.set_cons_zero, List.set_cons_succ]
            refine wpAnyH_take (i := 20) (v := undef) (List.getElem?_toArray.trans rfl) (by kernel_rfl) (by kernel_rfl) (by kernel_rfl) (fun _ _ _ h => h) (Or.inr ⟨by rfl, rfl⟩) hS ?_
            try simp only [Act.put, List.setIfInBounds_toArray, List.set_cons_zero, List.set_cons_succ]
            refine wpAnyH_take (i := 21) (v := undef) (List.getElem?_toArray.trans rfl) (by kernel_rfl) (by kernel_rfl) (by kernel_rfl) (fun _ _ _ h => h) (Or.inr ⟨by rfl, rfl⟩) hS ?_
            try simp only [Act.put, List.setIfInBounds_toArray, List.set_cons_zero, List.set_cons_succ]
            refine wpAnyH_take (i := 22) (v := undef) (List.getElem?_toArray.trans rfl) (by kernel_rfl) (by kernel_rfl) (by kernel_rfl) (fun _ _ _ h => h) (Or.inr ⟨by rfl, rfl⟩) hS ?_
            try simp only [Act.put, List.setIfInBounds_toArray, List.set_cons_zero, List.set_cons_succ]
            refine wpAnyH_take (i := 23) (v := undef) (List.getElem?_toArray.trans rfl) (by kernel_rfl) (by kernel_rfl) (by kernel_rfl) (fun _ _ _ h => h) (Or.inr ⟨by rfl, rfl⟩) hS ?_
            try simp only [Act.put, List.setIfInBounds_toArray, List.set_cons_zero, List.set_cons_succ]
            refine wpAnyH_take (i := 24) (v := .bool true) (List.getElem?_toArray.trans rfl) (by kernel_rfl) (by kernel_rfl) (by kernel_rfl) (fun _ _ _ h => h) (Or.inl ⟨by rfl, fun w' hw => by go_simp⟩) hS ?_
            try simp only [Act.put, List.setIfInBounds_toArray, List.set_cons_zero, List.set_cons_succ]
            refine wpAnyH_take (i := 25) (v := .bool true) (List.getElem?_toArray.trans rfl) (by kernel_rfl) (by kernel_rfl) (by kernel_rfl) (fun _ _ _ h => h) (Or.inl ⟨by rfl, fun w' hw => by go_simp⟩) hS ?_
            try simp only [Act.put, List.setIfInBounds_toArray, List.set_cons_zero, List.set_cons_succ]
            refine wpAnyH_done (by kernel_rfl) ?_ _
            obtain ⟨v3, hv3⟩ : ∃ v', v' = wr.drew := ⟨_, rfl⟩
            have hbv3 : Below wr.heap.size wr v3 := by rw [hv3]; exact (Below.refl _ _).drew
            rw [← hv3]
            clear hv3
            clear KS
            go_wp2_with fail
            have KX : Hid (∀ w', Below w2.heap.size v3 w' → w'.cell? ⟨w.heap.size, 0, none⟩ = some (.slice (some ⟨g, 0, none⟩) l.length cap) ∧ w'.cell? ⟨g, i * 6, none⟩ = some (.int .i64 x.time) ∧ w'.cell? ⟨g, i * 6 + 1, none⟩ = some (.int .i64 x.actor) ∧ w'.cell? ⟨g, i * 6 + 2, none⟩ = some (.int .i64 x.above) ∧ w'.cell? ⟨g, i * 6 + 3, none⟩ = some (.int .i64 x.maker) ∧ w'.cell? ⟨g, i * 6 + 4, none⟩ = some (.string x.byte) ∧ w'.cell? ⟨g, i * 6 + 5, none⟩ = some (.bool x.gone)) := hide (fun w' hb => ⟨(World.cell?_of_block (a := ⟨w.heap.size, 0, none⟩) (hb.block (w.heap.size) (by omega))).trans (J0.out.later hbv3).cell, at6 hb (by omega) (at6 (hbv3) (by omega) hx6.out)⟩)
            have BX3 := hide (HT.out.box.later hbv3)
            have OW3 := hide (own_below HT.out.own hbv3)
            have hO3 : w2.heap.size < v3.heap.size := BX3.out.lt
            refine wp_region_held_drew (S := fun w' => w'.cell? ⟨w.heap.size, 0, none⟩ = some (.slice (some ⟨g, 0, none⟩) l.length cap) ∧ w'.cell? ⟨g, i * 6, none⟩ = some (.int .i64 x.time) ∧ w'.cell? ⟨g, i * 6 + 1, none⟩ = some (.int .i64 x.actor) ∧ w'.cell? ⟨g, i * 6 + 2, none⟩ = some (.int .i64 x.above) ∧ w'.cell? ⟨g, i * 6 + 3, none⟩ = some (.int .i64 x.maker) ∧ w'.cell? ⟨g, i * 6 + 4, none⟩ = some (.string x.byte) ∧ w'.cell? ⟨g, i * 6 + 5, none⟩ = some (.bool x.gone)) (by kernel_rfl) (KX.out _ (Below.refl _ _).drew) (fun hS => ?_)
            obtain ⟨wa, hwa⟩ : ∃ w', v3.drew = w' := ⟨_, rfl⟩
            have hBa : Hid (Below w2.heap.size v3 wa) := hide (by rw [← hwa]; exact (Below.refl _ _).drew)
            have hPa : Hid (Below wr.heap.size wr wa) := hide (by rw [← hwa]; exact hbv3.drew)
            have BXa : Hid (CellR wa w2.heap.size (.slice av out.length cv)) := hide (by rw [← hwa]; exact BX3.out)
            have OWa : Hid (AmOwn wa (w2.heap.size + 1) (.slice av out.length cv) out) := hide (by rw [← hwa]; exact OW3.out)
            rw [hwa]
            clear hwa hS
            refine wpAnyH_take (i := 0) (v := .pointer (some ⟨w2.heap.size, 0, none⟩)) (List.getElem?_toArray.trans rfl) (by kernel_rfl) (by kernel_rfl) (by kernel_rfl) (fun _ _ _ h => h) (Or.inl ⟨by rfl, fun w' hw => by go_simp⟩) (KX.out _ hBa.out) ?_
            try simp only [Act.put, List.setIfInBounds_toArray, List.set_cons_zero, List.set_cons_succ]
            refine wpAnyH_take (i := 2) (v := .pointer (some ⟨w.heap.size, 0, none⟩)) (List.getElem?_toArray.trans rfl) (by kernel_rfl) (by kernel_rfl) (by kernel_rfl) (fun _ _ _ h => h) (Or.inl ⟨by rfl, fun w' hw => by go_simp⟩) (KX.out _ hBa.out) ?_
            try simp only [Act.put, List.setIfInBounds_toArray, List.set_cons_zero, List.set_cons_succ]
            refine wpAnyH_take (i := 3) (v := .slice (some ⟨g, 0, none⟩) l.length cap) (List.getElem?_toArray.trans rfl) (by kernel_rfl) (by kernel_rfl) (by kernel_rfl) (fun _ _ _ h => h) (Or.inl ⟨by rfl, fun w' hw => by obtain ⟨r0, x0, x1, x2, x3, x4, x5⟩ := hw; go_simp⟩) (KX.out _ hBa.out) ?_
            try simp only [Act.put, List.setIfInBounds_toArray, List.set_cons_zero, List.set_cons_succ]
            refine wpAnyH_take (i := 4) (v := .int .i64 (i : Int)) (List.getElem?_toArray.trans rfl) (by kernel_rfl) (by kernel_rfl) (by kernel_rfl) (fun _ _ _ h => h) (Or.inl ⟨by rfl, fun w' hw => by go_simp⟩) (KX.out _ hBa.out) ?_
            try simp only [Act.put, List.setIfInBounds_toArray, List.set_cons_zero, List.set_cons_succ]
            refine wpAnyH_take (i := 5) (v := .pointer (some ⟨g, i * 6, none⟩)) (List.getElem?_toArray.trans rfl) (by kernel_rfl) (by kernel_rfl) (by kernel_rfl) (fun _ _ _ h => h) (Or.inl ⟨by rfl, fun w' hw => by go_simp⟩) (KX.out _ hBa.out) ?_
            try simp only [Act.put, List.setIfInBounds_toArray, List.set_cons_zero, List.set_cons_succ]
            refine wpAnyH_take (i := 6) (v := .agg #[.int .i64 x.time, .int .i64 x.actor, .int .i64 x.above, .int .i64 x.maker, .string x.byte, .bool x.gone]) (List.getElem?_toArray.trans rfl) (by kernel_rfl) (by kernel_rfl) (by kernel_rfl) (fun _ _ _ h => h) (Or.inl ⟨by rfl, fun w' hw => by obtain ⟨r0, x0, x1, x2, x3, x4, x5⟩ := hw; go_simp⟩) (KX.out _ hBa.out) ?_
            try simp only [Act.put, List.setIfInBounds_toArray, List.set_cons_zero, List.set_cons_succ]
            refine wpAnyH_ready (rs := [1, 7]) (by kernel_rfl) (by simp) ?_
            refine AllReadyH.cons (List.getElem?_toArray.trans rfl) (fun K hK => ?_) ?_
            · skip
              have kO := BXa.out.cell
              go_simp
              refine hK.out _ _ (KX.out _ hBa.out) (fun _ => ?_)
              clear hK K kO
              try simp only [Act.put, List.setIfInBounds_toArray, List.set_cons_zero, List.set_cons_succ]
              refine wpAnyH_ready (rs := [7]) (by kernel_rfl) (by simp) ?_
              refine AllReadyH.cons (List.getElem?_toArray.trans rfl) (fun K hK => ?_) AllReadyH.nil
              go_simp
              have hBx1 : Hid (Below w2.heap.size v3 (wa.alloc (.cells #[.int .i64 x.time, .int .i64 x.actor, .int .i64 x.above, .int .i64 x.maker, .string x.byte, .bool x.gone] 47))) := hide (hBa.out.alloc (by have := hBa.out.size; omega) _)
              refine hK.out _ _ (KX.out _ hBx1.out) (fun _ => ?_)
              clear hK K
              try simp only [Act.put, List.setIfInBounds_toArray, List.set_cons_zero, List.set_cons_succ]
              have hPx1 : Hid (Below wr.heap.size wr (wa.alloc (.cells #[.int .i64 x.time, .int .i64 x.actor, .int .i64 x.above, .int .i64 x.maker, .string x.byte, .bool x.gone] 47))) := hide (hPa.out.alloc hPa.out.size _)
              have BXx1 : Hid (CellR (wa.alloc (.cells #[.int .i64 x.time, .int .i64 x.actor, .int .i64 x.above, .int .i64 x.maker, .string x.byte, .bool x.gone] 47)) w2.heap.size (.slice av out.length cv)) := hide (keep_al BXa.out)
              have OWx1 : Hid (AmOwn (wa.alloc (.cells #[.int .i64 x.time, .int .i64 x.actor, .int .i64 x.above, .int .i64 x.maker, .string x.byte, .bool x.gone] 47)) (w2.heap.size + 1) (.slice av out.length cv) out) := hide (World.ownsRow.alloc OWa.out _)
              have hM : Hid ((wa.alloc (.cells #[.int .i64 x.time, .int .i64 x.actor, .int .i64 x.above, .int .i64 x.maker, .string x.byte, .bool x.gone] 47)).heap[wa.heap.size]? = some (.cells #[.int .i64 x.time, .int .i64 x.actor, .int .i64 x.above, .int .i64 x.maker, .string x.byte, .bool x.gone] 47)) := hide (heap_alloc_new wa _)
              obtain ⟨x1, hwx1⟩ : ∃ w', wa.alloc (.cells #[.int .i64 x.time, .int .i64 x.actor, .int .i64 x.above, .int .i64 x.maker, .string x.byte, .bool x.gone] 47) = w' := ⟨_, rfl⟩
              rw [hwx1] at hBx1 hPx1 BXx1 OWx1 hM ⊢
              clear hwx1
              refine wpAnyH_ready (rs := [8]) (by kernel_rfl) (by simp) ?_
              refine AllReadyH.cons (List.getElem?_toArray.trans rfl) (fun K hK => ?_) AllReadyH.nil
              refine step_ams rfl _ _ rfl (w2.heap.size + 1) (.slice av out.length cv) out (some ⟨wa.heap.size, 0, none⟩) 1 [x] (by simp <;> omega) rfl rfl OWx1.out (am_at hM.out) (BXx1.out.lt) ?_
              intro v5 w5 own5 grow5
              have NX := hide (HT.out.next HO3.out (i2 := i + 1) (k2 := k) (by omega) HMG.out hPx1.out own5 grow5)
              have hB5 : Hid (Below w2.heap.size v3 w5) := hide (hBx1.out.grown grow5 (by have := hBx1.out.size; omega) (fun y hy => by have := (World.ownsRow.lt OWx1.out y hy).1; omega))
              obtain ⟨a5, c5, he5, -⟩ := own_shp own5
              rw [show (out ++ [x]).length = out.length + 1 by simp] at he5
              subst he5
              have kO := NX.out.1.cell
              have fO := NX.out.1.fz
              clear own5 grow5
              refine hK.out _ _ (KX.out _ hB5.out) (fun _ => ?_)
              clear hK K
              try simp only [Act.put, List.setIfInBounds_toArray, List.set_cons_zero, List.set_cons_succ]
              refine wpAnyH_take (i := 9) (v := .pointer (some ⟨w2.heap.size, 0, none⟩)) (List.getElem?_toArray.trans rfl) (by kernel_rfl) (by kernel_rfl) (by kernel_rfl) (fun _ _ _ h => h) (Or.inl ⟨by rfl, fun w' hw => by go_simp⟩) (KX.out _ hB5.out) ?_
              try simp only [Act.put, List.setIfInBounds_toArray, List.set_cons_zero, List.set_cons_succ]
              refine wpAnyH_ready (rs := [10]) (by kernel_rfl) (by simp) ?_
              refine AllReadyH.cons (List.getElem?_toArray.trans rfl) (fun K hK => ?_) AllReadyH.nil
              go_simp
              refine hK.out _ _ (KX.out _ (hB5.out.setCell (p := ⟨w2.heap.size, 0, none⟩) (Nat.le_refl _) _)) (fun _ => ?_)
              clear hK K kO fO
              try simp only [Act.put, List.setIfInBounds_toArray, List.set_cons_zero, List.set_cons_succ]
              refine wpAnyH_done (by kernel_rfl) ?_ _
              have N5 := hide NX.out.2
              clear NX
              go_wp2
              exact ⟨⟨i + 1, k, by omega, by omega, by first | rfl | go_num, by first | rfl | go_num, _, _, N5⟩, by simp [intOf]; omega⟩
            refine AllReadyH.cons (List.getElem?_toArray.trans rfl) (fun K hK => ?_) AllReadyH.nil
            go_simp
            have hBx2 : Hid (Below w2.heap.size v3 (wa.alloc (.cells #[.int .i64 x.time, .int .i64 x.actor, .int .i64 x.above, .int .i64 x.maker, .string x.byte, .bool x.gone] 47))) := hide (hBa.out.alloc (by have := hBa.out.size; omega) _)
            refine hK.out _ _ (KX.out _ hBx2.out) (fun _ => ?_)
            clear hK K
            try simp only [Act.put, List.setIfInBounds_toArray, List.set_cons_zero, List.set_cons_succ]
            have hPx2 : Hid (Below wr.heap.size wr (wa.alloc (.cells #[.int .i64 x.time, .int .i64 x.actor, .int .i64 x.above, .int .i64 x.maker, .string x.byte, .bool x.gone] 47))) := hide (hPa.out.alloc hPa.out.size _)
            have BXx2 : Hid (CellR (wa.alloc (.cells #[.int .i64 x.time, .int .i64 x.actor, .int .i64 x.above, .int .i64 x.maker, .string x.byte, .bool x.gone] 47)) w2.heap.size (.slice av out.length cv)) := hide (keep_al BXa.out)
            have OWx2 : Hid (AmOwn (wa.alloc (.cells #[.int .i64 x.time, .int .i64 x.actor, .int .i64 x.above, .int .i64 x.maker, .string x.byte, .bool x.gone] 47)) (w2.heap.size + 1) (.slice av out.length cv) out) := hide (World.ownsRow.alloc OWa.out _)
            have hM : Hid ((wa.alloc (.cells #[.int .i64 x.time, .int .i64 x.actor, .int .i64 x.above, .int .i64 x.maker, .string x.byte, .bool x.gone] 47)).heap[wa.heap.size]? = some (.cells #[.int .i64 x.time, .int .i64 x.actor, .int .i64 x.above, .int .i64 x.maker, .string x.byte, .bool x.gone] 47)) := hide (heap_alloc_new wa _)
            obtain ⟨x2, hwx2⟩ : ∃ w', wa.alloc (.cells #[.int .i64 x.time, .int .i64 x.actor, .int .i64 x.above, .int .i64 x.maker, .string x.byte, .bool x.gone] 47) = w' := ⟨_, rfl⟩
            rw [hwx2] at hBx2 hPx2 BXx2 OWx2 hM ⊢
            clear hwx2
            refine wpAnyH_ready (rs := [1]) (by kernel_rfl) (by simp) ?_
            refine AllReadyH.cons (List.getElem?_toArray.trans rfl) (fun K hK => ?_) AllReadyH.nil
            have kO := BXx2.out.cell
            go_simp
            refine hK.out _ _ (KX.out _ hBx2.out) (fun _ => ?_)
            clear hK K kO
            try simp only [Act.put, List.setIfInBounds_toArray, List.set_cons_zero, List.set_cons_succ]
            refine wpAnyH_ready (rs := [8]) (by kernel_rfl) (by simp) ?_
            refine AllReadyH.cons (List.getElem?_toArray.trans rfl) (fun K hK => ?_) AllReadyH.nil
            refine step_ams rfl _ _ rfl (w2.heap.size + 1) (.slice av out.length cv) out (some ⟨wa.heap.size, 0, none⟩) 1 [x] (by simp <;> omega) rfl rfl OWx2.out (am_at hM.out) (BXx2.out.lt) ?_
            intro v5 w5 own5 grow5
            have NX := hide (HT.out.next HO3.out (i2 := i + 1) (k2 := k) (by omega) HMG.out hPx2.out own5 grow5)
            have hB5 : Hid (Below w2.heap.size v3 w5) := hide (hBx2.out.grown grow5 (by have := hBx2.out.size; omega) (fun y hy => by have := (World.ownsRow.lt OWx2.out y hy).1; omega))
            obtain ⟨a5, c5, he5, -⟩ := own_shp own5
            rw [show (out ++ [x]).length = out.length + 1 by simp] at he5
            subst he5
            have kO := NX.out.1.cell
            have fO := NX.out.1.fz
            clear own5 grow5
            refine hK.out _ _ (KX.out _ hB5.out) (fun _ => ?_)
            clear hK K
            try simp only [Act.put, List.setIfInBounds_toArray, List.set_cons_zero, List.set_cons_succ]
            refine wpAnyH_take (i := 9) (v := .pointer (some ⟨w2.heap.size, 0, none⟩)) (List.getElem?_toArray.trans rfl) (by kernel_rfl) (by kernel_rfl) (by kernel_rfl) (fun _ _ _ h => h) (Or.inl ⟨by rfl, fun w' hw => by go_simp⟩) (KX.out _ hB5.out) ?_
            try simp only [Act.put, List.setIfInBounds_toArray, List.set_cons_zero, List.set_cons_succ]
            refine wpAnyH_ready (rs := [10]) (by kernel_rfl) (by simp) ?_
            refine AllReadyH.cons (List.getElem?_toArray.trans rfl) (fun K hK => ?_) AllReadyH.nil
            go_simp
            refine hK.out _ _ (KX.out _ (hB5.out.setCell (p := ⟨w2.heap.size, 0, none⟩) (Nat.le_refl _) _)) (fun _ => ?_)
            clear hK K kO fO
            try simp only [Act.put, List.setIfInBounds_toArray, List.set_cons_zero, List.set_cons_succ]
            refine wpAnyH_done (by kernel_rfl) ?_ _
            have N5 := hide NX.out.2
            clear NX
            go_wp2
            exact ⟨⟨i + 1, k, by omega, by omega, by first | rfl | go_num, by first | rfl | go_num, _, _, N5⟩, by simp [intOf]; omega⟩
        · have qie : ((i : Int) == (l.length : Int)) = true := by rw [beq_iff_eq]; omega
          have qin : ¬ (i : Int) < (l.length : Int) := by omega
          by_cases hkm : k < m.length
          · have qkm : (k : Int) < (m.length : Int) := by omega
            obtain ⟨g2, rfl, hg2, -⟩ := H2.out.inn.ad (by intro c; rw [c] at hkm; simp at hkm)
            obtain ⟨g2', e2', -, hc2⟩ := A2.out.inn.ad (by intro c; rw [c] at hkm; simp at hkm)
            cases e2'
            obtain ⟨y, hy⟩ : ∃ y, y = m[k] := ⟨_, rfl⟩
            have hy6' := hc2.amat k hkm
            rw [← hy] at hy6'
            have hy6 := hide hy6'
            clear hc2 hy6'
            have qke : ((k : Int) == (m.length : Int)) = false := by rw [beq_eq_false_iff_ne]; omega
            have HMG : Hid (mrg (l.drop i) (m.drop k) = (mrg (l.drop i) (m.drop (k + 1))).map (y :: ·)) := hide (by rw [hy]; exact mg_r hkm (.inl (by omega)))
            have KS : Hid (∀ w', Below wr.heap.size wr w' → w'.cell? ⟨w.heap.size, 0, none⟩ = some (.slice a l.length cap) ∧ w'.cell? ⟨w.heap.size + 1, 0, none⟩ = some (.slice (some ⟨g2, 0, none⟩) m.length cap2) ∧ w'.cell? ⟨g2, k * 6, none⟩ = some (.int .i64 y.time) ∧ w'.cell? ⟨g2, k * 6 + 1, none⟩ = some (.int .i64 y.actor) ∧ w'.cell? ⟨g2, k * 6 + 2, none⟩ = some (.int .i64 y.above) ∧ w'.cell? ⟨g2, k * 6 + 3, none⟩ = some (.int .i64 y.maker) ∧ w'.cell? ⟨g2, k * 6 + 4, none⟩ = some (.string y.byte) ∧ w'.cell? ⟨g2, k * 6 + 5, none⟩ = some (.bool y.gone)) := hide (fun w' hb => ⟨(J0.out.later hb).cell, (J1.out.later hb).cell, at6 hb (by omega) hy6.out⟩)
            clear hy HNN HSS
            go_wp2_with fail
            refine wp_region_held_drew (S := fun w' => w'.cell? ⟨w.heap.size, 0, none⟩ = some (.slice a l.length cap) ∧ w'.cell? ⟨w.heap.size + 1, 0, none⟩ = some (.slice (some ⟨g2, 0, none⟩) m.length cap2) ∧ w'.cell? ⟨g2, k * 6, none⟩ = some (.int .i64 y.time) ∧ w'.cell? ⟨g2, k * 6 + 1, none⟩ = some (.int .i64 y.actor) ∧ w'.cell? ⟨g2, k * 6 + 2, none⟩ = some (.int .i64 y.above) ∧ w'.cell? ⟨g2, k * 6 + 3, none⟩ = some (.int .i64 y.maker) ∧ w'.cell? ⟨g2, k * 6 + 4, none⟩ = some (.string y.byte) ∧ w'.cell? ⟨g2, k * 6 + 5, none⟩ = some (.bool y.gone)) (by kernel_rfl) (KS.out _ (Below.refl _ _).drew) (fun hS => ?_)
            refine wpAnyH_take (i := 0) (v := .int .i64 (k : Int)) (List.getElem?_toArray.trans rfl) (by kernel_rfl) (by kernel_rfl) (by kernel_rfl) (fun _ _ _ h => h) (Or.inl ⟨by rfl, fun w' hw => by go_simp⟩) hS ?_
            try simp only [Act.put, List.setIfInBounds_toArray, List.set_cons_zero, List.set_cons_succ]
            refine wpAnyH_take (i := 1) (v := .pointer (some ⟨w.heap.size + 1, 0, none⟩)) (List.getElem?_toArray.trans rfl) (by kernel_rfl) (by kernel_rfl) (by kernel_rfl) (fun _ _ _ h => h) (Or.inl ⟨by rfl, fun w' hw => by go_simp⟩) hS ?_
            try simp only [Act.put, List.setIfInBounds_toArray, List.set_cons_zero, List.set_cons_succ]
            refine wpAnyH_take (i := 2) (v := .slice (some ⟨g2, 0, none⟩) m.length cap2) (List.getElem?_toArray.trans rfl) (by kernel_rfl) (by kernel_rfl) (by kernel_rfl) (fun _ _ _ h => h) (Or.inl ⟨by rfl, fun w' hw => by obtain ⟨r0, r1, y0, y1, y2, y3, y4, y5⟩ := hw; go_simp⟩) hS ?_
            try simp only [Act.put, List.setIfInBounds_toArray, List.set_cons_zero, List.set_cons_succ]
            refine wpAnyH_take (i := 3) (v := .int .i64 (m.length : Int)) (List.getElem?_toArray.trans rfl) (by kernel_rfl) (by kernel_rfl) (by kernel_rfl) (fun _ _ _ h => h) (Or.inl ⟨by rfl, fun w' hw => by go_simp⟩) hS ?_
            try simp only [Act.put, List.setIfInBounds_toArray, List.set_cons_zero, List.set_cons_succ]
            refine wpAnyH_take (i := 4) (v := .bool false) (List.getElem?_toArray.trans rfl) (by kernel_rfl) (by kernel_rfl) (by kernel_rfl) (fun _ _ _ h => h) (Or.inl ⟨by rfl, fun w' hw => by go_simp⟩) hS ?_
            try simp only [Act.put, List.setIfInBounds_toArray, List.set_cons_zero, List.set_cons_succ]
            refine wpAnyH_take (i := 5) (v := .bool false) (List.getElem?_toArray.trans rfl) (by kernel_rfl) (by kernel_rfl) (by kernel_rfl) (fun _ _ _ h => h) (Or.inl ⟨by rfl, fun w' hw => by go_simp⟩) hS ?_
            try simp only [Act.put, List.setIfInBounds_toArray, List.set_cons_zero, List.set_cons_succ]
            refine wpAnyH_take (i := 6) (v := .int .i64 (i : Int)) (List.getElem?_toArray.trans rfl) (by kernel_rfl) (by kernel_rfl) (by kernel_rfl) (fun _ _ _ h => h) (Or.inl ⟨by rfl, fun w' hw => by go_simp⟩) hS ?_
            try simp only [Act.put, List.setIfInBounds_toArray, List.set_cons_zero, List.set_cons_succ]
            refine wpAnyH_take (i := 7) (v := .pointer (some ⟨w.heap.size, 0, none⟩)) (List.getElem?_toArray.trans rfl) (by kernel_rfl) (by kernel_rfl) (by kernel_rfl) (fun _ _ _ h => h) (Or.inl ⟨by rfl, fun w' hw => by go_simp⟩) hS ?_
            try simp only [Act.put, List.setIfInBounds_toArray, List.set_cons_zero, List.set_cons_succ]
            refine wpAnyH_take (i := 8) (v := .slice a l.length cap) (List.getElem?_toArray.trans rfl) (by kernel_rfl) (by kernel_rfl) (by kernel_rfl) (fun _ _ _ h => h) (Or.inl ⟨by rfl, fun w' hw => by obtain ⟨r0, r1, y0, y1, y2, y3, y4, y5⟩ := hw; go_simp⟩) hS ?_
            try simp only [Act.put, List.setIfInBounds_toArray, List.set_cons_zero, List.set_cons_succ]
            refine wpAnyH_take (i := 9) (v := .int .i64 (l.length : Int)) (List.getElem?_toArray.trans rfl) (by kernel_rfl) (by kernel_rfl) (by kernel_rfl) (fun _ _ _ h => h) (Or.inl ⟨by rfl, fun w' hw => by go_simp⟩) hS ?_
            try simp only [Act.put, List.setIfInBounds_toArray, List.set_cons_zero, List.set_cons_succ]
            refine wpAnyH_take (i := 10) (v := .bool false) (List.getElem?_toArray.trans rfl) (by kernel_rfl) (by kernel_rfl) (by kernel_rfl) (fun _ _ _ h => h) (Or.inl ⟨by rfl, fun w' hw => by go_simp⟩) hS ?_
            try simp only [Act.put, List.setIfInBounds_toArray, List.set_cons_zero, List.set_cons_succ]
            refine wpAnyH_take (i := 11) (v := .bool false) (List.getElem?_toArray.trans rfl) (by kernel_rfl) (by kernel_rfl) (by kernel_rfl) (fun _ _ _ h => h) (Or.inl ⟨by rfl, fun w' hw => by go_simp⟩) hS ?_
            try simp only [Act.put, List.setIfInBounds_toArray, List.set_cons_zero, List.set_cons_succ]
            refine wpAnyH_take (i := 12) (v := undef) (List.getElem?_toArray.trans rfl) (by kernel_rfl) (by kernel_rfl) (by kernel_rfl) (fun _ _ _ h => h) (Or.inr ⟨by rfl, rfl⟩) hS ?_
            try simp only [Act.put, List.setIfInBounds_toArray, List.set_cons_zero, List.set_cons_succ]
            refine wpAnyH_take (i := 13) (v := undef) (List.getElem?_toArray.trans rfl) (by kernel_rfl) (by kernel_rfl) (by kernel_rfl) (fun _ _ _ h => h) (Or.inr ⟨by rfl, rfl⟩) hS ?_
            try simp only [Act.put, List.setIfInBounds_toArray, List.set_cons_zero, List.set_cons_succ]
            refine wpAnyH_take (i := 14) (v := undef) (List.getElem?_toArray.trans rfl) (by kernel_rfl) (by kernel_rfl) (by kernel_rfl) (fun _ _ _ h => h) (Or.inr ⟨by rfl, rfl⟩) hS ?_
            try simp only [Act.put, List.setIfInBounds_toArray, List.set_cons_zero, List.set_cons_succ]
            refine wpAnyH_take (i := 15) (v := undef) (List.getElem?_toArray.trans rfl) (by kernel_rfl) (by kernel_rfl) (by kernel_rfl) (fun _ _ _ h => h) (Or.inr ⟨by rfl, rfl⟩) hS ?_
            try simp only [Act.put, List.setIfInBounds_toArray, List.set_cons_zero, List.set_cons_succ]
            refine wpAnyH_take (i := 16) (v := undef) (List.getElem?_toArray.trans rfl) (by kernel_rfl) (by kernel_rfl) (by kernel_rfl) (fun _ _ _ h => h) (Or.inr ⟨by rfl, rfl⟩) hS ?_
            try simp only [Act.put, List.setIfInBounds_toArray, List.set_cons_zero, List.set_cons_succ]
            refine wpAnyH_take (i := 17) (v := undef) (List.getElem?_toArray.trans rfl) (by kernel_rfl) (by kernel_rfl) (by kernel_rfl) (fun _ _ _ h => h) (Or.inr ⟨by rfl, rfl⟩) hS ?_
            try simp only [Act.put, List.setIfInBounds_toArray, List.set_cons_zero, List.set_cons_succ]
            refine wpAnyH_take (i := 18) (v := undef) (List.getElem?_toArray.trans rfl) (by kernel_rfl) (by kernel_rfl) (by kernel_rfl) (fun _ _ _ h => h) (Or.inr ⟨by rfl, rfl⟩) hS ?_
            try simp only [Act.put, List.setIfInBounds_toArray, List.set_cons_zero, List.set_cons_succ]
            refine wpAnyH_take (i := 19) (v := undef) (List.getElem?_toArray.trans rfl) (by kernel_rfl) (by kernel_rfl) (by kernel_rfl) (fun _ _ _ h => h) (Or.inr ⟨by rfl, rfl⟩) hS ?_
            try simp only [Act.put, List.setIfInBounds_toArray, List.set_cons_zero, List.set_cons_succ]
            refine wpAnyH_take (i := 20) (v := undef) (List.getElem?_toArray.trans rfl) (by kernel_rfl) (by kernel_rfl) (by kernel_rfl) (fun _ _ _ h => h) (Or.inr ⟨by rfl, rfl⟩) hS ?_
            try simp only [Act.put, List.setIfInBounds_toArray, List.set_cons_zero, List.set_cons_succ]
            refine wpAnyH_take (i := 21) (v := undef) (List.getElem?_toArray.trans rfl) (by kernel_rfl) (by kernel_rfl) (by kernel_rfl) (fun _ _ _ h => h) (Or.inr ⟨by rfl, rfl⟩) hS ?_
            try simp only [Act.put, List.setIfInBounds_toArray, List.set_cons_zero, List.set_cons_succ]
            refine wpAnyH_take (i := 22) (v := undef) (List.getElem?_toArray.trans rfl) (by kernel_rfl) (by kernel_rfl) (by kernel_rfl) (fun _ _ _ h => h) (Or.inr ⟨by rfl, rfl⟩) hS ?_
            try simp only [Act.put, List.setIfInBounds_toArray, List.set_cons_zero, List.set_cons_succ]
            refine wpAnyH_take (i := 23) (v := .bool false) (List.getElem?_toArray.trans rfl) (by kernel_rfl) (by kernel_rfl) (by kernel_rfl) (fun _ _ _ h => h) (Or.inl ⟨by rfl, fun w' hw => by go_simp⟩) hS ?_
            try simp only [Act.put, List.setIfInBounds_toArray, List.set_cons_zero, List.set_cons_succ]
            refine wpAnyH_take (i := 24) (v := .bool false) (List.getElem?_toArray.trans rfl) (by kernel_rfl) (by kernel_rfl) (by kernel_rfl) (fun _ _ _ h => h) (Or.inl ⟨by rfl, fun w' hw => by go_simp⟩) hS ?_
            try simp only [Act.put, List.setIfInBounds_toArray, List.set_cons_zero, List.set_cons_succ]
            refine wpAnyH_take (i := 25) (v := .bool false) (List.getElem?_toArray.trans rfl) (by kernel_rfl) (by kernel_rfl) (by kernel_rfl) (fun _ _ _ h => h) (Or.inl ⟨by rfl, fun w' hw => by go_simp⟩) hS ?_
            try simp only [Act.put, List.setIfInBounds_toArray, List.set_cons_zero, List.set_cons_succ]
            refine wpAnyH_done (by kernel_rfl) ?_ _
            obtain ⟨v3, hv3⟩ : ∃ v', v' = wr.drew := ⟨_, rfl⟩
            have hbv3 : Below wr.heap.size wr v3 := by rw [hv3]; exact (Below.refl _ _).drew
            rw [← hv3]
            clear hv3
            go_wp2_with fail
            refine wp_region_held_drew (S := fun w' => w'.cell? ⟨w.heap.size, 0, none⟩ = some (.slice a l.length cap) ∧ w'.cell? ⟨w.heap.size + 1, 0, none⟩ = some (.slice (some ⟨g2, 0, none⟩) m.length cap2) ∧ w'.cell? ⟨g2, k * 6, none⟩ = some (.int .i64 y.time) ∧ w'.cell? ⟨g2, k * 6 + 1, none⟩ = some (.int .i64 y.actor) ∧ w'.cell? ⟨g2, k * 6 + 2, none⟩ = some (.int .i64 y.above) ∧ w'.cell? ⟨g2, k * 6 + 3, none⟩ = some (.int .i64 y.maker) ∧ w'.cell? ⟨g2, k * 6 + 4, none⟩ = some (.string y.byte) ∧ w'.cell? ⟨g2, k * 6 + 5, none⟩ = some (.bool y.gone)) (by kernel_rfl) (KS.out _ (hbv3.drew)) (fun hS => ?_)
            refine wpAnyH_take (i := 0) (v := .int .i64 (i : Int)) (List.getElem?_toArray.trans rfl) (by kernel_rfl) (by kernel_rfl) (by kernel_rfl) (fun _ _ _ h => h) (Or.inl ⟨by rfl, fun w' hw => by go_simp⟩) hS ?_
            try simp only [Act.put, List.setIfInBounds_toArray, List.set_cons_zero, List.set_cons_succ]
            refine wpAnyH_take (i := 1) (v := .pointer (some ⟨w.heap.size, 0, none⟩)) (List.getElem?_toArray.trans rfl) (by kernel_rfl) (by kernel_rfl) (by kernel_rfl) (fun _ _ _ h => h) (Or.inl ⟨by rfl, fun w' hw => by go_simp⟩) hS ?_
            try simp only [Act.put, List.setIfInBounds_toArray, List.set_cons_zero, List.set_cons_succ]
            refine wpAnyH_take (i := 2) (v := .slice a l.length cap) (List.getElem?_toArray.trans rfl) (by kernel_rfl) (by kernel_rfl) (by kernel_rfl) (fun _ _ _ h => h) (Or.inl ⟨by rfl, fun w' hw => by obtain ⟨r0, r1, y0, y1, y2, y3, y4, y5⟩ := hw; go_simp⟩) hS ?_
            try simp only [Act.put, List.setIfInBounds_toArray, List.set_cons_zero, List.set_cons_succ]
            refine wpAnyH_take (i := 3) (v := .int .i64 (l.length : Int)) (List.getElem?_toArray.trans rfl) (by kernel_rfl) (by kernel_rfl) (by kernel_rfl) (fun _ _ _ h => h) (Or.inl ⟨by rfl, fun w' hw => by go_simp⟩) hS ?_
            try simp only [Act.put, List.setIfInBounds_toArray, List.set_cons_zero, List.set_cons_succ]
            refine wpAnyH_take (i := 4) (v := .bool true) (List.getElem?_toArray.trans rfl) (by kernel_rfl) (by kernel_rfl) (by kernel_rfl) (fun _ _ _ h => h) (Or.inl ⟨by rfl, fun w' hw => by go_simp⟩) hS ?_
            try simp only [Act.put, List.setIfInBounds_toArray, List.set_cons_zero, List.set_cons_succ]
            refine wpAnyH_take (i := 5) (v := .bool true) (List.getElem?_toArray.trans rfl) (by kernel_rfl) (by kernel_rfl) (by kernel_rfl) (fun _ _ _ h => h) (Or.inl ⟨by rfl, fun w' hw => by go_simp⟩) hS ?_
            try simp only [Act.put, List.setIfInBounds_toArray, List.set_cons_zero, List.set_cons_succ]
            refine wpAnyH_take (i := 6) (v := undef) (List.getElem?_toArray.trans rfl) (by kernel_rfl) (by kernel_rfl) (by kernel_rfl) (fun _ _ _ h => h) (Or.inr ⟨by rfl, rfl⟩) hS ?_
            try simp only [Act.put, List.setIfInBounds_toArray, List.set_cons_zero, List.set_cons_succ]
            refine wpAnyH_take (i := 7) (v := undef) (List.getElem?_toArray.trans rfl) (by kernel_rfl) (by kernel_rfl) (by kernel_rfl) (fun _ _ _ h => h) (Or.inr ⟨by rfl, rfl⟩) hS ?_
            try simp only [Act.put, List.setIfInBounds_toArray, List.set_cons_zero, List.set_cons_succ]
            refine wpAnyH_take (i := 8) (v := undef) (List.getElem?_toArray.trans rfl) (by kernel_rfl) (by kernel_rfl) (by kernel_rfl) (fun _ _ _ h => h) (Or.inr ⟨by rfl, rfl⟩) hS ?_
            try simp only [Act.put, List.setIfInBounds_toArray, List.set_cons_zero, List.set_cons_succ]
            refine wpAnyH_take (i := 9) (v := undef) (List.getElem?_toArray.trans rfl) (by kernel_rfl) (by kernel_rfl) (by kernel_rfl) (fun _ _ _ h => h) (Or.inr ⟨by rfl, rfl⟩) hS ?_
            try simp only [Act.put, List.setIfInBounds_toArray, List.set_cons_zero, List.set_cons_succ]
            refine wpAnyH_take (i := 10) (v := undef) (List.getElem?_toArray.trans rfl) (by kernel_rfl) (by kernel_rfl) (by kernel_rfl) (fun _ _ _ h => h) (Or.inr ⟨by rfl, rfl⟩) hS ?_
            try simp only [Act.put, List.setIfInBounds_toArray, List.set_cons_zero, List.set_cons_succ]
            refine wpAnyH_take (i := 11) (v := undef) (List.getElem?_toArray.trans rfl) (by kernel_rfl) (by kernel_rfl) (by kernel_rfl) (fun _ _ _ h => h) (Or.inr ⟨by rfl, rfl⟩) hS ?_
            try simp only [Act.put, List.setIfInBounds_toArray, List.set_cons_zero, List.set_cons_succ]
            refine wpAnyH_take (i := 12) (v := undef) (List.getElem?_toArray.trans rfl) (by kernel_rfl) (by kernel_rfl) (by kernel_rfl) (fun _ _ _ h => h) (Or.inr ⟨by rfl, rfl⟩) hS ?_
            try simp only [Act.put, List.setIfInBounds_toArray, List.set_cons_zero, List.set_cons_succ]
            refine wpAnyH_take (i := 13) (v := undef) (List.getElem?_toArray.trans rfl) (by kernel_rfl) (by kernel_rfl) (by kernel_rfl) (fun _ _ _ h => h) (Or.inr ⟨by rfl, rfl⟩) hS ?_
            try simp only [Act.put, List.setIfInBounds_toArray, List.set_cons_zero, List.set_cons_succ]
            refine wpAnyH_take (i := 14) (v := undef) (List.getElem?_toArray.trans rfl) (by kernel_rfl) (by kernel_rfl) (by kernel_rfl) (fun _ _ _ h => h) (Or.inr ⟨by rfl, rfl⟩) hS ?_
            try simp only [Act.put, List.setIfInBounds_toArray, List.set_cons_zero, List.set_cons_succ]
            refine wpAnyH_take (i := 15) (v := undef) (List.getElem?_toArray.trans rfl) (by kernel_rfl) (by kernel_rfl) (by kernel_rfl) (fun _ _ _ h => h) (Or.inr ⟨by rfl, rfl⟩) hS ?_
            try simp only [Act.put, List.setIfInBounds_toArray, List.set_cons_zero, List.set_cons_succ]
            refine wpAnyH_take (i := 16) (v := undef) (List.getElem?_toArray.trans rfl) (by kernel_rfl) (by kernel_rfl) (by kernel_rfl) (fun _ _ _ h => h) (Or.inr ⟨by rfl, rfl⟩) hS ?_
            try simp only [Act.put, List.setIfInBounds_toArray, List.set_cons_zero, List.set_cons_succ]
            refine wpAnyH_take (i := 17) (v := .bool true) (List.getElem?_toArray.trans rfl) (by kernel_rfl) (by kernel_rfl) (by kernel_rfl) (fun _ _ _ h => h) (Or.inl ⟨by rfl, fun w' hw => by go_simp⟩) hS ?_
            try simp only [Act.put, List.setIfInBounds_toArray, List.set_cons_zero, List.set_cons_succ]
            refine wpAnyH_take (i := 18) (v := .bool true) (List.getElem?_toArray.trans rfl) (by kernel_rfl) (by kernel_rfl) (by kernel_rfl) (fun _ _ _ h => h) (Or.inl ⟨by rfl, fun w' hw => by go_simp⟩) hS ?_
            try simp only [Act.put, List.setIfInBounds_toArray, List.set_cons_zero, List.set_cons_succ]
            refine wpAnyH_done (by kernel_rfl) ?_ _
            obtain ⟨v4, hv4⟩ : ∃ v', v' = v3.drew := ⟨_, rfl⟩
            have hbv4 : Below wr.heap.size wr v4 := by rw [hv4]; exact hbv3.drew
            rw [← hv4]
            clear hv4
            clear KS
            go_wp2_with fail
            have KX : Hid (∀ w', Below w2.heap.size v4 w' → w'.cell? ⟨w.heap.size + 1, 0, none⟩ = some (.slice (some ⟨g2, 0, none⟩) m.length cap2) ∧ w'.cell? ⟨g2, k * 6, none⟩ = some (.int .i64 y.time) ∧ w'.cell? ⟨g2, k * 6 + 1, none⟩ = some (.int .i64 y.actor) ∧ w'.cell? ⟨g2, k * 6 + 2, none⟩ = some (.int .i64 y.above) ∧ w'.cell? ⟨g2, k * 6 + 3, none⟩ = some (.int .i64 y.maker) ∧ w'.cell? ⟨g2, k * 6 + 4, none⟩ = some (.string y.byte) ∧ w'.cell? ⟨g2, k * 6 + 5, none⟩ = some (.bool y.gone)) := hide (fun w' hb => ⟨(World.cell?_of_block (a := ⟨w.heap.size + 1, 0, none⟩) (hb.block (w.heap.size + 1) (by omega))).trans (J1.out.later hbv4).cell, at6 hb (by omega) (at6 (hbv4) (by omega) hy6.out)⟩)
            have BX3 := hide (HT.out.box.later hbv4)
            have OW3 := hide (own_below HT.out.own hbv4)
            have hO3 : w2.heap.size < v4.heap.size := BX3.out.lt
            refine wp_region_held_drew (S := fun w' => w'.cell? ⟨w.heap.size + 1, 0, none⟩ = some (.slice (some ⟨g2, 0, none⟩) m.length cap2) ∧ w'.cell? ⟨g2, k * 6, none⟩ = some (.int .i64 y.time) ∧ w'.cell? ⟨g2, k * 6 + 1, none⟩ = some (.int .i64 y.actor) ∧ w'.cell? ⟨g2, k * 6 + 2, none⟩ = some (.int .i64 y.above) ∧ w'.cell? ⟨g2, k * 6 + 3, none⟩ = some (.int .i64 y.maker) ∧ w'.cell? ⟨g2, k * 6 + 4, none⟩ = some (.string y.byte) ∧ w'.cell? ⟨g2, k * 6 + 5, none⟩ = some (.bool y.gone)) (by kernel_rfl) (KX.out _ (Below.refl _ _).drew) (fun hS => ?_)
            obtain ⟨wa, hwa⟩ : ∃ w', v4.drew = w' := ⟨_, rfl⟩
            have hBa : Hid (Below w2.heap.size v4 wa) := hide (by rw [← hwa]; exact (Below.refl _ _).drew)
            have hPa : Hid (Below wr.heap.size wr wa) := hide (by rw [← hwa]; exact hbv4.drew)
            have BXa : Hid (CellR wa w2.heap.size (.slice av out.length cv)) := hide (by rw [← hwa]; exact BX3.out)
            have OWa : Hid (AmOwn wa (w2.heap.size + 1) (.slice av out.length cv) out) := hide (by rw [← hwa]; exact OW3.out)
            rw [hwa]
            clear hwa hS
            refine wpAnyH_take (i := 0) (v := .pointer (some ⟨w2.heap.size, 0, none⟩)) (List.getElem?_toArray.trans rfl) (by kernel_rfl) (by kernel_rfl) (by kernel_rfl) (fun _ _ _ h => h) (Or.inl ⟨by rfl, fun w' hw => by go_simp⟩) (KX.out _ hBa.out) ?_
            try simp only [Act.put, List.setIfInBounds_toArray, List.set_cons_zero, List.set_cons_succ]
            refine wpAnyH_take (i := 2) (v := .pointer (some ⟨w.heap.size + 1, 0, none⟩)) (List.getElem?_toArray.trans rfl) (by kernel_rfl) (by kernel_rfl) (by kernel_rfl) (fun _ _ _ h => h) (Or.inl ⟨by rfl, fun w' hw => by go_simp⟩) (KX.out _ hBa.out) ?_
            try simp only [Act.put, List.setIfInBounds_toArray, List.set_cons_zero, List.set_cons_succ]
            refine wpAnyH_take (i := 3) (v := .slice (some ⟨g2, 0, none⟩) m.length cap2) (List.getElem?_toArray.trans rfl) (by kernel_rfl) (by kernel_rfl) (by kernel_rfl) (fun _ _ _ h => h) (Or.inl ⟨by rfl, fun w' hw => by obtain ⟨r0, x0, x1, x2, x3, x4, x5⟩ := hw; go_simp⟩) (KX.out _ hBa.out) ?_
            try simp only [Act.put, List.setIfInBounds_toArray, List.set_cons_zero, List.set_cons_succ]
            refine wpAnyH_take (i := 4) (v := .int .i64 (k : Int)) (List.getElem?_toArray.trans rfl) (by kernel_rfl) (by kernel_rfl) (by kernel_rfl) (fun _ _ _ h => h) (Or.inl ⟨by rfl, fun w' hw => by go_simp⟩) (KX.out _ hBa.out) ?_
            try simp only [Act.put, List.setIfInBounds_toArray, List.set_cons_zero, List.set_cons_succ]
            refine wpAnyH_take (i := 5) (v := .pointer (some ⟨g2, k * 6, none⟩)) (List.getElem?_toArray.trans rfl) (by kernel_rfl) (by kernel_rfl) (by kernel_rfl) (fun _ _ _ h => h) (Or.inl ⟨by rfl, fun w' hw => by go_simp⟩) (KX.out _ hBa.out) ?_
            try simp only [Act.put, List.setIfInBounds_toArray, List.set_cons_zero, List.set_cons_succ]
            refine wpAnyH_take (i := 6) (v := .agg #[.int .i64 y.time, .int .i64 y.actor, .int .i64 y.above, .int .i64 y.maker, .string y.byte, .bool y.gone]) (List.getElem?_toArray.trans rfl) (by kernel_rfl) (by kernel_rfl) (by kernel_rfl) (fun _ _ _ h => h) (Or.inl ⟨by rfl, fun w' hw => by obtain ⟨r0, x0, x1, x2, x3, x4, x5⟩ := hw; go_simp⟩) (KX.out _ hBa.out) ?_
            try simp only [Act.put, List.setIfInBounds_toArray, List.set_cons_zero, List.set_cons_succ]
            refine wpAnyH_ready (rs := [1, 7]) (by kernel_rfl) (by simp) ?_
            refine AllReadyH.cons (List.getElem?_toArray.trans rfl) (fun K hK => ?_) ?_
            · skip
              have kO := BXa.out.cell
              go_simp
              refine hK.out _ _ (KX.out _ hBa.out) (fun _ => ?_)
              clear hK K kO
              try simp only [Act.put, List.setIfInBounds_toArray, List.set_cons_zero, List.set_cons_succ]
              refine wpAnyH_ready (rs := [7]) (by kernel_rfl) (by simp) ?_
              refine AllReadyH.cons (List.getElem?_toArray.trans rfl) (fun K hK => ?_) AllReadyH.nil
              go_simp
              have hBx1 : Hid (Below w2.heap.size v4 (wa.alloc (.cells #[.int .i64 y.time, .int .i64 y.actor, .int .i64 y.above, .int .i64 y.maker, .string y.byte, .bool y.gone] 47))) := hide (hBa.out.alloc (by have := hBa.out.size; omega) _)
              refine hK.out _ _ (KX.out _ hBx1.out) (fun _ => ?_)
              clear hK K
              try simp only [Act.put, List.setIfInBounds_toArray, List.set_cons_zero, List.set_cons_succ]
              have hPx1 : Hid (Below wr.heap.size wr (wa.alloc (.cells #[.int .i64 y.time, .int .i64 y.actor, .int .i64 y.above, .int .i64 y.maker, .string y.byte, .bool y.gone] 47))) := hide (hPa.out.alloc hPa.out.size _)
              have BXx1 : Hid (CellR (wa.alloc (.cells #[.int .i64 y.time, .int .i64 y.actor, .int .i64 y.above, .int .i64 y.maker, .string y.byte, .bool y.gone] 47)) w2.heap.size (.slice av out.length cv)) := hide (keep_al BXa.out)
              have OWx1 : Hid (AmOwn (wa.alloc (.cells #[.int .i64 y.time, .int .i64 y.actor, .int .i64 y.above, .int .i64 y.maker, .string y.byte, .bool y.gone] 47)) (w2.heap.size + 1) (.slice av out.length cv) out) := hide (World.ownsRow.alloc OWa.out _)
              have hM : Hid ((wa.alloc (.cells #[.int .i64 y.time, .int .i64 y.actor, .int .i64 y.above, .int .i64 y.maker, .string y.byte, .bool y.gone] 47)).heap[wa.heap.size]? = some (.cells #[.int .i64 y.time, .int .i64 y.actor, .int .i64 y.above, .int .i64 y.maker, .string y.byte, .bool y.gone] 47)) := hide (heap_alloc_new wa _)
              obtain ⟨x1, hwx1⟩ : ∃ w', wa.alloc (.cells #[.int .i64 y.time, .int .i64 y.actor, .int .i64 y.above, .int .i64 y.maker, .string y.byte, .bool y.gone] 47) = w' := ⟨_, rfl⟩
              rw [hwx1] at hBx1 hPx1 BXx1 OWx1 hM ⊢
              clear hwx1
              refine wpAnyH_ready (rs := [8]) (by kernel_rfl) (by simp) ?_
              refine AllReadyH.cons (List.getElem?_toArray.trans rfl) (fun K hK => ?_) AllReadyH.nil
              refine step_ams rfl _ _ rfl (w2.heap.size + 1) (.slice av out.length cv) out (some ⟨wa.heap.size, 0, none⟩) 1 [y] (by simp <;> omega) rfl rfl OWx1.out (am_at hM.out) (BXx1.out.lt) ?_
              intro v5 w5 own5 grow5
              have NX := hide (HT.out.next HO3.out (i2 := i) (k2 := k + 1) (by omega) HMG.out hPx1.out own5 grow5)
              have hB5 : Hid (Below w2.heap.size v4 w5) := hide (hBx1.out.grown grow5 (by have := hBx1.out.size; omega) (fun y hy => by have := (World.ownsRow.lt OWx1.out y hy).1; omega))
              obtain ⟨a5, c5, he5, -⟩ := own_shp own5
              rw [show (out ++ [y]).length = out.length + 1 by simp] at he5
              subst he5
              have kO := NX.out.1.cell
              have fO := NX.out.1.fz
              clear own5 grow5
              refine hK.out _ _ (KX.out _ hB5.out) (fun _ => ?_)
              clear hK K
              try simp only [Act.put, List.setIfInBounds_toArray, List.set_cons_zero, List.set_cons_succ]
              refine wpAnyH_take (i := 9) (v := .pointer (some ⟨w2.heap.size, 0, none⟩)) (List.getElem?_toArray.trans rfl) (by kernel_rfl) (by kernel_rfl) (by kernel_rfl) (fun _ _ _ h => h) (Or.inl ⟨by rfl, fun w' hw => by go_simp⟩) (KX.out _ hB5.out) ?_
              try simp only [Act.put, List.setIfInBounds_toArray, List.set_cons_zero, List.set_cons_succ]
              refine wpAnyH_ready (rs := [10]) (by kernel_rfl) (by simp) ?_
              refine AllReadyH.cons (List.getElem?_toArray.trans rfl) (fun K hK => ?_) AllReadyH.nil
              go_simp
              refine hK.out _ _ (KX.out _ (hB5.out.setCell (p := ⟨w2.heap.size, 0, none⟩) (Nat.le_refl _) _)) (fun _ => ?_)
              clear hK K kO fO
              try simp only [Act.put, List.setIfInBounds_toArray, List.set_cons_zero, List.set_cons_succ]
              refine wpAnyH_done (by kernel_rfl) ?_ _
              have N5 := hide NX.out.2
              clear NX
              go_wp2
              exact ⟨⟨i, k + 1, by omega, by omega, by first | rfl | go_num, by first | rfl | go_num, _, _, N5⟩, by simp [intOf]; omega⟩
            refine AllReadyH.cons (List.getElem?_toArray.trans rfl) (fun K hK => ?_) AllReadyH.nil
            go_simp
            have hBx2 : Hid (Below w2.heap.size v4 (wa.alloc (.cells #[.int .i64 y.time, .int .i64 y.actor, .int .i64 y.above, .int .i64 y.maker, .string y.byte, .bool y.gone] 47))) := hide (hBa.out.alloc (by have := hBa.out.size; omega) _)
            refine hK.out _ _ (KX.out _ hBx2.out) (fun _ => ?_)
            clear hK K
            try simp only [Act.put, List.setIfInBounds_toArray, List.set_cons_zero, List.set_cons_succ]
            have hPx2 : Hid (Below wr.heap.size wr (wa.alloc (.cells #[.int .i64 y.time, .int .i64 y.actor, .int .i64 y.above, .int .i64 y.maker, .string y.byte, .bool y.gone] 47))) := hide (hPa.out.alloc hPa.out.size _)
            have BXx2 : Hid (CellR (wa.alloc (.cells #[.int .i64 y.time, .int .i64 y.actor, .int .i64 y.above, .int .i64 y.maker, .string y.byte, .bool y.gone] 47)) w2.heap.size (.slice av out.length cv)) := hide (keep_al BXa.out)
            have OWx2 : Hid (AmOwn (wa.alloc (.cells #[.int .i64 y.time, .int .i64 y.actor, .int .i64 y.above, .int .i64 y.maker, .string y.byte, .bool y.gone] 47)) (w2.heap.size + 1) (.slice av out.length cv) out) := hide (World.ownsRow.alloc OWa.out _)
            have hM : Hid ((wa.alloc (.cells #[.int .i64 y.time, .int .i64 y.actor, .int .i64 y.above, .int .i64 y.maker, .string y.byte, .bool y.gone] 47)).heap[wa.heap.size]? = some (.cells #[.int .i64 y.time, .int .i64 y.actor, .int .i64 y.above, .int .i64 y.maker, .string y.byte, .bool y.gone] 47)) := hide (heap_alloc_new wa _)
            obtain ⟨x2, hwx2⟩ : ∃ w', wa.alloc (.cells #[.int .i64 y.time, .int .i64 y.actor, .int .i64 y.above, .int .i64 y.maker, .string y.byte, .bool y.gone] 47) = w' := ⟨_, rfl⟩
            rw [hwx2] at hBx2 hPx2 BXx2 OWx2 hM ⊢
            clear hwx2
            refine wpAnyH_ready (rs := [1]) (by kernel_rfl) (by simp) ?_
            refine AllReadyH.cons (List.getElem?_toArray.trans rfl) (fun K hK => ?_) AllReadyH.nil
            have kO := BXx2.out.cell
            go_simp
            refine hK.out _ _ (KX.out _ hBx2.out) (fun _ => ?_)
            clear hK K kO
            try simp only [Act.put, List.setIfInBounds_toArray, List.set_cons_zero, List.set_cons_succ]
            refine wpAnyH_ready (rs := [8]) (by kernel_rfl) (by simp) ?_
            refine AllReadyH.cons (List.getElem?_toArray.trans rfl) (fun K hK => ?_) AllReadyH.nil
            refine step_ams rfl _ _ rfl (w2.heap.size + 1) (.slice av out.length cv) out (some ⟨wa.heap.size, 0, none⟩) 1 [y] (by simp <;> omega) rfl rfl OWx2.out (am_at hM.out) (BXx2.out.lt) ?_
            intro v5 w5 own5 grow5
            have NX := hide (HT.out.next HO3.out (i2 := i) (k2 := k + 1) (by omega) HMG.out hPx2.out own5 grow5)
            have hB5 : Hid (Below w2.heap.size v4 w5) := hide (hBx2.out.grown grow5 (by have := hBx2.out.size; omega) (fun y hy => by have := (World.ownsRow.lt OWx2.out y hy).1; omega))
            obtain ⟨a5, c5, he5, -⟩ := own_shp own5
            rw [show (out ++ [y]).length = out.length + 1 by simp] at he5
            subst he5
            have kO := NX.out.1.cell
            have fO := NX.out.1.fz
            clear own5 grow5
            refine hK.out _ _ (KX.out _ hB5.out) (fun _ => ?_)
            clear hK K
            try simp only [Act.put, List.setIfInBounds_toArray, List.set_cons_zero, List.set_cons_succ]
            refine wpAnyH_take (i := 9) (v := .pointer (some ⟨w2.heap.size, 0, none⟩)) (List.getElem?_toArray.trans rfl) (by kernel_rfl) (by kernel_rfl) (by kernel_rfl) (fun _ _ _ h => h) (Or.inl ⟨by rfl, fun w' hw => by go_simp⟩) (KX.out _ hB5.out) ?_
            try simp only [Act.put, List.setIfInBounds_toArray, List.set_cons_zero, List.set_cons_succ]
            refine wpAnyH_ready (rs := [10]) (by kernel_rfl) (by simp) ?_
            refine AllReadyH.cons (List.getElem?_toArray.trans rfl) (fun K hK => ?_) AllReadyH.nil
            go_simp
            refine hK.out _ _ (KX.out _ (hB5.out.setCell (p := ⟨w2.heap.size, 0, none⟩) (Nat.le_refl _) _)) (fun _ => ?_)
            clear hK K kO fO
            try simp only [Act.put, List.setIfInBounds_toArray, List.set_cons_zero, List.set_cons_succ]
            refine wpAnyH_done (by kernel_rfl) ?_ _
            have N5 := hide NX.out.2
            clear NX
            go_wp2
            exact ⟨⟨i, k + 1, by omega, by omega, by first | rfl | go_num, by first | rfl | go_num, _, _, N5⟩, by simp [intOf]; omega⟩
          · have qkn : ¬ (k : Int) < (m.length : Int) := by omega
            have hout : mrg l m = some out := by rw [HT.out.eq, mg_end (by omega) (by omega)]; simp
            have HRD := hide (HSS.out out hout)
            have HOf := hide HT.out.own
            have HXf := hide HT.out.box
            have hin : ∃ a' c', (Value.slice av out.length cv) = .slice a' out.length c' ∧ AmIn wr a' c' out := HT.out.own.inn
            obtain ⟨a', c', e', hin'⟩ := hin
            cases e'
            have hsin : SIn wr av cv out := ⟨hin', by omega, fun j hj => by rw [mrg_one HX1.out HX2.out hout j hj]; omega⟩
            have G := hide (goodSeqS hsin)
            have k2 := HXf.out.cell
            clear hsin hin' hout HNN HSS HT
            go_wp2_with fail
            refine G.out.mono ?_
            rintro e we ⟨rfl, hbe⟩
            have HKe := hide (J2.out.later hbe)
            have HXe := hide (HXf.out.later hbe)
            have HBe := hide (HBW.out.trans (hbe.mono HBW.out.size))
            have HOe := hide (own_below HOf.out hbe)
            have k2 := HXe.out.cell
            have k3 := HKe.out.cell
            have f3 := HKe.out.fz
            clear hbe G
            cases hg : goodQ out with
            | false =>
              rw [hg] at HRD
              clear hg
              go_wp2
              refine bodyPost_ret (results_cell_tmp rfl _ _ (w.heap.size + 2) 28 _ (0, 0) _ (.bool false) rfl rfl (HKe.out.put _) Tryd.underlying28 rfl sizeSeqI) rfl ?_
              rw [HRD.out.1, HRD.out.2]
              exact ⟨_, rfl, World.ownsRow_nil _ _ _ _, HBe.out.setCell (p := ⟨w.heap.size + 2, 0, none⟩) (by show w.heap.size ≤ w.heap.size + 2; omega) _⟩
            | true =>
              rw [hg] at HRD
              clear hg
              go_wp2
              refine bodyPost_ret (results_cell_tmp rfl _ _ (w.heap.size + 2) 28 _ (0, 0) _ (.bool true) rfl rfl (HKe.out.put _) Tryd.underlying28 rfl sizeSeqI) rfl ?_
              rw [HRD.out.1, HRD.out.2, if_pos trivial]
              exact ⟨_, rfl, AmOwn.mono (own_aside HOe.out (by omega) _ _) (by omega), HBe.out.setCell (p := ⟨w.heap.size + 2, 0, none⟩) (by show w.heap.size ≤ w.heap.size + 2; omega) _⟩
end Go.Proofs.YtnhooalibadeeabDoor
