/- Clients: a number, a text, versions, flags and two rows of parts; both tell whether one is good. Clients: copies of both, and what one has done since its change went on its way. EditClient of both. The model's EditClient. The laws' helpers over one client: sizes, copies, comparisons, marks. The walk of the exact law of EditClient. From the reading of a client to what the laws' copying asks of it. -/
import Derived.Test.YtkjioadmebkaoabDoorSrvM
import Derived.Deep.RegionHeld3
import Derived.Test.YtkjioadmebkaoabDoorSrvN
import Derived.Test.YtkjioadmebkaoabDoorCmpN
import Derived.Test.YtkjioadmebkaoabDoorKeep1
import Derived.Deep.RegionWith
import Derived.Test.YtkjioadmebkaoabDoorCmpWM
import Derived.Test.YtkjioadmebkaoabDoorOpW78
import Derived.Test.YtkjioadmebkaoabDoorOpW9M
import Derived.Test.YtkjioadmebkaoabDoorSrvRead
set_option linter.unusedVariables false
namespace Go.Proofs.YtkjioadmebkaoabDoor
open Go.RowKit
open Doc1

/-- A client. -/
structure Cn where
  id : Int
  tx : ByteArray
  vr : Int
  sq : Int
  wt : Bool
  sn : List Pt
  bf : List Pt
  dt : Bool
def rngC (c : Cn) : Bool := decide (0 ≤ c.id ∧ c.id < 4 ∧ 0 ≤ c.vr ∧ c.vr ≤ 1000 ∧ 0 ≤ c.sq ∧ c.sq ≤ 1000)
def sndC (c : Cn) : Bool := (c.wt && decide (0 < c.sq)) || (!c.wt && decide (c.sn.length = 0))
def bufC (c : Cn) : Bool := (c.dt && c.wt) || (!c.dt && decide (c.bf.length = 0))
/-- A client is good. -/
def goodC (c : Cn) : Bool := rngC c && (sndC c && (bufC c && (good c.tx.data.toList && (goodO c.sn && goodO c.bf))))
/-- The cells of a client whose rows are told by vs and vb. -/
def cnC (c : Cn) (vs vb : Value) : Array Value := #[.int .i64 c.id, .string c.tx, .int .i64 c.vr, .int .i64 c.sq, .bool c.wt, vs, vb, .bool c.dt]
/-- A client that came in: its rows lie as Pin says. -/
structure CPin (w : World) (vs vb : Value) (c : Cn) : Prop where
  s : ∃ aw g cap, vs = .slice aw c.sn.length cap ∧ Pin w aw g cap c.sn
  b : ∃ aw g cap, vb = .slice aw c.bf.length cap ∧ Pin w aw g cap c.bf
  t : c.tx.size ≤ 1048576
theorem CPin.later {w w1 : World} {vs vb : Value} {c : Cn} (h : CPin w vs vb c) (hb : Below w.heap.size w w1) : CPin w1 vs vb c := by
  obtain ⟨⟨a1, g1, c1, e1, p1⟩, ⟨a2, g2, c2, e2, p2⟩, ht⟩ := h
  exact ⟨⟨a1, g1, c1, e1, p1.later hb⟩, ⟨a2, g2, c2, e2, p2.later hb⟩, ht⟩

theorem cell_kept8 {w w2 : World} {cs : Array Value} {t : TypeId} (hb : Below (w.alloc (.cells cs t)).heap.size (w.alloc (.cells cs t)) w2) (j : Nat) {x : Value} (hx : cs[j]? = some x) : w2.cell? ⟨w.heap.size, j, none⟩ = some x := by
  rw [World.cell?_of_block (a := ⟨w.heap.size, j, none⟩) (hb.block _ (by simp)), cell_of_row _ w.heap.size j _ _ (0, 0) (heap_alloc_new w _)]
  rw [hx]

set_option maxRecDepth 100000 in
set_option maxHeartbeats 4000000 in
theorem isGoodC {w : World} {vs vb : Value} {c : Cn} (h : CPin w vs vb c) (hT : Tab w) :
    Calls Tryd.prog 38 #[.agg (cnC c vs vb)] w fun e w' => e = .returned (.bool (goodC c)) ∧ Below w.heap.size w w' := by
  obtain ⟨⟨aS, gs, cs, rfl, ps⟩, ⟨ab, gb, cb, rfl, pb⟩, ht⟩ := h
  obtain ⟨ci, ct, cv, cq, cw, sn, bf, cd⟩ := c
  simp only at ps pb ht
  have hb1 : Below w.heap.size w (w.alloc (.cells #[.int .i64 ci, .string ct, .int .i64 cv, .int .i64 cq, .bool cw, .slice aS sn.length cs, .slice ab bf.length cb, .bool cd] 29)) := (Below.refl _ _).alloc (Nat.le_refl _) _
  have GT := hide ((goodTextI_any ct (w.alloc (.cells #[.int .i64 ci, .string ct, .int .i64 cv, .int .i64 cq, .bool cw, .slice aS sn.length cs, .slice ab bf.length cb, .bool cd] 29)) ht (hT.below hb1)).mono (R' := fun e w' => e = .returned (.bool (good ct.data.toList)) ∧ Below (w.alloc (.cells #[.int .i64 ci, .string ct, .int .i64 cv, .int .i64 cq, .bool cw, .slice aS sn.length cs, .slice ab bf.length cb, .bool cd] 29)).heap.size (w.alloc (.cells #[.int .i64 ci, .string ct, .int .i64 cv, .int .i64 cq, .bool cw, .slice aS sn.length cs, .slice ab bf.length cb, .bool cd] 29)) w') (fun _ _ h => ⟨h.1, by rw [h.2]; exact Below.refl _ _⟩))
  have GS := hide (fun w' (hb : Below w.heap.size w w') => goodOpI (ps.later hb) (hT.below hb))
  have GB := hide (fun w' (hb : Below w.heap.size w w') => goodOpI (pb.later hb) (hT.below hb))
  have HB := hide hb1
  obtain ⟨R1, hR1⟩ : ∃ R1, rngC ⟨ci, ct, cv, cq, cw, sn, bf, cd⟩ = R1 := ⟨_, rfl⟩
  obtain ⟨R2, hR2⟩ : ∃ R2, sndC ⟨ci, ct, cv, cq, cw, sn, bf, cd⟩ = R2 := ⟨_, rfl⟩
  obtain ⟨R3, hR3⟩ : ∃ R3, bufC ⟨ci, ct, cv, cq, cw, sn, bf, cd⟩ = R3 := ⟨_, rfl⟩
  obtain ⟨RG, hRG⟩ : ∃ RG, goodC ⟨ci, ct, cv, cq, cw, sn, bf, cd⟩ = RG := ⟨_, rfl⟩
  have hG : RG = (R1 && (R2 && (R3 && (good ct.data.toList && (goodO sn && goodO bf))))) := by rw [← hRG]; unfold goodC; rw [hR1, hR2, hR3]
  rw [hRG]
  unfold rngC at hR1
  unfold sndC at hR2
  unfold bufC at hR3
  simp only at hR1 hR2 hR3
  unfold cnC
  simp only
  obtain ⟨ns, hns⟩ : ∃ ns, sn.length = ns := ⟨_, rfl⟩
  obtain ⟨nb, hnb⟩ : ∃ nb, bf.length = nb := ⟨_, rfl⟩
  rw [hns] at hR2 hb1 GT GS HB ⊢
  rw [hnb] at hR3 hb1 GT GB HB ⊢
  obtain ⟨g1, hg1⟩ : ∃ g1, good ct.data.toList = g1 := ⟨_, rfl⟩
  obtain ⟨g2, hg2⟩ : ∃ g2, goodO sn = g2 := ⟨_, rfl⟩
  obtain ⟨g3, hg3⟩ : ∃ g3, goodO bf = g3 := ⟨_, rfl⟩
  rw [hg1] at GT hG
  rw [hg2] at GS hG
  rw [hg3] at GB hG
  have HR1 := hide hR1
  have HR2 := hide hR2
  have HR3 := hide hR3
  have HG := hide hG
  clear hR1 hR2 hR3 hG hRG hg1 hg2 hg3 hns hnb ps pb ht hT hb1
  go_enter Tryd.func38, Tryd.ntmps38
  go_upto_region 1 with fail
  go_cut [3] from 6 to 33 (fun x wx => x = .bool R1 ∧ wx = (w.alloc (.cells #[.int .i64 ci, .string ct, .int .i64 cv, .int .i64 cq, .bool cw, .slice aS ns cs, .slice ab nb cb, .bool cd] 29)))
  case first =>
    by_cases k1 : 0 ≤ ci
    · skip
      by_cases k2 : ci < 4
      · skip
        by_cases k3 : 0 ≤ cv
        · skip
          by_cases k4 : cv ≤ 1000
          · skip
            by_cases k5 : 0 ≤ cq
            · skip
              by_cases k6 : cq ≤ 1000
              · skip
                obtain rfl : R1 = true := by rw [← HR1.out]; exact decide_eq_true ⟨k1, k2, k3, k4, k5, k6⟩
                go_wp2
                go_meet
                case rel => exact ⟨rfl, rfl⟩
              · skip
                obtain rfl : R1 = false := by rw [← HR1.out]; exact decide_eq_false (fun c => by omega)
                go_wp2
                go_meet
                case rel => exact ⟨rfl, rfl⟩
            · skip
              obtain rfl : R1 = false := by rw [← HR1.out]; exact decide_eq_false (fun c => by omega)
              go_wp2
              go_meet
              case rel => exact ⟨rfl, rfl⟩
          · skip
            obtain rfl : R1 = false := by rw [← HR1.out]; exact decide_eq_false (fun c => by omega)
            go_wp2
            go_meet
            case rel => exact ⟨rfl, rfl⟩
        · skip
          obtain rfl : R1 = false := by rw [← HR1.out]; exact decide_eq_false (fun c => by omega)
          go_wp2
          go_meet
          case rel => exact ⟨rfl, rfl⟩
      · skip
        obtain rfl : R1 = false := by rw [← HR1.out]; exact decide_eq_false (fun c => by omega)
        go_wp2
        go_meet
        case rel => exact ⟨rfl, rfl⟩
    · skip
      obtain rfl : R1 = false := by rw [← HR1.out]; exact decide_eq_false (fun c => by omega)
      go_wp2
      go_meet
      case rel => exact ⟨rfl, rfl⟩
  case rest =>
    obtain ⟨rfl, rfl⟩ := hcut
    go_upto_region 2 with fail
    go_cut [4] from 34 to 51 (fun x wx => x = .bool R2 ∧ wx = (w.alloc (.cells #[.int .i64 ci, .string ct, .int .i64 cv, .int .i64 cq, .bool cw, .slice aS ns cs, .slice ab nb cb, .bool cd] 29)))
    case first =>
      cases cw with
      | true =>
        by_cases k1 : 0 < cq
        · obtain rfl : R2 = true := by rw [← HR2.out]; simp [k1]
          go_wp2
          go_meet
          case rel => exact ⟨rfl, rfl⟩
        · obtain rfl : R2 = false := by rw [← HR2.out]; simp; omega
          go_wp2
          go_meet
          case rel => exact ⟨rfl, rfl⟩
      | false =>
        by_cases k1 : ns = 0
        · subst k1
          obtain rfl : R2 = true := by rw [← HR2.out]; rfl
          go_wp2
          go_meet
          case rel => exact ⟨rfl, rfl⟩
        · obtain rfl : R2 = false := by rw [← HR2.out]; simp [k1]
          have k2 : ((ns : Int) == 0) = false := by simp; omega
          have k3 : ¬ (ns : Int) = 0 := by omega
          go_wp2
          go_meet
          case rel => exact ⟨rfl, rfl⟩
    case rest =>
      obtain ⟨rfl, rfl⟩ := hcut
      go_upto_region 3 with fail
      go_cut [5] from 52 to 68 (fun x wx => x = .bool R3 ∧ wx = (w.alloc (.cells #[.int .i64 ci, .string ct, .int .i64 cv, .int .i64 cq, .bool cw, .slice aS ns cs, .slice ab nb cb, .bool cd] 29)))
      case first =>
        cases cd with
        | true =>
          cases cw with
          | true =>
            obtain rfl : R3 = true := by rw [← HR3.out]; rfl
            go_wp2
            go_meet
            case rel => exact ⟨rfl, rfl⟩
          | false =>
            obtain rfl : R3 = false := by rw [← HR3.out]; rfl
            go_wp2
            go_meet
            case rel => exact ⟨rfl, rfl⟩
        | false =>
          by_cases k1 : nb = 0
          · subst k1
            obtain rfl : R3 = true := by rw [← HR3.out]; simp
            go_wp2
            go_meet
            case rel => exact ⟨rfl, rfl⟩
          · obtain rfl : R3 = false := by rw [← HR3.out]; simp [k1]
            have k2 : ((nb : Int) == 0) = false := by simp; omega
            have k3 : ¬ (nb : Int) = 0 := by omega
            go_wp2
            go_meet
            case rel => exact ⟨rfl, rfl⟩
      case rest =>
        obtain ⟨rfl, rfl⟩ := hcut
        have E := HG.out
        cases R1 with
        | false =>
          obtain rfl : RG = false := by rw [E]; rfl
          clear E
          go_wp2
          go_ret
          exact ⟨rfl, HB.out⟩
        | true =>
          cases R2 with
          | false =>
            obtain rfl : RG = false := by rw [E]; rfl
            clear E
            go_wp2
            go_ret
            exact ⟨rfl, HB.out⟩
          | true =>
            cases R3 with
            | false =>
              obtain rfl : RG = false := by rw [E]; rfl
              clear E
              go_wp2
              go_ret
              exact ⟨rfl, HB.out⟩
            | true =>
              cases g1 with
              | false =>
                obtain rfl : RG = false := by rw [E]; rfl
                clear E
                go_wp2_with fail
                refine GT.out.mono ?_
                rintro e w2 ⟨rfl, hb2⟩
                have HB2 := hide (HB.out.trans (hb2.mono HB.out.size))
                clear hb2
                go_wp2
                go_ret
                exact ⟨rfl, HB2.out⟩
              | true =>
                cases g2 with
                | false =>
                  obtain rfl : RG = false := by rw [E]; rfl
                  clear E
                  go_wp2_with fail
                  refine GT.out.mono ?_
                  rintro e w2 ⟨rfl, hb2⟩
                  have HB2 : Hid (Below w.heap.size w w2) := hide (HB.out.trans (hb2.mono HB.out.size))
                  have c5 := cell_kept8 hb2 5 rfl
                  clear hb2
                  go_wp2_with fail
                  refine (GS.out w2 HB2.out).mono ?_
                  rintro e w3 ⟨rfl, hb3⟩
                  have HB3 := hide (HB2.out.trans (hb3.mono HB2.out.size))
                  clear hb3 c5
                  go_wp2
                  go_ret
                  exact ⟨rfl, HB3.out⟩
                | true =>
                  obtain rfl : RG = g3 := by rw [E]; rfl
                  clear E
                  go_wp2_with fail
                  refine GT.out.mono ?_
                  rintro e w2 ⟨rfl, hb2⟩
                  have HB2 : Hid (Below w.heap.size w w2) := hide (HB.out.trans (hb2.mono HB.out.size))
                  have c5 := cell_kept8 hb2 5 rfl
                  have c6 := cell_kept8 hb2 6 rfl
                  have hl2 : w.heap.size < w2.heap.size := by have := hb2.size; simp at this; omega
                  clear hb2
                  go_wp2_with fail
                  refine (GS.out w2 HB2.out).mono ?_
                  rintro e w3 ⟨rfl, hb3⟩
                  have HB3 : Hid (Below w.heap.size w w3) := hide (HB2.out.trans (hb3.mono HB2.out.size))
                  have d6 := (World.cell?_of_block (a := ⟨w.heap.size, 6, none⟩) (hb3.block _ hl2)).trans c6
                  clear hb3 c5 c6
                  go_wp2_with fail
                  refine (GB.out w3 HB3.out).mono ?_
                  rintro e w4 ⟨rfl, hb4⟩
                  have HB4 := hide (HB3.out.trans (hb4.mono HB3.out.size))
                  clear hb4 d6
                  go_wp2
                  go_ret
                  exact ⟨rfl, HB4.out⟩

set_option maxRecDepth 100000 in
set_option maxHeartbeats 4000000 in
theorem l16Client_any {w : World} {vs vb : Value} {c : Cn} (h : CPin w vs vb c) (hT : Tab w) :
    Calls Tryd.prog 29 #[.agg (cnC c vs vb)] w fun e w' => e = .returned (.bool (goodC c)) ∧ Below w.heap.size w w' := by
  obtain ⟨⟨aS, gs, cs, rfl, ps⟩, ⟨ab, gb, cb, rfl, pb⟩, ht⟩ := h
  obtain ⟨ci, ct, cv, cq, cw, sn, bf, cd⟩ := c
  simp only at ps pb ht
  have hb1 : Below w.heap.size w (w.alloc (.cells #[.int .i64 ci, .string ct, .int .i64 cv, .int .i64 cq, .bool cw, .slice aS sn.length cs, .slice ab bf.length cb, .bool cd] 29)) := (Below.refl _ _).alloc (Nat.le_refl _) _
  have GT := hide ((goodTextS_any ct (w.alloc (.cells #[.int .i64 ci, .string ct, .int .i64 cv, .int .i64 cq, .bool cw, .slice aS sn.length cs, .slice ab bf.length cb, .bool cd] 29)) ht).mono (R' := fun e w' => e = .returned (.bool (good ct.data.toList)) ∧ Below (w.alloc (.cells #[.int .i64 ci, .string ct, .int .i64 cv, .int .i64 cq, .bool cw, .slice aS sn.length cs, .slice ab bf.length cb, .bool cd] 29)).heap.size (w.alloc (.cells #[.int .i64 ci, .string ct, .int .i64 cv, .int .i64 cq, .bool cw, .slice aS sn.length cs, .slice ab bf.length cb, .bool cd] 29)) w') (fun _ _ h => ⟨h.1, by rw [h.2]; exact Below.refl _ _⟩))
  have GS := hide (fun w' (hb : Below w.heap.size w w') => goodOpS (ps.later hb))
  have GB := hide (fun w' (hb : Below w.heap.size w w') => goodOpS (pb.later hb))
  have J := hide (fun n lo hi w => l1In_any n lo hi w)
  have HB := hide hb1
  obtain ⟨RG, hRG⟩ : ∃ RG, goodC ⟨ci, ct, cv, cq, cw, sn, bf, cd⟩ = RG := ⟨_, rfl⟩
  rw [hRG]
  unfold goodC rngC sndC bufC at hRG
  unfold cnC
  simp only at hRG ⊢
  obtain ⟨ns, hns⟩ : ∃ ns, sn.length = ns := ⟨_, rfl⟩
  obtain ⟨nb, hnb⟩ : ∃ nb, bf.length = nb := ⟨_, rfl⟩
  rw [hns] at hRG hb1 GT GS HB ⊢
  rw [hnb] at hRG hb1 GT GB HB ⊢
  obtain ⟨g1, hg1⟩ : ∃ g1, good ct.data.toList = g1 := ⟨_, rfl⟩
  obtain ⟨g2, hg2⟩ : ∃ g2, goodO sn = g2 := ⟨_, rfl⟩
  obtain ⟨g3, hg3⟩ : ∃ g3, goodO bf = g3 := ⟨_, rfl⟩
  rw [hg1] at GT hRG
  rw [hg2] at GS hRG
  rw [hg3] at GB hRG
  have HG := hide hRG
  clear hRG hg1 hg2 hg3 hns hnb ps pb ht hT hb1
  have E := HG.out
  by_cases k1 : 0 ≤ ci ∧ ci ≤ 3
  · have E1 : Hid (decide ((0 : Int) ≤ ci ∧ ci ≤ 3) = true) := hide (decide_eq_true k1)
    cases g1 with
    | false =>
      obtain rfl : RG = false := by rw [← E]; simp
      clear E
      go_enter Tryd.func29, Tryd.ntmps29
      go_wp2_with (first | (go_at_call 49; refine (J.out _ _ _ _).mono ?_; rintro e w' ⟨rfl, hw⟩; replace hw := hw.symm; subst hw; rw [E1.out]) | (go_at_call 61; refine GT.out.mono ?_; rintro e w2 ⟨rfl, hb2⟩; have HB2 : Hid (Below w.heap.size w w2) := hide (HB.out.trans (hb2.mono HB.out.size)); have q0 := cell_kept8 hb2 0 rfl; have q2 := cell_kept8 hb2 2 rfl; have q3 := cell_kept8 hb2 3 rfl; have q4 := cell_kept8 hb2 4 rfl; have q5 := cell_kept8 hb2 5 rfl; have q6 := cell_kept8 hb2 6 rfl; have q7 := cell_kept8 hb2 7 rfl; have hl2 : w.heap.size < w2.heap.size := (by have := hb2.size; simp at this; omega); clear hb2))
      go_ret
      exact ⟨rfl, HB2.out⟩
    | true =>
      by_cases k2 : 0 ≤ cv ∧ cv ≤ 1000
      · have E2 : Hid (decide ((0 : Int) ≤ cv ∧ cv ≤ 1000) = true) := hide (decide_eq_true k2)
        by_cases k3 : 0 ≤ cq ∧ cq ≤ 1000
        · have E3 : Hid (decide ((0 : Int) ≤ cq ∧ cq ≤ 1000) = true) := hide (decide_eq_true k3)
          cases g2 with
          | false =>
            obtain rfl : RG = false := by rw [← E]; simp
            clear E k1 k2 k3
            go_enter Tryd.func29, Tryd.ntmps29
            go_wp2_with (first | (go_at_call 49; refine (J.out _ _ _ _).mono ?_; rintro e w' ⟨rfl, hw⟩; replace hw := hw.symm; subst hw; first | rw [E1.out] | rw [E2.out] | rw [E3.out]) | (go_at_call 61; refine GT.out.mono ?_; rintro e w2 ⟨rfl, hb2⟩; have HB2 : Hid (Below w.heap.size w w2) := hide (HB.out.trans (hb2.mono HB.out.size)); have q0 := cell_kept8 hb2 0 rfl; have q2 := cell_kept8 hb2 2 rfl; have q3 := cell_kept8 hb2 3 rfl; have q4 := cell_kept8 hb2 4 rfl; have q5 := cell_kept8 hb2 5 rfl; have q6 := cell_kept8 hb2 6 rfl; have q7 := cell_kept8 hb2 7 rfl; have hl2 : w.heap.size < w2.heap.size := (by have := hb2.size; simp at this; omega); clear hb2))
            refine (GS.out w2 HB2.out).mono ?_
            rintro e w3 ⟨rfl, hb3⟩
            have HB3 : Hid (Below w.heap.size w w3) := hide (HB2.out.trans (hb3.mono HB2.out.size))
            have d3 := (World.cell?_of_block (a := ⟨w.heap.size, 3, none⟩) (hb3.block _ hl2)).trans q3
            have d4 := (World.cell?_of_block (a := ⟨w.heap.size, 4, none⟩) (hb3.block _ hl2)).trans q4
            have d5 := (World.cell?_of_block (a := ⟨w.heap.size, 5, none⟩) (hb3.block _ hl2)).trans q5
            have d6 := (World.cell?_of_block (a := ⟨w.heap.size, 6, none⟩) (hb3.block _ hl2)).trans q6
            have d7 := (World.cell?_of_block (a := ⟨w.heap.size, 7, none⟩) (hb3.block _ hl2)).trans q7
            have hl3 : w.heap.size < w3.heap.size := Nat.lt_of_lt_of_le hl2 hb3.size
            clear hb3 q0 q2 q3 q4 q5 q6 q7
            go_wp2
            go_ret
            exact ⟨rfl, HB3.out⟩
          | true =>
            cases g3 with
            | false =>
              obtain rfl : RG = false := by rw [← E]; simp
              clear E k1 k2 k3
              go_enter Tryd.func29, Tryd.ntmps29
              go_wp2_with (first | (go_at_call 49; refine (J.out _ _ _ _).mono ?_; rintro e w' ⟨rfl, hw⟩; replace hw := hw.symm; subst hw; first | rw [E1.out] | rw [E2.out] | rw [E3.out]) | (go_at_call 61; refine GT.out.mono ?_; rintro e w2 ⟨rfl, hb2⟩; have HB2 : Hid (Below w.heap.size w w2) := hide (HB.out.trans (hb2.mono HB.out.size)); have q0 := cell_kept8 hb2 0 rfl; have q2 := cell_kept8 hb2 2 rfl; have q3 := cell_kept8 hb2 3 rfl; have q4 := cell_kept8 hb2 4 rfl; have q5 := cell_kept8 hb2 5 rfl; have q6 := cell_kept8 hb2 6 rfl; have q7 := cell_kept8 hb2 7 rfl; have hl2 : w.heap.size < w2.heap.size := (by have := hb2.size; simp at this; omega); clear hb2))
              refine (GS.out w2 HB2.out).mono ?_
              rintro e w3 ⟨rfl, hb3⟩
              have HB3 : Hid (Below w.heap.size w w3) := hide (HB2.out.trans (hb3.mono HB2.out.size))
              have d3 := (World.cell?_of_block (a := ⟨w.heap.size, 3, none⟩) (hb3.block _ hl2)).trans q3
              have d4 := (World.cell?_of_block (a := ⟨w.heap.size, 4, none⟩) (hb3.block _ hl2)).trans q4
              have d5 := (World.cell?_of_block (a := ⟨w.heap.size, 5, none⟩) (hb3.block _ hl2)).trans q5
              have d6 := (World.cell?_of_block (a := ⟨w.heap.size, 6, none⟩) (hb3.block _ hl2)).trans q6
              have d7 := (World.cell?_of_block (a := ⟨w.heap.size, 7, none⟩) (hb3.block _ hl2)).trans q7
              have hl3 : w.heap.size < w3.heap.size := Nat.lt_of_lt_of_le hl2 hb3.size
              clear hb3 q0 q2 q3 q4 q5 q6 q7
              go_wp2_with fail
              refine (GB.out w3 HB3.out).mono ?_
              rintro e w4 ⟨rfl, hb4⟩
              have HB4 : Hid (Below w.heap.size w w4) := hide (HB3.out.trans (hb4.mono HB3.out.size))
              have f3 := (World.cell?_of_block (a := ⟨w.heap.size, 3, none⟩) (hb4.block _ hl3)).trans d3
              have f4 := (World.cell?_of_block (a := ⟨w.heap.size, 4, none⟩) (hb4.block _ hl3)).trans d4
              have f5 := (World.cell?_of_block (a := ⟨w.heap.size, 5, none⟩) (hb4.block _ hl3)).trans d5
              have f6 := (World.cell?_of_block (a := ⟨w.heap.size, 6, none⟩) (hb4.block _ hl3)).trans d6
              have f7 := (World.cell?_of_block (a := ⟨w.heap.size, 7, none⟩) (hb4.block _ hl3)).trans d7
              clear hb4 d3 d4 d5 d6 d7
              go_wp2
              go_ret
              exact ⟨rfl, HB4.out⟩
            | true =>
              have E4 : RG = (((cw && decide (0 < cq)) || (!cw && decide (ns = 0))) && ((cd && cw) || (!cd && decide (nb = 0)))) := by rw [← E, decide_eq_true ⟨k1.1, (by omega : ci < 4), k2.1, k2.2, k3.1, k3.2⟩]; simp
              have HE := hide E4
              clear E E4 k1 k2 k3
              go_enter Tryd.func29, Tryd.ntmps29
              go_wp2_with (first | (go_at_call 49; refine (J.out _ _ _ _).mono ?_; rintro e w' ⟨rfl, hw⟩; replace hw := hw.symm; subst hw; first | rw [E1.out] | rw [E2.out] | rw [E3.out]) | (go_at_call 61; refine GT.out.mono ?_; rintro e w2 ⟨rfl, hb2⟩; have HB2 : Hid (Below w.heap.size w w2) := hide (HB.out.trans (hb2.mono HB.out.size)); have q0 := cell_kept8 hb2 0 rfl; have q2 := cell_kept8 hb2 2 rfl; have q3 := cell_kept8 hb2 3 rfl; have q4 := cell_kept8 hb2 4 rfl; have q5 := cell_kept8 hb2 5 rfl; have q6 := cell_kept8 hb2 6 rfl; have q7 := cell_kept8 hb2 7 rfl; have hl2 : w.heap.size < w2.heap.size := (by have := hb2.size; simp at this; omega); clear hb2))
              refine (GS.out w2 HB2.out).mono ?_
              rintro e w3 ⟨rfl, hb3⟩
              have HB3 : Hid (Below w.heap.size w w3) := hide (HB2.out.trans (hb3.mono HB2.out.size))
              have d3 := (World.cell?_of_block (a := ⟨w.heap.size, 3, none⟩) (hb3.block _ hl2)).trans q3
              have d4 := (World.cell?_of_block (a := ⟨w.heap.size, 4, none⟩) (hb3.block _ hl2)).trans q4
              have d5 := (World.cell?_of_block (a := ⟨w.heap.size, 5, none⟩) (hb3.block _ hl2)).trans q5
              have d6 := (World.cell?_of_block (a := ⟨w.heap.size, 6, none⟩) (hb3.block _ hl2)).trans q6
              have d7 := (World.cell?_of_block (a := ⟨w.heap.size, 7, none⟩) (hb3.block _ hl2)).trans q7
              have hl3 : w.heap.size < w3.heap.size := Nat.lt_of_lt_of_le hl2 hb3.size
              clear hb3 q0 q2 q3 q4 q5 q6 q7
              go_wp2_with fail
              refine (GB.out w3 HB3.out).mono ?_
              rintro e w4 ⟨rfl, hb4⟩
              have HB4 : Hid (Below w.heap.size w w4) := hide (HB3.out.trans (hb4.mono HB3.out.size))
              have f3 := (World.cell?_of_block (a := ⟨w.heap.size, 3, none⟩) (hb4.block _ hl3)).trans d3
              have f4 := (World.cell?_of_block (a := ⟨w.heap.size, 4, none⟩) (hb4.block _ hl3)).trans d4
              have f5 := (World.cell?_of_block (a := ⟨w.heap.size, 5, none⟩) (hb4.block _ hl3)).trans d5
              have f6 := (World.cell?_of_block (a := ⟨w.heap.size, 6, none⟩) (hb4.block _ hl3)).trans d6
              have f7 := (World.cell?_of_block (a := ⟨w.heap.size, 7, none⟩) (hb4.block _ hl3)).trans d7
              clear hb4 d3 d4 d5 d6 d7
              cases cw with
              | true =>
                cases cd with
                | true =>
                  by_cases k1 : 0 < cq
                  · obtain rfl : RG = true := by rw [HE.out]; simp [k1]
                    go_wp2
                    go_ret
                    exact ⟨rfl, HB4.out⟩
                  · obtain rfl : RG = false := by rw [HE.out]; simp; omega
                    have k9 : decide (0 < cq) = false := decide_eq_false k1
                    go_wp2
                    go_ret
                    exact ⟨rfl, HB4.out⟩
                | false =>
                  by_cases k0 : nb = 0
                  · subst k0
                    by_cases k1 : 0 < cq
                    · obtain rfl : RG = true := by rw [HE.out]; simp [k1]
                      go_wp2
                      go_ret
                      exact ⟨rfl, HB4.out⟩
                    · obtain rfl : RG = false := by rw [HE.out]; simp; omega
                      have k9 : decide (0 < cq) = false := decide_eq_false k1
                      go_wp2
                      go_ret
                      exact ⟨rfl, HB4.out⟩
                  · obtain rfl : RG = false := by rw [HE.out]; simp [k0]
                    have k2 : ((nb : Int) == 0) = false := by simp; omega
                    have k3 : ¬ (nb : Int) = 0 := by omega
                    go_wp2
                    go_ret
                    exact ⟨rfl, HB4.out⟩
              | false =>
                by_cases k0 : ns = 0
                · subst k0
                  cases cd with
                  | true =>
                    obtain rfl : RG = false := by rw [HE.out]; simp
                    go_wp2
                    go_ret
                    exact ⟨rfl, HB4.out⟩
                  | false =>
                    by_cases k1 : nb = 0
                    · subst k1
                      obtain rfl : RG = true := by rw [HE.out]; rfl
                      go_wp2
                      go_ret
                      exact ⟨rfl, HB4.out⟩
                    · obtain rfl : RG = false := by rw [HE.out]; simp [k1]
                      have k2 : ((nb : Int) == 0) = false := by simp; omega
                      have k3 : ¬ (nb : Int) = 0 := by omega
                      go_wp2
                      go_ret
                      exact ⟨rfl, HB4.out⟩
                · obtain rfl : RG = false := by rw [HE.out]; simp [k0]
                  have k2 : ((ns : Int) == 0) = false := by simp; omega
                  have k3 : ¬ (ns : Int) = 0 := by omega
                  go_wp2
                  go_ret
                  exact ⟨rfl, HB4.out⟩
        · have E3 : Hid (decide ((0 : Int) ≤ cq ∧ cq ≤ 1000) = false) := hide (decide_eq_false k3)
          obtain rfl : RG = false := by rw [← E, decide_eq_false (fun c => k3 ⟨c.2.2.2.2.1, c.2.2.2.2.2⟩)]; rfl
          clear E k1 k2 k3
          go_enter Tryd.func29, Tryd.ntmps29
          go_wp2_with (first | (go_at_call 49; refine (J.out _ _ _ _).mono ?_; rintro e w' ⟨rfl, hw⟩; replace hw := hw.symm; subst hw; first | rw [E1.out] | rw [E2.out] | rw [E3.out]) | (go_at_call 61; refine GT.out.mono ?_; rintro e w2 ⟨rfl, hb2⟩; have HB2 : Hid (Below w.heap.size w w2) := hide (HB.out.trans (hb2.mono HB.out.size)); have q0 := cell_kept8 hb2 0 rfl; have q2 := cell_kept8 hb2 2 rfl; have q3 := cell_kept8 hb2 3 rfl; have q4 := cell_kept8 hb2 4 rfl; have q5 := cell_kept8 hb2 5 rfl; have q6 := cell_kept8 hb2 6 rfl; have q7 := cell_kept8 hb2 7 rfl; have hl2 : w.heap.size < w2.heap.size := (by have := hb2.size; simp at this; omega); clear hb2))
          go_ret
          exact ⟨rfl, HB2.out⟩
      · have E2 : Hid (decide ((0 : Int) ≤ cv ∧ cv ≤ 1000) = false) := hide (decide_eq_false k2)
        obtain rfl : RG = false := by rw [← E, decide_eq_false (fun c => k2 ⟨c.2.2.1, c.2.2.2.1⟩)]; rfl
        clear E k1 k2
        go_enter Tryd.func29, Tryd.ntmps29
        go_wp2_with (first | (go_at_call 49; refine (J.out _ _ _ _).mono ?_; rintro e w' ⟨rfl, hw⟩; replace hw := hw.symm; subst hw; first | rw [E1.out] | rw [E2.out]) | (go_at_call 61; refine GT.out.mono ?_; rintro e w2 ⟨rfl, hb2⟩; have HB2 : Hid (Below w.heap.size w w2) := hide (HB.out.trans (hb2.mono HB.out.size)); have q0 := cell_kept8 hb2 0 rfl; have q2 := cell_kept8 hb2 2 rfl; have q3 := cell_kept8 hb2 3 rfl; have q4 := cell_kept8 hb2 4 rfl; have q5 := cell_kept8 hb2 5 rfl; have q6 := cell_kept8 hb2 6 rfl; have q7 := cell_kept8 hb2 7 rfl; have hl2 : w.heap.size < w2.heap.size := (by have := hb2.size; simp at this; omega); clear hb2))
        go_ret
        exact ⟨rfl, HB2.out⟩
  · have E1 : Hid (decide ((0 : Int) ≤ ci ∧ ci ≤ 3) = false) := hide (decide_eq_false k1)
    obtain rfl : RG = false := by rw [← E, decide_eq_false (fun c => k1 ⟨c.1, by omega⟩)]; rfl
    clear E k1
    go_enter Tryd.func29, Tryd.ntmps29
    go_wp2_with (first | (go_at_call 49; refine (J.out _ _ _ _).mono ?_; rintro e w' ⟨rfl, hw⟩; replace hw := hw.symm; subst hw; rw [E1.out]) | (go_at_call 61; refine GT.out.mono ?_; rintro e w2 ⟨rfl, hb2⟩; have HB2 : Hid (Below w.heap.size w w2) := hide (HB.out.trans (hb2.mono HB.out.size)); have q0 := cell_kept8 hb2 0 rfl; have q2 := cell_kept8 hb2 2 rfl; have q3 := cell_kept8 hb2 3 rfl; have q4 := cell_kept8 hb2 4 rfl; have q5 := cell_kept8 hb2 5 rfl; have q6 := cell_kept8 hb2 6 rfl; have q7 := cell_kept8 hb2 7 rfl; have hl2 : w.heap.size < w2.heap.size := (by have := hb2.size; simp at this; omega); clear hb2))
    go_ret
    exact ⟨rfl, HB.out⟩
end Go.Proofs.YtkjioadmebkaoabDoor

set_option linter.unusedVariables false
namespace Go.Proofs.YtkjioadmebkaoabDoor
open Go.RowKit
open Doc1

theorem Tryd.sizeClient : (Tryd.prog.info? 29).map (·.size) = some 8 := by kernel_rfl
/-- All eight cells of a block are written. -/
theorem CB.put8 {w : World} {b : Nat} {x0 x1 x2 x3 x4 x5 x6 x7 : Value} (h : CB w b #[x0, x1, x2, x3, x4, x5, x6, x7]) (y0 y1 y2 y3 y4 y5 y6 y7 : Value) :
    CB ((((((((w.setCell ⟨b, 0, none⟩ y0).setCell ⟨b, 1, none⟩ y1).setCell ⟨b, 2, none⟩ y2).setCell ⟨b, 3, none⟩ y3).setCell ⟨b, 4, none⟩ y4).setCell ⟨b, 5, none⟩ y5).setCell ⟨b, 6, none⟩ y6).setCell ⟨b, 7, none⟩ y7) b #[y0, y1, y2, y3, y4, y5, y6, y7] :=
  by
  have h0 : CB _ b #[y0, x1, x2, x3, x4, x5, x6, x7] := h.set 0 y0 rfl
  have h1 : CB _ b #[y0, y1, x2, x3, x4, x5, x6, x7] := h0.set 1 y1 rfl
  have h2 : CB _ b #[y0, y1, y2, x3, x4, x5, x6, x7] := h1.set 2 y2 rfl
  have h3 : CB _ b #[y0, y1, y2, y3, x4, x5, x6, x7] := h2.set 3 y3 rfl
  have h4 : CB _ b #[y0, y1, y2, y3, y4, x5, x6, x7] := h3.set 4 y4 rfl
  have h5 : CB _ b #[y0, y1, y2, y3, y4, y5, x6, x7] := h4.set 5 y5 rfl
  have h6 : CB _ b #[y0, y1, y2, y3, y4, y5, y6, x7] := h5.set 6 y6 rfl
  exact h6.set 7 y7 rfl
/-- The world with all eight cells written. -/
def put8 (w : World) (b : Nat) (y0 y1 y2 y3 y4 y5 y6 y7 : Value) : World := (((((((w.setCell ⟨b, 0, none⟩ y0).setCell ⟨b, 1, none⟩ y1).setCell ⟨b, 2, none⟩ y2).setCell ⟨b, 3, none⟩ y3).setCell ⟨b, 4, none⟩ y4).setCell ⟨b, 5, none⟩ y5).setCell ⟨b, 6, none⟩ y6).setCell ⟨b, 7, none⟩ y7
theorem put8_below {B : Nat} {w w1 : World} {b : Nat} (h : Below B w w1) (hb : B ≤ b) (y0 y1 y2 y3 y4 y5 y6 y7 : Value) : Below B w (put8 w1 b y0 y1 y2 y3 y4 y5 y6 y7) :=
  (((((((h.setCell (p := ⟨b, 0, none⟩) hb y0).setCell (p := ⟨b, 1, none⟩) hb y1).setCell (p := ⟨b, 2, none⟩) hb y2).setCell (p := ⟨b, 3, none⟩) hb y3).setCell (p := ⟨b, 4, none⟩) hb y4).setCell (p := ⟨b, 5, none⟩) hb y5).setCell (p := ⟨b, 6, none⟩) hb y6).setCell (p := ⟨b, 7, none⟩) hb y7
theorem put8_size (w : World) (b : Nat) (y0 y1 y2 y3 y4 y5 y6 y7 : Value) : (put8 w b y0 y1 y2 y3 y4 y5 y6 y7).heap.size = w.heap.size := by simp [put8, World.setCell]
theorem put8_far (w : World) (b : Nat) (y0 y1 y2 y3 y4 y5 y6 y7 : Value) {k : Nat} (h : k ≠ b) : (put8 w b y0 y1 y2 y3 y4 y5 y6 y7).heap[k]? = w.heap[k]? := by
  unfold put8
  rw [Below.heap_setCell _ _ _ _ (by show k ≠ b; exact h), Below.heap_setCell _ _ _ _ (by show k ≠ b; exact h), Below.heap_setCell _ _ _ _ (by show k ≠ b; exact h), Below.heap_setCell _ _ _ _ (by show k ≠ b; exact h), Below.heap_setCell _ _ _ _ (by show k ≠ b; exact h), Below.heap_setCell _ _ _ _ (by show k ≠ b; exact h), Below.heap_setCell _ _ _ _ (by show k ≠ b; exact h), Below.heap_setCell _ _ _ _ (by show k ≠ b; exact h)]
theorem CB.all8 {w : World} {b : Nat} {x0 x1 x2 x3 x4 x5 x6 x7 : Value} (h : CB w b #[x0, x1, x2, x3, x4, x5, x6, x7]) :
    w.cell? ⟨b, 0, none⟩ = some x0 ∧ w.cell? ⟨b, 1, none⟩ = some x1 ∧ w.cell? ⟨b, 2, none⟩ = some x2 ∧ w.cell? ⟨b, 3, none⟩ = some x3 ∧ w.cell? ⟨b, 4, none⟩ = some x4 ∧ w.cell? ⟨b, 5, none⟩ = some x5 ∧ w.cell? ⟨b, 6, none⟩ = some x6 ∧ w.cell? ⟨b, 7, none⟩ = some x7 :=
  ⟨h.cell 0 rfl, h.cell 1 rfl, h.cell 2 rfl, h.cell 3 rfl, h.cell 4 rfl, h.cell 5 rfl, h.cell 6 rfl, h.cell 7 rfl⟩
theorem CB.fz8 {w : World} {b : Nat} {cs : Array Value} (h : CB w b cs) :
    w.frozen? ⟨b, 0, none⟩ = false ∧ w.frozen? ⟨b, 1, none⟩ = false ∧ w.frozen? ⟨b, 2, none⟩ = false ∧ w.frozen? ⟨b, 3, none⟩ = false ∧ w.frozen? ⟨b, 4, none⟩ = false ∧ w.frozen? ⟨b, 5, none⟩ = false ∧ w.frozen? ⟨b, 6, none⟩ = false ∧ w.frozen? ⟨b, 7, none⟩ = false :=
  ⟨h.fz 0, h.fz 1, h.fz 2, h.fz 3, h.fz 4, h.fz 5, h.fz 6, h.fz 7⟩

/-- Parts that are not too many and not too long. -/
def SmQ (l : List Pt) : Prop := l.length ≤ 1048576 ∧ ∀ j (hj : j < l.length), l[j].put.size ≤ 1048576 ∧ l[j].drop.size ≤ 1048576
/-- A client that is read. -/
structure CnR (w : World) (vs vb : Value) (c : Cn) : Prop where
  s : PR w vs c.sn
  b : PR w vb c.bf
  ss : SmQ c.sn
  sb : SmQ c.bf
  t : c.tx.size ≤ 1048576
theorem CnR.later {w w1 : World} {vs vb : Value} {c : Cn} (h : CnR w vs vb c) (hb : Below w.heap.size w w1) : CnR w1 vs vb c := ⟨h.s.later hb, h.b.later hb, h.ss, h.sb, h.t⟩
theorem CnR.pin {w : World} {vs vb : Value} {c : Cn} (h : CnR w vs vb c) (h0 : 0 < w.heap.size) : CPin w vs vb c := ⟨h.s.pin h0 h.ss.1 h.ss.2, h.b.pin h0 h.sb.1 h.sb.2, h.t⟩
/-- A client whose rows lie in blocks of their own. -/
structure CnX (lo hi : Nat) (w : World) (vs vb : Value) (c : Cn) : Prop where
  s : PR w vs c.sn
  b : PR w vb c.bf
  bs : ∀ y, vs.ownBlock = some y → lo ≤ y ∧ y < hi
  bb : ∀ y, vb.ownBlock = some y → lo ≤ y ∧ y < hi
  ne : ∀ y, vs.ownBlock = some y → vb.ownBlock ≠ some y
theorem CnX.later {lo hi : Nat} {w w1 : World} {vs vb : Value} {c : Cn} (h : CnX lo hi w vs vb c) (hb : Below w.heap.size w w1) : CnX lo hi w1 vs vb c := ⟨h.s.later hb, h.b.later hb, h.bs, h.bb, h.ne⟩
theorem CnX.wide {lo hi lo' hi' : Nat} {w : World} {vs vb : Value} {c : Cn} (h : CnX lo hi w vs vb c) (h1 : lo' ≤ lo) (h2 : hi ≤ hi') : CnX lo' hi' w vs vb c :=
  ⟨h.s, h.b, fun y hy => ⟨by have := (h.bs y hy).1; omega, by have := (h.bs y hy).2; omega⟩, fun y hy => ⟨by have := (h.bb y hy).1; omega, by have := (h.bb y hy).2; omega⟩, h.ne⟩
theorem CnX.cr {lo hi : Nat} {w : World} {vs vb : Value} {c : Cn} (h : CnX lo hi w vs vb c) (ss : SmQ c.sn) (sb : SmQ c.bf) (ht : c.tx.size ≤ 1048576) : CnR w vs vb c := ⟨h.s, h.b, ss, sb, ht⟩
/-- One cell, of no row, is written. -/
theorem CnX.set {lo hi : Nat} {w : World} {vs vb : Value} {c : Cn} (h : CnX lo hi w vs vb c) {b j : Nat} (hb : b < lo ∨ hi ≤ b) (x : Value) : CnX lo hi (w.setCell ⟨b, j, none⟩ x) vs vb c :=
  ⟨h.s.keep (by simp [World.setCell]) (fun y hy _ => Below.heap_setCell _ _ _ _ (by show y ≠ b; have := h.bs y hy; omega)), h.b.keep (by simp [World.setCell]) (fun y hy _ => Below.heap_setCell _ _ _ _ (by show y ≠ b; have := h.bb y hy; omega)), h.bs, h.bb, h.ne⟩
theorem CnX.put8 {lo hi : Nat} {w : World} {vs vb : Value} {c : Cn} (h : CnX lo hi w vs vb c) {b : Nat} (hb : b < lo ∨ hi ≤ b) (y0 y1 y2 y3 y4 y5 y6 y7 : Value) : CnX lo hi (put8 w b y0 y1 y2 y3 y4 y5 y6 y7) vs vb c :=
  (((((((h.set hb y0).set hb y1).set hb y2).set hb y3).set hb y4).set hb y5).set hb y6).set hb y7
/-- What a client by itself is told as. -/
def CcPost (w : World) (c : Cn) (e : Ending) (w' : World) : Prop := ∃ a1 k1 a2 k2, e = .returned (.agg (cnC c (.slice a1 c.sn.length k1) (.slice a2 c.bf.length k2))) ∧ CnX w.heap.size w'.heap.size w' (.slice a1 c.sn.length k1) (.slice a2 c.bf.length k2) c ∧ Below w.heap.size w w'
theorem pr_set {w : World} {v : Value} {l : List Pt} (h : PR w v l) {b j : Nat} (hb : v.ownBlock ≠ some b) (x : Value) : PR (w.setCell ⟨b, j, none⟩ x) v l :=
  h.keep (by simp [World.setCell]) (fun y hy _ => Below.heap_setCell _ _ _ _ (by show y ≠ b; intro c; subst c; exact hb hy))

set_option maxRecDepth 100000 in
set_option maxHeartbeats 4000000 in
theorem copyClient {w : World} {vs vb : Value} {c : Cn} (h : CnR w vs vb c) :
    Calls Tryd.prog 39 #[.agg (cnC c vs vb)] w (CcPost w c) := by
  obtain ⟨aS, cs, rfl⟩ := h.s.shp
  obtain ⟨ab, cb, rfl⟩ := h.b.shp
  obtain ⟨ci, ct, cv, cq, cw, sn, bf, cd⟩ := c
  obtain ⟨w1, hw1⟩ : ∃ w1, w1 = (w.alloc (.cells #[.int .i64 ci, .string ct, .int .i64 cv, .int .i64 cq, .bool cw, .slice aS sn.length cs, .slice ab bf.length cb, .bool cd] 29)).alloc (.cells #[.int .i64 0, .string ⟨#[]⟩, .int .i64 0, .int .i64 0, .bool false, .slice none 0 0, .slice none 0 0, .bool false] 29) := ⟨_, rfl⟩
  have hs1 : w1.heap.size = w.heap.size + 2 := by rw [hw1]; simp
  have hb1 : Below w.heap.size w w1 := by rw [hw1]; exact ((Below.refl _ _).alloc (Nat.le_refl _) _).alloc (by simp) _
  have X1 : Hid (CB w1 w.heap.size #[.int .i64 ci, .string ct, .int .i64 cv, .int .i64 cq, .bool cw, .slice aS sn.length cs, .slice ab bf.length cb, .bool cd]) := hide (by rw [hw1]; exact (CB.new w _ _).later ((Below.refl _ _).alloc (Nat.le_refl _) _))
  have R1 : Hid (CB w1 (w.heap.size + 1) #[.int .i64 0, .string ⟨#[]⟩, .int .i64 0, .int .i64 0, .bool false, .slice none 0 0, .slice none 0 0, .bool false]) := hide (by rw [hw1]; have := CB.new (w.alloc (.cells #[.int .i64 ci, .string ct, .int .i64 cv, .int .i64 cq, .bool cw, .slice aS sn.length cs, .slice ab bf.length cb, .bool cd] 29)) #[.int .i64 0, .string ⟨#[]⟩, .int .i64 0, .int .i64 0, .bool false, .slice none 0 0, .slice none 0 0, .bool false] 29; rw [World.size_alloc] at this; exact this)
  have HH := hide h
  have B1 := hide hb1
  have CL := hide (strClone_any ct w1 h.t)
  clear h hb1
  unfold cnC
  simp only
  go_enter Tryd.func39, Tryd.ntmps39
  go_wp2_with fail
  rw [← hw1]
  clear hw1
  refine CL.out.mono ?_
  rintro e w2 ⟨rfl, hb2⟩
  have f2 := (X1.out.later hb2).fz 1
  have g2 := (X1.out.later hb2).cell 1 rfl
  obtain ⟨V2, hV2⟩ : ∃ V, V = w2.setCell ⟨w.heap.size, 1, none⟩ (.string ct) := ⟨_, rfl⟩
  have X2 : Hid (CB V2 w.heap.size #[.int .i64 ci, .string ct, .int .i64 cv, .int .i64 cq, .bool cw, .slice aS sn.length cs, .slice ab bf.length cb, .bool cd]) := hide (by rw [hV2]; exact (X1.out.later hb2).set 1 _ rfl)
  have R2 : Hid (CB V2 (w.heap.size + 1) #[.int .i64 0, .string ⟨#[]⟩, .int .i64 0, .int .i64 0, .bool false, .slice none 0 0, .slice none 0 0, .bool false]) := hide (by rw [hV2]; exact (R1.out.later hb2).other (d := w.heap.size) (by omega) 1 _)
  have B2 : Hid (Below w.heap.size w V2) := hide (by rw [hV2]; exact (B1.out.trans (hb2.mono B1.out.size)).setCell (p := ⟨w.heap.size, 1, none⟩) (Nat.le_refl _) _)
  have hs2 : w.heap.size + 2 ≤ V2.heap.size := by have := hb2.size; rw [hV2]; simp [World.setCell]; omega
  have C2 := hide (copyOp (HH.out.later B2.out).s HH.out.ss.1 HH.out.ss.2)
  have k5 := X2.out.cell 5 rfl
  rw [hV2] at k5
  clear hb2 X1 R1 B1 CL
  go_wp2_with fail
  rw [← hV2]
  clear hV2 f2 g2 k5
  refine C2.out.mono ?_
  rintro e w3 ⟨v3, rfl, ho3, hb3⟩
  obtain ⟨a3, c3, rfl, -⟩ := own_shp ho3
  have f3 := (X2.out.later hb3).fz 5
  have g3 := (X2.out.later hb3).cell 5 rfl
  obtain ⟨V3, hV3⟩ : ∃ V, V = w3.setCell ⟨w.heap.size, 5, none⟩ (.slice a3 sn.length c3) := ⟨_, rfl⟩
  have X3 : Hid (CB V3 w.heap.size #[.int .i64 ci, .string ct, .int .i64 cv, .int .i64 cq, .bool cw, .slice a3 sn.length c3, .slice ab bf.length cb, .bool cd]) := hide (by rw [hV3]; exact (X2.out.later hb3).set 5 _ rfl)
  have R3 : Hid (CB V3 (w.heap.size + 1) #[.int .i64 0, .string ⟨#[]⟩, .int .i64 0, .int .i64 0, .bool false, .slice none 0 0, .slice none 0 0, .bool false]) := hide (by rw [hV3]; exact (R2.out.later hb3).other (d := w.heap.size) (by omega) 5 _)
  have B3 : Hid (Below w.heap.size w V3) := hide (by rw [hV3]; exact (B2.out.trans (hb3.mono B2.out.size)).setCell (p := ⟨w.heap.size, 5, none⟩) (Nat.le_refl _) _)
  have hs3 : V2.heap.size ≤ w3.heap.size := hb3.size
  have hs3' : V3.heap.size = w3.heap.size := by rw [hV3]; simp [World.setCell]
  have O3 : Hid (POwn V3 V2.heap.size (.slice a3 sn.length c3) sn) := hide (by rw [hV3]; exact own_aside ho3 (by omega) _ _)
  have C3 := hide (copyOp (HH.out.later B3.out).b HH.out.sb.1 HH.out.sb.2)
  have k6 := X3.out.cell 6 rfl
  rw [hV3] at k6
  clear hb3 ho3 X2 R2 B2 C2
  go_wp2_with fail
  rw [← hV3]
  clear hV3 f3 g3 k6
  refine C3.out.mono ?_
  rintro e w4 ⟨v4, rfl, ho4, hb4⟩
  obtain ⟨a4, c4, rfl, -⟩ := own_shp ho4
  have f4 := (X3.out.later hb4).fz 6
  have g4 := (X3.out.later hb4).cell 6 rfl
  obtain ⟨V4, hV4⟩ : ∃ V, V = w4.setCell ⟨w.heap.size, 6, none⟩ (.slice a4 bf.length c4) := ⟨_, rfl⟩
  have X4 : CB V4 w.heap.size #[.int .i64 ci, .string ct, .int .i64 cv, .int .i64 cq, .bool cw, .slice a3 sn.length c3, .slice a4 bf.length c4, .bool cd] := by rw [hV4]; exact (X3.out.later hb4).set 6 _ rfl
  have R4 : CB V4 (w.heap.size + 1) #[.int .i64 0, .string ⟨#[]⟩, .int .i64 0, .int .i64 0, .bool false, .slice none 0 0, .slice none 0 0, .bool false] := by rw [hV4]; exact (R3.out.later hb4).other (d := w.heap.size) (by omega) 6 _
  have B4 : Below w.heap.size w V4 := by rw [hV4]; exact (B3.out.trans (hb4.mono B3.out.size)).setCell (p := ⟨w.heap.size, 6, none⟩) (Nat.le_refl _) _
  have hs4 : V3.heap.size ≤ w4.heap.size := hb4.size
  have hs4' : V4.heap.size = w4.heap.size := by rw [hV4]; simp [World.setCell]
  have O4 : POwn V4 V3.heap.size (.slice a4 bf.length c4) bf := by rw [hV4]; exact own_aside ho4 (by omega) _ _
  have P4 : POwn V4 V2.heap.size (.slice a3 sn.length c3) sn := by rw [hV4]; exact own_aside (own_below O3.out hb4) (by omega) _ _
  obtain ⟨i0, i1, i2, i3, i4, i5, i6, i7⟩ := X4.all8
  obtain ⟨j0, j1, j2, j3, j4, j5, j6, j7⟩ := R4.fz8
  obtain ⟨m0, m1, m2, m3, m4, m5, m6, m7⟩ := R4.all8
  rw [hV4] at i0 i1 i2 i3 i4 i5 i6 i7 j0 j1 j2 j3 j4 j5 j6 j7 m0 m1 m2 m3 m4 m5 m6 m7
  have L := R4.put8 (.int .i64 ci) (.string ct) (.int .i64 cv) (.int .i64 cq) (.bool cw) (.slice a3 sn.length c3) (.slice a4 bf.length c4) (.bool cd)
  have hsz := put8_size V4 (w.heap.size + 1) (.int .i64 ci) (.string ct) (.int .i64 cv) (.int .i64 cq) (.bool cw) (.slice a3 sn.length c3) (.slice a4 bf.length c4) (.bool cd)
  have BX : CnX w.heap.size (put8 V4 (w.heap.size + 1) (.int .i64 ci) (.string ct) (.int .i64 cv) (.int .i64 cq) (.bool cw) (.slice a3 sn.length c3) (.slice a4 bf.length c4) (.bool cd)).heap.size (put8 V4 (w.heap.size + 1) (.int .i64 ci) (.string ct) (.int .i64 cv) (.int .i64 cq) (.bool cw) (.slice a3 sn.length c3) (.slice a4 bf.length c4) (.bool cd)) (.slice a3 sn.length c3) (.slice a4 bf.length c4) ⟨ci, ct, cv, cq, cw, sn, bf, cd⟩ :=
    CnX.wide (CnX.put8 (lo := w.heap.size + 2) (hi := V4.heap.size) ⟨PR.own P4, PR.own O4, fun y hy => by have := World.ownsRow.lt P4 y hy; omega, fun y hy => by have := World.ownsRow.lt O4 y hy; omega, fun y hy hz => by
      have q1 := World.ownsRow.lt O3.out y hy
      have q2 := World.ownsRow.lt O4 y hz
      omega⟩ (b := w.heap.size + 1) (.inl (by omega)) _ _ _ _ _ _ _ _) (by omega) (by omega)
  have HL := hide L
  have HX := hide BX
  have HB := hide (put8_below B4 (show w.heap.size ≤ w.heap.size + 1 by omega) (.int .i64 ci) (.string ct) (.int .i64 cv) (.int .i64 cq) (.bool cw) (.slice a3 sn.length c3) (.slice a4 bf.length c4) (.bool cd))
  have HV := hide hV4
  clear hb4 ho4 X3 R3 B3 C3 X4 R4 B4 O4 P4 O3 L BX hsz HH hs4' hs3'
  rw [hV4] at HL HX HB
  clear HV hV4
  go_wp2
  obtain ⟨tt, htt⟩ := HL.out
  refine bodyPost_ret (results_cell_row rfl _ _ (w.heap.size + 1) _ _ (0, 0) _ rfl htt Tryd.underlying29 rfl Tryd.sizeClient) rfl ?_
  exact ⟨a3, c3, a4, c4, rfl, HX.out, HB.out⟩

set_option maxRecDepth 100000 in
set_option maxHeartbeats 4000000 in
theorem ownClient {w : World} {vs vb : Value} {c : Cn} (h : CnR w vs vb c) :
    Calls Tryd.prog 31 #[.agg (cnC c vs vb)] w (CcPost w c) := by
  obtain ⟨aS, cs, rfl⟩ := h.s.shp
  obtain ⟨ab, cb, rfl⟩ := h.b.shp
  obtain ⟨ci, ct, cv, cq, cw, sn, bf, cd⟩ := c
  obtain ⟨w1, hw1⟩ : ∃ w1, w1 = (w.alloc (.cells #[.int .i64 ci, .string ct, .int .i64 cv, .int .i64 cq, .bool cw, .slice aS sn.length cs, .slice ab bf.length cb, .bool cd] 29)).alloc (.cells #[.int .i64 0, .string ⟨#[]⟩, .int .i64 0, .int .i64 0, .bool false, .slice none 0 0, .slice none 0 0, .bool false] 29) := ⟨_, rfl⟩
  have hs1 : w1.heap.size = w.heap.size + 2 := by rw [hw1]; simp
  have hb1 : Below w.heap.size w w1 := by rw [hw1]; exact ((Below.refl _ _).alloc (Nat.le_refl _) _).alloc (by simp) _
  have X1 : Hid (CB w1 w.heap.size #[.int .i64 ci, .string ct, .int .i64 cv, .int .i64 cq, .bool cw, .slice aS sn.length cs, .slice ab bf.length cb, .bool cd]) := hide (by rw [hw1]; exact (CB.new w _ _).later ((Below.refl _ _).alloc (Nat.le_refl _) _))
  have R1 : Hid (CB w1 (w.heap.size + 1) #[.int .i64 0, .string ⟨#[]⟩, .int .i64 0, .int .i64 0, .bool false, .slice none 0 0, .slice none 0 0, .bool false]) := hide (by rw [hw1]; have := CB.new (w.alloc (.cells #[.int .i64 ci, .string ct, .int .i64 cv, .int .i64 cq, .bool cw, .slice aS sn.length cs, .slice ab bf.length cb, .bool cd] 29)) #[.int .i64 0, .string ⟨#[]⟩, .int .i64 0, .int .i64 0, .bool false, .slice none 0 0, .slice none 0 0, .bool false] 29; rw [World.size_alloc] at this; exact this)
  have HH := hide h
  have B1 := hide hb1
  have hba : Below w1.heap.size w1 (w1.alloc (.cells #[] 79)) := (Below.refl _ _).alloc (Nat.le_refl _) _
  have ON := hide (own_none (w := w1) (B := w.heap.size + 2) (g := w.heap.size + 2) (by omega) hs1.symm)
  have HPA := hide ((h.s.later hb1).later hba)
  have k5 : (w1.alloc (.cells #[] 79)).cell? ⟨w.heap.size, 5, none⟩ = some (.slice aS sn.length cs) := (X1.out.later hba).cell 5 rfl
  have hl1 := h.ss.1
  have hl2 := h.sb.1
  have hsa : (w1.alloc (.cells #[] 79)).heap.size = w1.heap.size + 1 := by simp
  clear h hb1
  unfold cnC
  simp only at hl1 hl2 ⊢
  go_enter Tryd.func31, Tryd.ntmps31
  go_upto_region 1 with fail
  rw [← hw1]
  clear hw1
  go_upto_region 2 with (at_builtin; refine append_parts _ rfl _ _ rfl (w.heap.size + 2) ⟨w.heap.size + 2, 0, none⟩ ON.out aS cs sn hl1 (by simp [go_sem]) rfl HPA.out (by omega) ?_; intro x w2 hx hb2; obtain ⟨a3, c3, rfl, -, -⟩ := own_shp hx; have HX2 := hide hx; have HB2 := hide hb2; clear hx hb2; have f2 := ((X1.out.later hba).block (HB2.out.block _ (by omega))).fz 5; have g2 := ((X1.out.later hba).block (HB2.out.block _ (by omega))).cell 5 rfl)
  have hbx : Below w1.heap.size w1 w2 := by rw [hs1]; exact (by rw [hs1] at hba; exact hba.trans HB2.out)
  obtain ⟨V3, hV3⟩ : ∃ V, V = w2.setCell ⟨w.heap.size, 5, none⟩ (.slice a3 sn.length c3) := ⟨_, rfl⟩
  have X3 : Hid (CB V3 w.heap.size #[.int .i64 ci, .string ct, .int .i64 cv, .int .i64 cq, .bool cw, .slice a3 sn.length c3, .slice ab bf.length cb, .bool cd]) := hide (by rw [hV3]; exact (X1.out.later hbx).set 5 _ rfl)
  have R3 : Hid (CB V3 (w.heap.size + 1) #[.int .i64 0, .string ⟨#[]⟩, .int .i64 0, .int .i64 0, .bool false, .slice none 0 0, .slice none 0 0, .bool false]) := hide (by rw [hV3]; exact (R1.out.later hbx).other (d := w.heap.size) (by omega) 5 _)
  have B3 : Hid (Below w.heap.size w V3) := hide (by rw [hV3]; exact (B1.out.trans (hbx.mono B1.out.size)).setCell (p := ⟨w.heap.size, 5, none⟩) (Nat.le_refl _) _)
  have hs3' : V3.heap.size = w2.heap.size := by rw [hV3]; simp [World.setCell]
  have hs3 : w.heap.size + 2 ≤ V3.heap.size := by have := hbx.size; omega
  clear hs3'
  have O3 : Hid (POwn V3 (w.heap.size + 2) (.slice a3 sn.length c3) sn) := hide (by rw [hV3]; exact own_aside HX2.out (by omega) _ _)
  have hba3 : Below V3.heap.size V3 (V3.alloc (.cells #[] 79)) := (Below.refl _ _).alloc (Nat.le_refl _) _
  have ON3 := hide (own_none (w := V3) (B := V3.heap.size) (g := V3.heap.size) (Nat.le_refl _) rfl)
  have HPB := hide ((HH.out.later B3.out).b.later hba3)
  have k6 : (V3.alloc (.cells #[] 79)).cell? ⟨w.heap.size, 6, none⟩ = some (.slice ab bf.length cb) := (X3.out.later hba3).cell 6 rfl
  rw [← hV3]
  clear hV3 f2 g2 k5 X1 R1 B1 hba ON HPA HX2 HB2 hbx
  go_upto_region 3 with (at_builtin; refine append_parts _ rfl _ _ rfl V3.heap.size ⟨V3.heap.size, 0, none⟩ ON3.out ab cb bf hl2 rfl rfl HPB.out (by simp) ?_; intro x w4 hx hb4; obtain ⟨a4, c4, rfl, -, -⟩ := own_shp hx; have HX4 := hide hx; have HB4 := hide hb4; clear hx hb4; have f4 := ((X3.out.later hba3).block (HB4.out.block _ (by omega))).fz 6; have g4 := ((X3.out.later hba3).block (HB4.out.block _ (by omega))).cell 6 rfl)
  have hb4 : Below V3.heap.size V3 w4 := hba3.trans HB4.out
  have ho4 := HX4.out
  obtain ⟨V4, hV4⟩ : ∃ V, V = w4.setCell ⟨w.heap.size, 6, none⟩ (.slice a4 bf.length c4) := ⟨_, rfl⟩
  have X4 : CB V4 w.heap.size #[.int .i64 ci, .string ct, .int .i64 cv, .int .i64 cq, .bool cw, .slice a3 sn.length c3, .slice a4 bf.length c4, .bool cd] := by rw [hV4]; exact (X3.out.later hb4).set 6 _ rfl
  have R4 : CB V4 (w.heap.size + 1) #[.int .i64 0, .string ⟨#[]⟩, .int .i64 0, .int .i64 0, .bool false, .slice none 0 0, .slice none 0 0, .bool false] := by rw [hV4]; exact (R3.out.later hb4).other (d := w.heap.size) (by omega) 6 _
  have B4 : Below w.heap.size w V4 := by rw [hV4]; exact (B3.out.trans (hb4.mono B3.out.size)).setCell (p := ⟨w.heap.size, 6, none⟩) (Nat.le_refl _) _
  have hs4 : V3.heap.size ≤ w4.heap.size := hb4.size
  have hs4' : V4.heap.size = w4.heap.size := by rw [hV4]; simp [World.setCell]
  have O4 : POwn V4 V3.heap.size (.slice a4 bf.length c4) bf := by rw [hV4]; exact own_aside ho4 (by omega) _ _
  have P4 : POwn V4 (w.heap.size + 2) (.slice a3 sn.length c3) sn := by rw [hV4]; exact own_aside (own_below O3.out hb4) (by omega) _ _
  obtain ⟨i0, i1, i2, i3, i4, i5, i6, i7⟩ := X4.all8
  obtain ⟨j0, j1, j2, j3, j4, j5, j6, j7⟩ := R4.fz8
  obtain ⟨m0, m1, m2, m3, m4, m5, m6, m7⟩ := R4.all8
  rw [← hV4]
  have HL := hide (R4.put8 (.int .i64 ci) (.string ct) (.int .i64 cv) (.int .i64 cq) (.bool cw) (.slice a3 sn.length c3) (.slice a4 bf.length c4) (.bool cd))
  have hsz := put8_size V4 (w.heap.size + 1) (.int .i64 ci) (.string ct) (.int .i64 cv) (.int .i64 cq) (.bool cw) (.slice a3 sn.length c3) (.slice a4 bf.length c4) (.bool cd)
  have HX := hide (CnX.wide (lo' := w.heap.size) (hi' := (put8 V4 (w.heap.size + 1) (.int .i64 ci) (.string ct) (.int .i64 cv) (.int .i64 cq) (.bool cw) (.slice a3 sn.length c3) (.slice a4 bf.length c4) (.bool cd)).heap.size) (CnX.put8 (lo := w.heap.size + 2) (hi := V4.heap.size) (c := ⟨ci, ct, cv, cq, cw, sn, bf, cd⟩) ⟨PR.own P4, PR.own O4, fun y hy => by have := World.ownsRow.lt P4 y hy; omega, fun y hy => by have := World.ownsRow.lt O4 y hy; omega, fun y hy hz => by
      have q1 := World.ownsRow.lt O3.out y hy
      have q2 := World.ownsRow.lt O4 y hz
      omega⟩ (b := w.heap.size + 1) (.inl (by omega)) (.int .i64 ci) (.string ct) (.int .i64 cv) (.int .i64 cq) (.bool cw) (.slice a3 sn.length c3) (.slice a4 bf.length c4) (.bool cd)) (by omega) (by omega))
  have HB := hide (put8_below B4 (show w.heap.size ≤ w.heap.size + 1 by omega) (.int .i64 ci) (.string ct) (.int .i64 cv) (.int .i64 cq) (.bool cw) (.slice a3 sn.length c3) (.slice a4 bf.length c4) (.bool cd))
  clear hb4 ho4 X3 R3 B3 hba3 ON3 HPB HX4 HB4 f4 g4 k6 X4 R4 B4 O4 P4 O3 hsz HH hs4' hV4 hs4 hs3 hs1 hsa
  go_wp2
  obtain ⟨tt, htt⟩ := HL.out
  refine bodyPost_ret (results_cell_row rfl _ _ (w.heap.size + 1) _ _ (0, 0) _ rfl htt Tryd.underlying29 rfl Tryd.sizeClient) rfl ?_
  exact ⟨a3, c3, a4, c4, rfl, HX.out, HB.out⟩

set_option maxRecDepth 100000 in
set_option maxHeartbeats 2000000 in
/-- What a client has done since its change went on its way. -/
theorem doneC {w : World} {vs vb : Value} {c : Cn} (h : CPin w vs vb c) (h0w : 0 < w.heap.size) :
    Calls Tryd.prog 41 #[.agg (cnC c vs vb)] w fun e w' => ∃ aw g cap, e = .returned (.slice aw (if c.dt then c.bf else keepL (c.tx.size : Int)).length cap) ∧ Pin w' aw g cap (if c.dt then c.bf else keepL (c.tx.size : Int)) ∧ Below w.heap.size w w' := by
  obtain ⟨⟨aS, gs, cs, rfl, ps⟩, ⟨ab, gb, cb, rfl, pb⟩, ht⟩ := h
  obtain ⟨ci, ct, cv, cq, cw, sn, bf, cd⟩ := c
  have hb1 : Below w.heap.size w (w.alloc (.cells #[.int .i64 ci, .string ct, .int .i64 cv, .int .i64 cq, .bool cw, .slice aS sn.length cs, .slice ab bf.length cb, .bool cd] 29)) := (Below.refl _ _).alloc (Nat.le_refl _) _
  have KP := hide (keepI (ct.size : Int) (w.alloc (.cells #[.int .i64 ci, .string ct, .int .i64 cv, .int .i64 cq, .bool cw, .slice aS sn.length cs, .slice ab bf.length cb, .bool cd] 29)))
  have PB := hide (pb.later hb1)
  have HB := hide hb1
  clear hb1 ps pb
  unfold cnC
  simp only at ht ⊢
  cases cd with
  | true =>
    simp only [if_true] at PB ⊢
    go_enter Tryd.func41, Tryd.ntmps41
    go_wp2
    go_ret
    exact ⟨ab, gb, cb, rfl, PB.out, HB.out⟩
  | false =>
    simp only [Bool.false_eq_true, if_false]
    go_enter Tryd.func41, Tryd.ntmps41
    go_wp2_with fail
    refine KP.out.mono ?_
    rintro e w2 ⟨v, rfl, ho, hb2⟩
    have HB2 := hide (HB.out.trans (hb2.mono HB.out.size))
    obtain ⟨aw, g, cap, rfl, hp⟩ := own_pin0 ho (Nat.lt_of_lt_of_le h0w (HB2.out.size)) (fun p hp => by
      unfold keepL at hp
      split at hp
      · rw [List.mem_singleton] at hp; rw [hp]; exact ⟨by show (0 : Nat) ≤ _; omega, by show (0 : Nat) ≤ _; omega⟩
      · cases hp) (by have := keepL_len (ct.size : Int); omega)
    have HP := hide hp
    clear hp ho hb2
    go_wp2
    go_ret
    exact ⟨aw, g, cap, rfl, HP.out, HB2.out⟩
end Go.Proofs.YtkjioadmebkaoabDoor

set_option linter.unusedVariables false
namespace Go.Proofs.YtkjioadmebkaoabDoor
open Go.RowKit
open Doc1

def zeroC : Cn := ⟨0, ⟨#[]⟩, 0, 0, false, [], [], false⟩
/-- What has been done since the change on its way, put together with a change. -/
def befC (c : Cn) : List Pt := if c.dt then c.bf else keepL (c.tx.size : Int)
/-- A client that is edited. -/
def edC (c : Cn) (op : List Pt) : Cn := if c.wt then ⟨c.id, (aplO op c.tx).1, c.vr, c.sq, true, c.sn, (cmpO (befC c) op).1, true⟩ else ⟨c.id, (aplO op c.tx).1, c.vr, c.sq + 1, true, norO op, c.bf, c.dt⟩
def edTold (c : Cn) (op : List Pt) : Bool := if c.wt then (cmpO (befC c) op).2 else goodO op
def ecB (c : Cn) (op : List Pt) : Bool := goodC c && ((aplO op c.tx).2 && (edTold c op && goodC (edC c op)))
def ecC (c : Cn) (op : List Pt) : Cn := if ecB c op then edC c op else zeroC
/-- What EditClient answers. -/
def EcPost (w : World) (r : Cn) (b : Bool) (e : Ending) (w' : World) : Prop := ∃ a1 k1 a2 k2, e = .returned (.tuple #[.agg (cnC r (.slice a1 r.sn.length k1) (.slice a2 r.bf.length k2)), .bool b]) ∧ CnX w.heap.size w'.heap.size w' (.slice a1 r.sn.length k1) (.slice a2 r.bf.length k2) r ∧ Below w.heap.size w w'
theorem cx_zero (lo hi : Nat) (w : World) : CnX lo hi w (.slice none 0 0) (.slice none 0 0) zeroC :=
  ⟨.inl ⟨rfl, none, 0, rfl, (by unfold maxLen; omega)⟩, .inl ⟨rfl, none, 0, rfl, (by unfold maxLen; omega)⟩, fun y hy => (by cases hy), fun y hy => (by cases hy), fun y hy => (by cases hy)⟩
theorem goodC_all {c : Cn} (h : goodC c = true) : (0 ≤ c.id ∧ c.id < 4 ∧ 0 ≤ c.vr ∧ c.vr ≤ 1000 ∧ 0 ≤ c.sq ∧ c.sq ≤ 1000) ∧ good c.tx.data.toList = true ∧ goodO c.sn = true ∧ goodO c.bf = true := by
  unfold goodC rngC at h
  simp only [Bool.and_eq_true, decide_eq_true_eq] at h
  exact ⟨h.1, h.2.2.2.1, h.2.2.2.2.1, h.2.2.2.2.2⟩
theorem smq_good {l : List Pt} (h : goodO l = true) : SmQ l := by
  refine ⟨by have := (goodO_le h).1; omega, fun j hj => ?_⟩
  have := pk_sizes (goodO_pk h l[j] (List.getElem_mem hj))
  omega
theorem norO_good (l : List Pt) : SmQ (norO l) := by
  cases h : goodO l with
  | true => exact smq_good (by unfold norO; rw [if_pos h]; have := normG h; rw [← this.2]; exact this.1)
  | false => unfold norO; rw [h]; exact ⟨by simp, fun j hj => by simp at hj⟩
theorem cmpO_sm (a b : List Pt) : SmQ (cmpO a b).1 := by
  unfold cmpO
  split
  · split
    · exact ⟨by simp, fun j hj => by simp at hj⟩
    · rename_i T h
      by_cases hg : goodO (gath g0 T).out = true
      · rw [if_pos hg]; exact smq_good hg
      · rw [if_neg hg]; exact ⟨by simp, fun j hj => by simp at hj⟩
  · exact ⟨by simp, fun j hj => by simp at hj⟩
theorem good_size {s : ByteArray} (h : good s.data.toList = true) : s.size ≤ 1048576 := by
  have := good_sz h
  omega
/-- Two rows, each in blocks of its own, made one behind the other. -/
theorem cx_make {lo hi m : Nat} {w : World} {vs vb : Value} {c : Cn} (hs : PR w vs c.sn) (hb : PR w vb c.bf) (h1 : ∀ y, vs.ownBlock = some y → lo ≤ y ∧ y < m) (h2 : ∀ y, vb.ownBlock = some y → m ≤ y ∧ y < hi) (hm1 : lo ≤ m) (hm2 : m ≤ hi) : CnX lo hi w vs vb c :=
  ⟨hs, hb, fun y hy => by have := h1 y hy; omega, fun y hy => by have := h2 y hy; omega, fun y hy hz => by have := h1 y hy; have := h2 y hz; omega⟩
theorem cx_make2 {lo hi m : Nat} {w : World} {vs vb : Value} {c : Cn} (hs : PR w vs c.sn) (hb : PR w vb c.bf) (h1 : ∀ y, vs.ownBlock = some y → m ≤ y ∧ y < hi) (h2 : ∀ y, vb.ownBlock = some y → lo ≤ y ∧ y < m) (hm1 : lo ≤ m) (hm2 : m ≤ hi) : CnX lo hi w vs vb c :=
  ⟨hs, hb, fun y hy => by have := h1 y hy; omega, fun y hy => by have := h2 y hy; omega, fun y hy hz => by have := h1 y hy; have := h2 y hz; omega⟩
theorem apE_gd2 {l : List Pt} {s : ByteArray} (h : (aplO l s).2 = true) : good (aplO l s).1.data.toList = true := apl_gd h

set_option maxRecDepth 100000 in
set_option maxHeartbeats 8000000 in
theorem editClientI {w : World} {vs vb vo : Value} {c : Cn} {op : List Pt} (h : CnR w vs vb c) (ho : PR w vo op) (so : SmQ op) (h0w : 0 < w.heap.size) (hT : Tab w) :
    Calls Tryd.prog 11 #[.agg (cnC c vs vb), vo] w (EcPost w (ecC c op) (ecB c op)) := by
  obtain ⟨ao, go', co, rfl, po⟩ := ho.pin h0w so.1 so.2
  obtain ⟨aS, cs, rfl⟩ := h.s.shp
  obtain ⟨ab, cb, rfl⟩ := h.b.shp
  obtain ⟨ci, ct, cv, cq, cw, sn, bf, cd⟩ := c
  obtain ⟨w1, hw1⟩ : ∃ w1, w1 = (w.alloc (.cells #[.int .i64 ci, .string ct, .int .i64 cv, .int .i64 cq, .bool cw, .slice aS sn.length cs, .slice ab bf.length cb, .bool cd] 29)).alloc (.cells #[.int .i64 0, .string ⟨#[]⟩, .int .i64 0, .int .i64 0, .bool false, .slice none 0 0, .slice none 0 0, .bool false] 29) := ⟨_, rfl⟩
  have hs1 : w1.heap.size = w.heap.size + 2 := by rw [hw1]; simp
  have hb1 : Below w.heap.size w w1 := by rw [hw1]; exact ((Below.refl _ _).alloc (Nat.le_refl _) _).alloc (by simp) _
  have X1 : Hid (CB w1 w.heap.size #[.int .i64 ci, .string ct, .int .i64 cv, .int .i64 cq, .bool cw, .slice aS sn.length cs, .slice ab bf.length cb, .bool cd]) := hide (by rw [hw1]; exact (CB.new w _ _).later ((Below.refl _ _).alloc (Nat.le_refl _) _))
  have R1 : Hid (CB w1 (w.heap.size + 1) #[.int .i64 0, .string ⟨#[]⟩, .int .i64 0, .int .i64 0, .bool false, .slice none 0 0, .slice none 0 0, .bool false]) := hide (by rw [hw1]; have := CB.new (w.alloc (.cells #[.int .i64 ci, .string ct, .int .i64 cv, .int .i64 cq, .bool cw, .slice aS sn.length cs, .slice ab bf.length cb, .bool cd] 29)) #[.int .i64 0, .string ⟨#[]⟩, .int .i64 0, .int .i64 0, .bool false, .slice none 0 0, .slice none 0 0, .bool false] 29; rw [World.size_alloc] at this; exact this)
  have HH := hide h
  have PO := hide po
  have HT := hide hT
  have B1 := hide hb1
  have AP := hide (applyI ct (po.later hb1) (hT.below hb1) h.t)
  have hlo := po.cap
  -- what is told, in words
  have HZ : Hid (ecB ⟨ci, ct, cv, cq, cw, sn, bf, cd⟩ op = false → ecC ⟨ci, ct, cv, cq, cw, sn, bf, cd⟩ op = zeroC) := hide (fun e => by unfold ecC; rw [e]; rfl)
  have HP : Hid (ecB ⟨ci, ct, cv, cq, cw, sn, bf, cd⟩ op = true → ecC ⟨ci, ct, cv, cq, cw, sn, bf, cd⟩ op = edC ⟨ci, ct, cv, cq, cw, sn, bf, cd⟩ op) := hide (fun e => by unfold ecC; rw [e]; rfl)
  have HQ : Hid (ecB ⟨ci, ct, cv, cq, cw, sn, bf, cd⟩ op = (goodC ⟨ci, ct, cv, cq, cw, sn, bf, cd⟩ && ((aplO op ct).2 && (edTold ⟨ci, ct, cv, cq, cw, sn, bf, cd⟩ op && goodC (edC ⟨ci, ct, cv, cq, cw, sn, bf, cd⟩ op))))) := hide rfl
  obtain ⟨EB, hEB⟩ : ∃ EB, ecB ⟨ci, ct, cv, cq, cw, sn, bf, cd⟩ op = EB := ⟨_, rfl⟩
  obtain ⟨EC, hEC⟩ : ∃ EC, ecC ⟨ci, ct, cv, cq, cw, sn, bf, cd⟩ op = EC := ⟨_, rfl⟩
  rw [hEB, hEC]
  rw [hEB] at HZ HP HQ
  rw [hEC] at HZ HP
  obtain ⟨fits, hfits⟩ : ∃ b, (aplO op ct).2 = b := ⟨_, rfl⟩
  obtain ⟨tx', htx⟩ : ∃ t, (aplO op ct).1 = t := ⟨_, rfl⟩
  have HF := hide hfits
  have HX' := hide htx
  rw [hfits] at AP HQ
  rw [htx] at AP
  clear h ho so po hb1 hT hEB hEC hfits htx
  unfold EcPost
  have hcn : cnC ⟨ci, ct, cv, cq, cw, sn, bf, cd⟩ (.slice aS sn.length cs) (.slice ab bf.length cb) = #[.int .i64 ci, .string ct, .int .i64 cv, .int .i64 cq, .bool cw, .slice aS sn.length cs, .slice ab bf.length cb, .bool cd] := rfl
  rw [hcn]
  clear hcn
  go_enter Tryd.func11, Tryd.ntmps11
  have k1 : w1.cell? ⟨w.heap.size, 1, none⟩ = some (.string ct) := X1.out.cell 1 rfl
  rw [hw1] at k1
  go_wp2_with fail
  rw [← hw1]
  clear hw1 k1
  refine AP.out.mono ?_
  rintro e w2 ⟨rfl, hb2⟩
  have X2 := hide (X1.out.later hb2)
  have R2 := hide (R1.out.later hb2)
  have B2 : Hid (Below w.heap.size w w2) := hide (B1.out.trans (hb2.mono B1.out.size))
  have hs2 : w.heap.size + 2 ≤ w2.heap.size := by have := hb2.size; omega
  clear hb2 X1 R1 B1 AP hs1
  cases fits with
  | false =>
    have hE : EB = false := by rw [HQ.out]; simp
    subst hE
    obtain rfl := HZ.out rfl
    have RX := R2
    have BX := B2
    clear HZ HP HQ R2 B2 X2 HH PO HT HF HX'
    obtain ⟨f0, f1, f2, f3, f4, f5, f6, f7⟩ := RX.out.fz8
    obtain ⟨m0, m1, m2, m3, m4, m5, m6, m7⟩ := RX.out.all8
    have HL := hide (RX.out.put8 (.int .i64 0) (.string ⟨#[]⟩) (.int .i64 0) (.int .i64 0) (.bool false) (.slice none 0 0) (.slice none 0 0) (.bool false))
    have HB := hide (put8_below BX.out (show w.heap.size ≤ w.heap.size + 1 by omega) (.int .i64 0) (.string ⟨#[]⟩) (.int .i64 0) (.int .i64 0) (.bool false) (.slice none 0 0) (.slice none 0 0) (.bool false))
    clear RX BX
    go_wp2
    obtain ⟨tt, htt⟩ := HL.out
    refine bodyPost_ret (results_cell_tmp rfl _ _ (w.heap.size + 1) tt _ (0, 0) _ (.bool false) rfl rfl htt Tryd.underlying29 rfl Tryd.sizeClient) rfl ?_
    exact ⟨none, 0, none, 0, rfl, cx_zero _ _ _, HB.out⟩
  | true =>
    have IG := hide (isGoodC ((HH.out.pin h0w).later B2.out) (HT.out.below B2.out))
    obtain ⟨gd, hgd⟩ : ∃ b, goodC ⟨ci, ct, cv, cq, cw, sn, bf, cd⟩ = b := ⟨_, rfl⟩
    rw [hgd] at IG HQ
    have HG := hide hgd
    clear hgd
    obtain ⟨i0, i1, i2, i3, i4, i5, i6, i7⟩ := X2.out.all8
    go_wp2_with fail
    refine IG.out.mono ?_
    rintro e w3 ⟨rfl, hb3⟩
    have X3 := hide (X2.out.later hb3)
    have R3 := hide (R2.out.later hb3)
    have B3 : Hid (Below w.heap.size w w3) := hide (B2.out.trans (hb3.mono B2.out.size))
    have hs3 : w.heap.size + 2 ≤ w3.heap.size := Nat.le_trans hs2 hb3.size
    clear hb3 X2 R2 B2 IG i0 i1 i2 i3 i4 i5 i6 i7 hs2
    cases gd with
    | false =>
      have hE : EB = false := by rw [HQ.out]; simp
      subst hE
      obtain rfl := HZ.out rfl
      have RX := R3
      have BX := B3
      clear HZ HP HQ R3 B3 X3 HH PO HT HF HX' HG
      obtain ⟨f0, f1, f2, f3, f4, f5, f6, f7⟩ := RX.out.fz8
      obtain ⟨m0, m1, m2, m3, m4, m5, m6, m7⟩ := RX.out.all8
      have HL := hide (RX.out.put8 (.int .i64 0) (.string ⟨#[]⟩) (.int .i64 0) (.int .i64 0) (.bool false) (.slice none 0 0) (.slice none 0 0) (.bool false))
      have HB := hide (put8_below BX.out (show w.heap.size ≤ w.heap.size + 1 by omega) (.int .i64 0) (.string ⟨#[]⟩) (.int .i64 0) (.int .i64 0) (.bool false) (.slice none 0 0) (.slice none 0 0) (.bool false))
      clear RX BX
      go_wp2
      obtain ⟨tt, htt⟩ := HL.out
      refine bodyPost_ret (results_cell_tmp rfl _ _ (w.heap.size + 1) tt _ (0, 0) _ (.bool false) rfl rfl htt Tryd.underlying29 rfl Tryd.sizeClient) rfl ?_
      exact ⟨none, 0, none, 0, rfl, cx_zero _ _ _, HB.out⟩
    | true =>
      have CC := hide (copyClient (HH.out.later B3.out))
      obtain ⟨i0, i1, i2, i3, i4, i5, i6, i7⟩ := X3.out.all8
      go_wp2_with fail
      refine CC.out.mono ?_
      rintro e w4 ⟨a1, n1, a2, n2, rfl, cx4, hb4⟩
      have hcn : cnC ⟨ci, ct, cv, cq, cw, sn, bf, cd⟩ (.slice a1 sn.length n1) (.slice a2 bf.length n2) = #[.int .i64 ci, .string ct, .int .i64 cv, .int .i64 cq, .bool cw, .slice a1 sn.length n1, .slice a2 bf.length n2, .bool cd] := rfl
      simp only [hcn]
      clear hcn
      have hrng := (goodC_all HG.out).1
      simp only at hrng
      have hq1 : IntKind.i64.wrap (cq + 1) = cq + 1 := by rw [IntKind.wrap_i64]; omega
      have B4 : Hid (Below w.heap.size w w4) := hide (B3.out.trans (hb4.mono B3.out.size))
      have X4 := hide (X3.out.later hb4)
      have R4 := hide (R3.out.later hb4)
      have CX4 : Hid (CnX w3.heap.size w4.heap.size w4 (.slice a1 sn.length n1) (.slice a2 bf.length n2) ⟨ci, ct, cv, cq, cw, sn, bf, cd⟩) := hide cx4
      have hs4 : w3.heap.size ≤ w4.heap.size := hb4.size
      clear hb4 cx4 X3 R3 B3 CC i0 i1 i2 i3 i4 i5 i6 i7
      cases cw with
      | true =>
        obtain ⟨V, hV⟩ : ∃ V, V = w4.alloc (.cells #[.int .i64 ci, .string tx', .int .i64 cv, .int .i64 cq, .bool true, .slice a1 sn.length n1, .slice a2 bf.length n2, .bool true] 29) := ⟨_, rfl⟩
        have hb5 : Below w4.heap.size w4 V := by rw [hV]; exact (Below.refl _ _).alloc (Nat.le_refl _) _
        have hsV : V.heap.size = w4.heap.size + 1 := by rw [hV]; simp
        have Y6 : Hid (CB V w4.heap.size #[.int .i64 ci, .string tx', .int .i64 cv, .int .i64 cq, .bool true, .slice a1 sn.length n1, .slice a2 bf.length n2, .bool true]) := hide (by rw [hV]; exact CB.new _ _ _)
        have X6 := hide (X4.out.later hb5)
        have R6 := hide (R4.out.later hb5)
        have B6 : Hid (Below w.heap.size w V) := hide (B4.out.trans (hb5.mono B4.out.size))
        have CX6 := hide (CX4.out.later hb5)
        have q4 : ∀ o : Obj, (w4.alloc o).cell? ⟨w.heap.size, 4, none⟩ = some (.bool true) := fun o => (X4.out.later ((Below.refl _ _).alloc (Nat.le_refl _) o)).cell 4 rfl
        obtain ⟨i0, i1, i2, i3, i4, i5, i6, i7⟩ := X6.out.all8
        rw [hV] at i0 i1 i2 i3 i4 i5 i6 i7
        have DN := hide (doneC ((HH.out.pin h0w).later B6.out) (Nat.lt_of_lt_of_le h0w B6.out.size))
        go_wp2_with fail
        rw [← hV]
        clear hV hb5 X4 R4 B4 CX4 q4 i0 i1 i2 i3 i4 i5 i6 i7
        refine DN.out.mono ?_
        rintro e w6 ⟨aw, gw, kw, rfl, pd, hb6⟩
        have B7 : Hid (Below w.heap.size w w6) := hide (B6.out.trans (hb6.mono B6.out.size))
        have CP := hide (compI pd (PO.out.later B7.out) (HT.out.below B7.out))
        obtain ⟨cb1, hcb1⟩ : ∃ l, (cmpO (if cd then bf else keepL (ct.size : Int)) op).1 = l := ⟨_, rfl⟩
        obtain ⟨cb2, hcb2⟩ : ∃ l, (cmpO (if cd then bf else keepL (ct.size : Int)) op).2 = l := ⟨_, rfl⟩
        simp only [hcb1, hcb2] at CP
        have hsm : SmQ cb1 := by rw [← hcb1]; exact cmpO_sm _ _
        have HED : Hid (edC ⟨ci, ct, cv, cq, true, sn, bf, cd⟩ op = ⟨ci, tx', cv, cq, true, sn, cb1, true⟩ ∧ edTold ⟨ci, ct, cv, cq, true, sn, bf, cd⟩ op = cb2) := hide (by
          unfold edC edTold befC
          simp only [if_true]
          rw [HX'.out, hcb1, hcb2]
          exact ⟨rfl, rfl⟩)
        have X7 := hide (X6.out.later hb6)
        have R7 := hide (R6.out.later hb6)
        have Y7 := hide (Y6.out.later hb6)
        have CX7 := hide (CX6.out.later hb6)
        have hs6 : V.heap.size ≤ w6.heap.size := hb6.size
        obtain ⟨kw2, hkw2⟩ : ∃ n, (if cd then bf else keepL (ct.size : Int)).length = n := ⟨_, rfl⟩
        simp only [hkw2] at CP ⊢
        clear pd hb6 DN X6 R6 Y6 CX6 B6 hcb1 hcb2 hkw2
        go_wp2_with fail
        refine CP.out.mono ?_
        rintro e w7 ⟨v7, rfl, ho7, hb7⟩
        obtain ⟨a7, k7, rfl, -⟩ := own_shp ho7
        obtain ⟨U, hU⟩ : ∃ U, U = w7.setCell ⟨w4.heap.size, 6, none⟩ (.slice a7 cb1.length k7) := ⟨_, rfl⟩
        have y7f := (Y7.out.later hb7).fz 6
        have y7c := (Y7.out.later hb7).cell 6 rfl
        have Y8 : Hid (CB U w4.heap.size #[.int .i64 ci, .string tx', .int .i64 cv, .int .i64 cq, .bool true, .slice a1 sn.length n1, .slice a7 cb1.length k7, .bool true]) := hide (by rw [hU]; exact (Y7.out.later hb7).set 6 _ rfl)
        have R8 := hide (show CB U (w.heap.size + 1) #[.int .i64 0, .string ⟨#[]⟩, .int .i64 0, .int .i64 0, .bool false, .slice none 0 0, .slice none 0 0, .bool false] by rw [hU]; exact (R7.out.later hb7).other (d := w4.heap.size) (by omega) 6 _)
        have B8 : Hid (Below w.heap.size w U) := hide (by rw [hU]; exact (B7.out.trans (hb7.mono B7.out.size)).setCell (p := ⟨w4.heap.size, 6, none⟩) (by show w.heap.size ≤ w4.heap.size; omega) _)
        have CX8 := hide (show CnX w3.heap.size w4.heap.size U (.slice a1 sn.length n1) (.slice a2 bf.length n2) ⟨ci, ct, cv, cq, true, sn, bf, cd⟩ by rw [hU]; exact (CX7.out.later hb7).set (b := w4.heap.size) (.inr (Nat.le_refl _)) _)
        have O8 : Hid (POwn U w6.heap.size (.slice a7 cb1.length k7) cb1) := hide (by rw [hU]; exact own_aside ho7 (by omega) _ _)
        have hsU : U.heap.size = w7.heap.size := by rw [hU]; simp [World.setCell]
        have hs7 : w6.heap.size ≤ w7.heap.size := hb7.size
        have HU := hide hsU
        clear hsU hb7 ho7 X7 R7 Y7 CX7 B7
        cases cb2 with
        | false =>
          have hE : EB = false := by rw [HQ.out, HED.out.2]; simp
          subst hE
          obtain rfl := HZ.out rfl
          have RX := R8
          have BX := B8
          obtain ⟨f0, f1, f2, f3, f4, f5, f6, f7⟩ := RX.out.fz8
          obtain ⟨m0, m1, m2, m3, m4, m5, m6, m7⟩ := RX.out.all8
          rw [hU] at f0 f1 f2 f3 f4 f5 f6 f7 m0 m1 m2 m3 m4 m5 m6 m7
          have HL := hide (RX.out.put8 (.int .i64 0) (.string ⟨#[]⟩) (.int .i64 0) (.int .i64 0) (.bool false) (.slice none 0 0) (.slice none 0 0) (.bool false))
          have HB := hide (put8_below BX.out (show w.heap.size ≤ w.heap.size + 1 by omega) (.int .i64 0) (.string ⟨#[]⟩) (.int .i64 0) (.int .i64 0) (.bool false) (.slice none 0 0) (.slice none 0 0) (.bool false))
          rw [hU] at HL HB
          clear RX BX HZ HP HQ R8 B8 Y8 CX8 O8 HH PO HT HF HX' HG HED hU HU
          go_wp2
          obtain ⟨tt, htt⟩ := HL.out
          refine bodyPost_ret (results_cell_tmp rfl _ _ (w.heap.size + 1) tt _ (0, 0) _ (.bool false) rfl rfl htt Tryd.underlying29 rfl Tryd.sizeClient) rfl ?_
          exact ⟨none, 0, none, 0, rfl, cx_zero _ _ _, HB.out⟩
        | true =>
          have CX9 := hide (cx_make (m := w4.heap.size) (vs := .slice a1 sn.length n1) (vb := .slice a7 cb1.length k7) (c := ⟨ci, tx', cv, cq, true, sn, cb1, true⟩) CX8.out.s (PR.own O8.out) (fun y hy => CX8.out.bs y hy) (fun y hy => by have := World.ownsRow.lt O8.out y hy; omega) hs4 (by have := HU.out; omega) : CnX w3.heap.size U.heap.size U (.slice a1 sn.length n1) (.slice a7 cb1.length k7) ⟨ci, tx', cv, cq, true, sn, cb1, true⟩)
          have CRU : CnR U (.slice a1 sn.length n1) (.slice a7 cb1.length k7) ⟨ci, tx', cv, cq, true, sn, cb1, true⟩ := CX9.out.cr HH.out.ss hsm (by rw [← HX'.out]; exact good_size (apE_gd2 HF.out))
          have IG := hide (isGoodC (CRU.pin (Nat.lt_of_lt_of_le h0w B8.out.size)) (HT.out.below B8.out))
          obtain ⟨gd, hgd⟩ : ∃ b, goodC ⟨ci, tx', cv, cq, true, sn, cb1, true⟩ = b := ⟨_, rfl⟩
          rw [hgd] at IG
          have hE : EB = gd := by rw [HQ.out, HED.out.2, HED.out.1, hgd]; simp
          obtain ⟨i0, i1, i2, i3, i4, i5, i6, i7⟩ := Y8.out.all8
          rw [hU] at i0 i1 i2 i3 i4 i5 i6 i7
          clear CRU hgd
          go_wp2_with fail
          rw [← hU]
          clear hU i0 i1 i2 i3 i4 i5 i6 i7 y7f y7c
          refine IG.out.mono ?_
          rintro e w8 ⟨rfl, hb8⟩
          have R9 := hide (R8.out.later hb8)
          have Y9 := hide (Y8.out.later hb8)
          have B9 : Hid (Below w.heap.size w w8) := hide (B8.out.trans (hb8.mono B8.out.size))
          have CXA := hide (CX9.out.later hb8)
          have hs8 : U.heap.size ≤ w8.heap.size := hb8.size
          clear hb8 R8 Y8 B8 CX9 CX8 O8 IG
          subst hE
          cases EB with
          | false =>
            obtain rfl := HZ.out rfl
            have RX := R9
            have BX := B9
            clear HZ HP HQ R9 B9 Y9 CXA HH PO HT HF HX' HG HED HU
            obtain ⟨f0, f1, f2, f3, f4, f5, f6, f7⟩ := RX.out.fz8
            obtain ⟨m0, m1, m2, m3, m4, m5, m6, m7⟩ := RX.out.all8
            have HL := hide (RX.out.put8 (.int .i64 0) (.string ⟨#[]⟩) (.int .i64 0) (.int .i64 0) (.bool false) (.slice none 0 0) (.slice none 0 0) (.bool false))
            have HB := hide (put8_below BX.out (show w.heap.size ≤ w.heap.size + 1 by omega) (.int .i64 0) (.string ⟨#[]⟩) (.int .i64 0) (.int .i64 0) (.bool false) (.slice none 0 0) (.slice none 0 0) (.bool false))
            clear RX BX
            go_wp2
            obtain ⟨tt, htt⟩ := HL.out
            refine bodyPost_ret (results_cell_tmp rfl _ _ (w.heap.size + 1) tt _ (0, 0) _ (.bool false) rfl rfl htt Tryd.underlying29 rfl Tryd.sizeClient) rfl ?_
            exact ⟨none, 0, none, 0, rfl, cx_zero _ _ _, HB.out⟩
          | true =>
            have hE2 := HP.out rfl
            rw [HED.out.1] at hE2
            subst hE2
            obtain ⟨i0, i1, i2, i3, i4, i5, i6, i7⟩ := Y9.out.all8
            obtain ⟨f0, f1, f2, f3, f4, f5, f6, f7⟩ := R9.out.fz8
            obtain ⟨m0, m1, m2, m3, m4, m5, m6, m7⟩ := R9.out.all8
            have HL := hide (R9.out.put8 (.int .i64 ci) (.string tx') (.int .i64 cv) (.int .i64 cq) (.bool true) (.slice a1 sn.length n1) (.slice a7 cb1.length k7) (.bool true))
            have HB := hide (put8_below B9.out (show w.heap.size ≤ w.heap.size + 1 by omega) (.int .i64 ci) (.string tx') (.int .i64 cv) (.int .i64 cq) (.bool true) (.slice a1 sn.length n1) (.slice a7 cb1.length k7) (.bool true))
            have hw3U : w3.heap.size ≤ U.heap.size := by have := HU.out; omega
            have HX := hide ((CXA.out.put8 (b := w.heap.size + 1) (.inl (by omega)) (.int .i64 ci) (.string tx') (.int .i64 cv) (.int .i64 cq) (.bool true) (.slice a1 sn.length n1) (.slice a7 cb1.length k7) (.bool true)).wide (lo' := w.heap.size) (hi' := (put8 w8 (w.heap.size + 1) (.int .i64 ci) (.string tx') (.int .i64 cv) (.int .i64 cq) (.bool true) (.slice a1 sn.length n1) (.slice a7 cb1.length k7) (.bool true)).heap.size) (by omega) (by rw [put8_size]; omega))
            clear HZ HP HQ R9 B9 Y9 CXA HH PO HT HF HX' HG HED HU hw3U hs8 hs7 hs6 hsV hs4 hs3 hrng hq1 hsm
            go_wp2
            obtain ⟨tt, htt⟩ := HL.out
            refine bodyPost_ret (results_cell_tmp rfl _ _ (w.heap.size + 1) tt _ (0, 0) _ (.bool true) rfl rfl htt Tryd.underlying29 rfl Tryd.sizeClient) rfl ?_
            exact ⟨a1, n1, a7, k7, rfl, HX.out, HB.out⟩
      | false =>
        obtain ⟨V, hV⟩ : ∃ V, V = w4.alloc (.cells #[.int .i64 ci, .string tx', .int .i64 cv, .int .i64 (cq + 1), .bool true, .slice a1 sn.length n1, .slice a2 bf.length n2, .bool cd] 29) := ⟨_, rfl⟩
        have hb5 : Below w4.heap.size w4 V := by rw [hV]; exact (Below.refl _ _).alloc (Nat.le_refl _) _
        have hsV : V.heap.size = w4.heap.size + 1 := by rw [hV]; simp
        have Y6 : Hid (CB V w4.heap.size #[.int .i64 ci, .string tx', .int .i64 cv, .int .i64 (cq + 1), .bool true, .slice a1 sn.length n1, .slice a2 bf.length n2, .bool cd]) := hide (by rw [hV]; exact CB.new _ _ _)
        have X6 := hide (X4.out.later hb5)
        have R6 := hide (R4.out.later hb5)
        have B6 : Hid (Below w.heap.size w V) := hide (B4.out.trans (hb5.mono B4.out.size))
        have CX6 := hide (CX4.out.later hb5)
        have q4 : ∀ o : Obj, (w4.alloc o).cell? ⟨w.heap.size, 4, none⟩ = some (.bool false) := fun o => (X4.out.later ((Below.refl _ _).alloc (Nat.le_refl _) o)).cell 4 rfl
        have NO := hide (normalI (PO.out.later B6.out) (HT.out.below B6.out))
        obtain ⟨cb1, hcb1⟩ : ∃ l, norO op = l := ⟨_, rfl⟩
        obtain ⟨cb2, hcb2⟩ : ∃ l, goodO op = l := ⟨_, rfl⟩
        rw [hcb1, hcb2] at NO
        have hsm : SmQ cb1 := by rw [← hcb1]; exact norO_good _
        have HED : Hid (edC ⟨ci, ct, cv, cq, false, sn, bf, cd⟩ op = ⟨ci, tx', cv, cq + 1, true, cb1, bf, cd⟩ ∧ edTold ⟨ci, ct, cv, cq, false, sn, bf, cd⟩ op = cb2) := hide (by
          unfold edC edTold
          simp only [Bool.false_eq_true, if_false]
          rw [HX'.out, hcb1, hcb2]
          exact ⟨rfl, rfl⟩)
        have B7 := B6
        have X7 := X6
        have R7 := R6
        have Y7 := Y6
        have CX7 := CX6
        have hs6 : V.heap.size ≤ V.heap.size := Nat.le_refl _
        clear hcb1 hcb2
        go_wp2_with fail
        rw [← hV]
        clear hV hb5 X4 R4 B4 CX4 q4 X6 R6 Y6 CX6 B6
        refine NO.out.mono ?_
        rintro e w7 ⟨v7, rfl, ho7, hb7⟩
        obtain ⟨a7, k7, rfl, -⟩ := own_shp ho7
        obtain ⟨U, hU⟩ : ∃ U, U = w7.setCell ⟨w4.heap.size, 5, none⟩ (.slice a7 cb1.length k7) := ⟨_, rfl⟩
        have y7f := (Y7.out.later hb7).fz 5
        have y7c := (Y7.out.later hb7).cell 5 rfl
        have Y8 : Hid (CB U w4.heap.size #[.int .i64 ci, .string tx', .int .i64 cv, .int .i64 (cq + 1), .bool true, .slice a7 cb1.length k7, .slice a2 bf.length n2, .bool cd]) := hide (by rw [hU]; exact (Y7.out.later hb7).set 5 _ rfl)
        have R8 := hide (show CB U (w.heap.size + 1) #[.int .i64 0, .string ⟨#[]⟩, .int .i64 0, .int .i64 0, .bool false, .slice none 0 0, .slice none 0 0, .bool false] by rw [hU]; exact (R7.out.later hb7).other (d := w4.heap.size) (by omega) 5 _)
        have B8 : Hid (Below w.heap.size w U) := hide (by rw [hU]; exact (B7.out.trans (hb7.mono B7.out.size)).setCell (p := ⟨w4.heap.size, 5, none⟩) (by show w.heap.size ≤ w4.heap.size; omega) _)
        have CX8 := hide (show CnX w3.heap.size w4.heap.size U (.slice a1 sn.length n1) (.slice a2 bf.length n2) ⟨ci, ct, cv, cq, false, sn, bf, cd⟩ by rw [hU]; exact (CX7.out.later hb7).set (b := w4.heap.size) (.inr (Nat.le_refl _)) _)
        have O8 : Hid (POwn U V.heap.size (.slice a7 cb1.length k7) cb1) := hide (by rw [hU]; exact own_aside ho7 (by omega) _ _)
        have hsU : U.heap.size = w7.heap.size := by rw [hU]; simp [World.setCell]
        have hs7 : V.heap.size ≤ w7.heap.size := hb7.size
        have HU := hide hsU
        clear hsU hb7 ho7 X7 R7 Y7 CX7 B7
        cases cb2 with
        | false =>
          have hE : EB = false := by rw [HQ.out, HED.out.2]; simp
          subst hE
          obtain rfl := HZ.out rfl
          have RX := R8
          have BX := B8
          obtain ⟨f0, f1, f2, f3, f4, f5, f6, f7⟩ := RX.out.fz8
          obtain ⟨m0, m1, m2, m3, m4, m5, m6, m7⟩ := RX.out.all8
          rw [hU] at f0 f1 f2 f3 f4 f5 f6 f7 m0 m1 m2 m3 m4 m5 m6 m7
          have HL := hide (RX.out.put8 (.int .i64 0) (.string ⟨#[]⟩) (.int .i64 0) (.int .i64 0) (.bool false) (.slice none 0 0) (.slice none 0 0) (.bool false))
          have HB := hide (put8_below BX.out (show w.heap.size ≤ w.heap.size + 1 by omega) (.int .i64 0) (.string ⟨#[]⟩) (.int .i64 0) (.int .i64 0) (.bool false) (.slice none 0 0) (.slice none 0 0) (.bool false))
          rw [hU] at HL HB
          clear RX BX HZ HP HQ R8 B8 Y8 CX8 O8 HH PO HT HF HX' HG HED hU HU
          go_wp2
          obtain ⟨tt, htt⟩ := HL.out
          refine bodyPost_ret (results_cell_tmp rfl _ _ (w.heap.size + 1) tt _ (0, 0) _ (.bool false) rfl rfl htt Tryd.underlying29 rfl Tryd.sizeClient) rfl ?_
          exact ⟨none, 0, none, 0, rfl, cx_zero _ _ _, HB.out⟩
        | true =>
          have CX9 := hide (cx_make2 (m := w4.heap.size) (vs := .slice a7 cb1.length k7) (vb := .slice a2 bf.length n2) (c := ⟨ci, tx', cv, cq + 1, true, cb1, bf, cd⟩) (PR.own O8.out) CX8.out.b (fun y hy => by have := World.ownsRow.lt O8.out y hy; omega) (fun y hy => CX8.out.bb y hy) hs4 (by have := HU.out; omega) : CnX w3.heap.size U.heap.size U (.slice a7 cb1.length k7) (.slice a2 bf.length n2) ⟨ci, tx', cv, cq + 1, true, cb1, bf, cd⟩)
          have CRU : CnR U (.slice a7 cb1.length k7) (.slice a2 bf.length n2) ⟨ci, tx', cv, cq + 1, true, cb1, bf, cd⟩ := CX9.out.cr hsm HH.out.sb (by rw [← HX'.out]; exact good_size (apE_gd2 HF.out))
          have IG := hide (isGoodC (CRU.pin (Nat.lt_of_lt_of_le h0w B8.out.size)) (HT.out.below B8.out))
          obtain ⟨gd, hgd⟩ : ∃ b, goodC ⟨ci, tx', cv, cq + 1, true, cb1, bf, cd⟩ = b := ⟨_, rfl⟩
          rw [hgd] at IG
          have hE : EB = gd := by rw [HQ.out, HED.out.2, HED.out.1, hgd]; simp
          obtain ⟨i0, i1, i2, i3, i4, i5, i6, i7⟩ := Y8.out.all8
          rw [hU] at i0 i1 i2 i3 i4 i5 i6 i7
          clear CRU hgd
          go_wp2_with fail
          rw [← hU]
          clear hU i0 i1 i2 i3 i4 i5 i6 i7 y7f y7c
          refine IG.out.mono ?_
          rintro e w8 ⟨rfl, hb8⟩
          have R9 := hide (R8.out.later hb8)
          have Y9 := hide (Y8.out.later hb8)
          have B9 : Hid (Below w.heap.size w w8) := hide (B8.out.trans (hb8.mono B8.out.size))
          have CXA := hide (CX9.out.later hb8)
          have hs8 : U.heap.size ≤ w8.heap.size := hb8.size
          clear hb8 R8 Y8 B8 CX9 CX8 O8 IG
          subst hE
          cases EB with
          | false =>
            obtain rfl := HZ.out rfl
            have RX := R9
            have BX := B9
            clear HZ HP HQ R9 B9 Y9 CXA HH PO HT HF HX' HG HED HU
            obtain ⟨f0, f1, f2, f3, f4, f5, f6, f7⟩ := RX.out.fz8
            obtain ⟨m0, m1, m2, m3, m4, m5, m6, m7⟩ := RX.out.all8
            have HL := hide (RX.out.put8 (.int .i64 0) (.string ⟨#[]⟩) (.int .i64 0) (.int .i64 0) (.bool false) (.slice none 0 0) (.slice none 0 0) (.bool false))
            have HB := hide (put8_below BX.out (show w.heap.size ≤ w.heap.size + 1 by omega) (.int .i64 0) (.string ⟨#[]⟩) (.int .i64 0) (.int .i64 0) (.bool false) (.slice none 0 0) (.slice none 0 0) (.bool false))
            clear RX BX
            go_wp2
            obtain ⟨tt, htt⟩ := HL.out
            refine bodyPost_ret (results_cell_tmp rfl _ _ (w.heap.size + 1) tt _ (0, 0) _ (.bool false) rfl rfl htt Tryd.underlying29 rfl Tryd.sizeClient) rfl ?_
            exact ⟨none, 0, none, 0, rfl, cx_zero _ _ _, HB.out⟩
          | true =>
            have hE2 := HP.out rfl
            rw [HED.out.1] at hE2
            subst hE2
            obtain ⟨i0, i1, i2, i3, i4, i5, i6, i7⟩ := Y9.out.all8
            obtain ⟨f0, f1, f2, f3, f4, f5, f6, f7⟩ := R9.out.fz8
            obtain ⟨m0, m1, m2, m3, m4, m5, m6, m7⟩ := R9.out.all8
            have HL := hide (R9.out.put8 (.int .i64 ci) (.string tx') (.int .i64 cv) (.int .i64 (cq + 1)) (.bool true) (.slice a7 cb1.length k7) (.slice a2 bf.length n2) (.bool cd))
            have HB := hide (put8_below B9.out (show w.heap.size ≤ w.heap.size + 1 by omega) (.int .i64 ci) (.string tx') (.int .i64 cv) (.int .i64 (cq + 1)) (.bool true) (.slice a7 cb1.length k7) (.slice a2 bf.length n2) (.bool cd))
            have hw3U : w3.heap.size ≤ U.heap.size := by have := HU.out; omega
            have HX := hide ((CXA.out.put8 (b := w.heap.size + 1) (.inl (by omega)) (.int .i64 ci) (.string tx') (.int .i64 cv) (.int .i64 (cq + 1)) (.bool true) (.slice a7 cb1.length k7) (.slice a2 bf.length n2) (.bool cd)).wide (lo' := w.heap.size) (hi' := (put8 w8 (w.heap.size + 1) (.int .i64 ci) (.string tx') (.int .i64 cv) (.int .i64 (cq + 1)) (.bool true) (.slice a7 cb1.length k7) (.slice a2 bf.length n2) (.bool cd)).heap.size) (by omega) (by rw [put8_size]; omega))
            clear HZ HP HQ R9 B9 Y9 CXA HH PO HT HF HX' HG HED HU hw3U hs8 hs7 hs6 hsV hs4 hs3 hrng hq1 hsm
            go_wp2
            obtain ⟨tt, htt⟩ := HL.out
            refine bodyPost_ret (results_cell_tmp rfl _ _ (w.heap.size + 1) tt _ (0, 0) _ (.bool true) rfl rfl htt Tryd.underlying29 rfl Tryd.sizeClient) rfl ?_
            exact ⟨a7, k7, a2, n2, rfl, HX.out, HB.out⟩
end Go.Proofs.YtkjioadmebkaoabDoor

set_option linter.unusedVariables false
namespace Go.Proofs.YtkjioadmebkaoabDoor
open Go.RowKit
open Doc1

set_option maxRecDepth 100000 in
set_option maxHeartbeats 8000000 in
theorem editClientS {w : World} {vs vb vo : Value} {c : Cn} {op : List Pt} (h : CnR w vs vb c) (ho : PR w vo op) (so : SmQ op) (h0w : 0 < w.heap.size) (hT : Tab w) :
    Calls Tryd.prog 8 #[.agg (cnC c vs vb), vo] w (EcPost w (ecC c op) (ecB c op)) := by
  obtain ⟨ao, go', co, rfl, po⟩ := ho.pin h0w so.1 so.2
  obtain ⟨aS, cs, rfl⟩ := h.s.shp
  obtain ⟨ab, cb, rfl⟩ := h.b.shp
  obtain ⟨ci, ct, cv, cq, cw, sn, bf, cd⟩ := c
  obtain ⟨w1, hw1⟩ : ∃ w1, w1 = (w.alloc (.cells #[.int .i64 ci, .string ct, .int .i64 cv, .int .i64 cq, .bool cw, .slice aS sn.length cs, .slice ab bf.length cb, .bool cd] 29)).alloc (.cells #[.int .i64 0, .string ⟨#[]⟩, .int .i64 0, .int .i64 0, .bool false, .slice none 0 0, .slice none 0 0, .bool false] 29) := ⟨_, rfl⟩
  have hs1 : w1.heap.size = w.heap.size + 2 := by rw [hw1]; simp
  have hb1 : Below w.heap.size w w1 := by rw [hw1]; exact ((Below.refl _ _).alloc (Nat.le_refl _) _).alloc (by simp) _
  have X1 : Hid (CB w1 w.heap.size #[.int .i64 ci, .string ct, .int .i64 cv, .int .i64 cq, .bool cw, .slice aS sn.length cs, .slice ab bf.length cb, .bool cd]) := hide (by rw [hw1]; exact (CB.new w _ _).later ((Below.refl _ _).alloc (Nat.le_refl _) _))
  have R1 : Hid (CB w1 (w.heap.size + 1) #[.int .i64 0, .string ⟨#[]⟩, .int .i64 0, .int .i64 0, .bool false, .slice none 0 0, .slice none 0 0, .bool false]) := hide (by rw [hw1]; have := CB.new (w.alloc (.cells #[.int .i64 ci, .string ct, .int .i64 cv, .int .i64 cq, .bool cw, .slice aS sn.length cs, .slice ab bf.length cb, .bool cd] 29)) #[.int .i64 0, .string ⟨#[]⟩, .int .i64 0, .int .i64 0, .bool false, .slice none 0 0, .slice none 0 0, .bool false] 29; rw [World.size_alloc] at this; exact this)
  have HH := hide h
  have PO := hide po
  have HT := hide hT
  have B1 := hide hb1
  have IG := hide (l16Client_any ((h.pin h0w).later hb1) (hT.below hb1))
  have hlo := po.cap
  have HZ : Hid (ecB ⟨ci, ct, cv, cq, cw, sn, bf, cd⟩ op = false → ecC ⟨ci, ct, cv, cq, cw, sn, bf, cd⟩ op = zeroC) := hide (fun e => by unfold ecC; rw [e]; rfl)
  have HP : Hid (ecB ⟨ci, ct, cv, cq, cw, sn, bf, cd⟩ op = true → ecC ⟨ci, ct, cv, cq, cw, sn, bf, cd⟩ op = edC ⟨ci, ct, cv, cq, cw, sn, bf, cd⟩ op) := hide (fun e => by unfold ecC; rw [e]; rfl)
  have HQ : Hid (ecB ⟨ci, ct, cv, cq, cw, sn, bf, cd⟩ op = (goodC ⟨ci, ct, cv, cq, cw, sn, bf, cd⟩ && ((aplO op ct).2 && (edTold ⟨ci, ct, cv, cq, cw, sn, bf, cd⟩ op && goodC (edC ⟨ci, ct, cv, cq, cw, sn, bf, cd⟩ op))))) := hide rfl
  obtain ⟨EB, hEB⟩ : ∃ EB, ecB ⟨ci, ct, cv, cq, cw, sn, bf, cd⟩ op = EB := ⟨_, rfl⟩
  obtain ⟨EC, hEC⟩ : ∃ EC, ecC ⟨ci, ct, cv, cq, cw, sn, bf, cd⟩ op = EC := ⟨_, rfl⟩
  rw [hEB, hEC]
  rw [hEB] at HZ HP HQ
  rw [hEC] at HZ HP
  obtain ⟨gd, hgd⟩ : ∃ b, goodC ⟨ci, ct, cv, cq, cw, sn, bf, cd⟩ = b := ⟨_, rfl⟩
  rw [hgd] at IG HQ
  have HG := hide hgd
  clear h ho so po hb1 hT hEB hEC hgd
  unfold EcPost
  have hcn : cnC ⟨ci, ct, cv, cq, cw, sn, bf, cd⟩ (.slice aS sn.length cs) (.slice ab bf.length cb) = #[.int .i64 ci, .string ct, .int .i64 cv, .int .i64 cq, .bool cw, .slice aS sn.length cs, .slice ab bf.length cb, .bool cd] := rfl
  rw [hcn]
  rw [hcn] at IG
  clear hcn
  obtain ⟨i0, i1, i2, i3, i4, i5, i6, i7⟩ := X1.out.all8
  rw [hw1] at i0 i1 i2 i3 i4 i5 i6 i7
  go_enter Tryd.func8, Tryd.ntmps8
  go_wp2_with fail
  rw [← hw1]
  clear hw1 i0 i1 i2 i3 i4 i5 i6 i7
  refine IG.out.mono ?_
  rintro e w2 ⟨rfl, hb2⟩
  have X2 := hide (X1.out.later hb2)
  have R2 := hide (R1.out.later hb2)
  have B2 : Hid (Below w.heap.size w w2) := hide (B1.out.trans (hb2.mono B1.out.size))
  have hs2 : w.heap.size + 2 ≤ w2.heap.size := by have := hb2.size; omega
  clear hb2 X1 R1 B1 IG hs1
  cases gd with
  | false =>
    have hE : EB = false := by rw [HQ.out]; simp
    subst hE
    obtain rfl := HZ.out rfl
    have RX := R2
    have BX := B2
    clear HZ HP HQ R2 B2 X2 HH PO HT HG
    obtain ⟨f0, f1, f2, f3, f4, f5, f6, f7⟩ := RX.out.fz8
    obtain ⟨m0, m1, m2, m3, m4, m5, m6, m7⟩ := RX.out.all8
    have HL := hide (RX.out.put8 (.int .i64 0) (.string ⟨#[]⟩) (.int .i64 0) (.int .i64 0) (.bool false) (.slice none 0 0) (.slice none 0 0) (.bool false))
    have HB := hide (put8_below BX.out (show w.heap.size ≤ w.heap.size + 1 by omega) (.int .i64 0) (.string ⟨#[]⟩) (.int .i64 0) (.int .i64 0) (.bool false) (.slice none 0 0) (.slice none 0 0) (.bool false))
    clear RX BX
    go_wp2
    obtain ⟨tt, htt⟩ := HL.out
    refine bodyPost_ret (results_cell_tmp rfl _ _ (w.heap.size + 1) tt _ (0, 0) _ (.bool false) rfl rfl htt Tryd.underlying29 rfl Tryd.sizeClient) rfl ?_
    exact ⟨none, 0, none, 0, rfl, cx_zero _ _ _, HB.out⟩
  | true =>
    have GO := hide (goodOpS (PO.out.later B2.out))
    obtain ⟨gop, hgop⟩ : ∃ b, goodO op = b := ⟨_, rfl⟩
    rw [hgop] at GO
    have HGO := hide hgop
    clear hgop
    go_wp2_with fail
    refine GO.out.mono ?_
    rintro e w3 ⟨rfl, hb3⟩
    have X3 := hide (X2.out.later hb3)
    have R3 := hide (R2.out.later hb3)
    have B3 : Hid (Below w.heap.size w w3) := hide (B2.out.trans (hb3.mono B2.out.size))
    have hs3 : w.heap.size + 2 ≤ w3.heap.size := Nat.le_trans hs2 hb3.size
    clear hb3 X2 R2 B2 GO hs2
    cases gop with
    | false =>
      have hE : EB = false := by
        have e1 : (aplO op ct).2 = false := by unfold aplO; rw [HGO.out]; simp
        rw [HQ.out, e1]; simp
      subst hE
      obtain rfl := HZ.out rfl
      have RX := R3
      have BX := B3
      clear HZ HP HQ R3 B3 X3 HH PO HT HG HGO
      obtain ⟨f0, f1, f2, f3, f4, f5, f6, f7⟩ := RX.out.fz8
      obtain ⟨m0, m1, m2, m3, m4, m5, m6, m7⟩ := RX.out.all8
      have HL := hide (RX.out.put8 (.int .i64 0) (.string ⟨#[]⟩) (.int .i64 0) (.int .i64 0) (.bool false) (.slice none 0 0) (.slice none 0 0) (.bool false))
      have HB := hide (put8_below BX.out (show w.heap.size ≤ w.heap.size + 1 by omega) (.int .i64 0) (.string ⟨#[]⟩) (.int .i64 0) (.int .i64 0) (.bool false) (.slice none 0 0) (.slice none 0 0) (.bool false))
      clear RX BX
      go_wp2
      obtain ⟨tt, htt⟩ := HL.out
      refine bodyPost_ret (results_cell_tmp rfl _ _ (w.heap.size + 1) tt _ (0, 0) _ (.bool false) rfl rfl htt Tryd.underlying29 rfl Tryd.sizeClient) rfl ?_
      exact ⟨none, 0, none, 0, rfl, cx_zero _ _ _, HB.out⟩
    | true =>
      have CC := hide (ownClient (HH.out.later B3.out))
      obtain ⟨i0, i1, i2, i3, i4, i5, i6, i7⟩ := X3.out.all8
      go_wp2_with fail
      refine CC.out.mono ?_
      rintro e w4 ⟨a1, n1, a2, n2, rfl, cx4, hb4⟩
      have hcn : cnC ⟨ci, ct, cv, cq, cw, sn, bf, cd⟩ (.slice a1 sn.length n1) (.slice a2 bf.length n2) = #[.int .i64 ci, .string ct, .int .i64 cv, .int .i64 cq, .bool cw, .slice a1 sn.length n1, .slice a2 bf.length n2, .bool cd] := rfl
      simp only [hcn]
      clear hcn i0 i1 i2 i3 i4 i5 i6 i7
      have hga := goodC_all HG.out
      have hrng := hga.1
      simp only at hrng
      have hgt : good ct.data.toList = true := hga.2.1
      have hq1 : IntKind.i64.wrap (cq + 1) = cq + 1 := by rw [IntKind.wrap_i64]; omega
      obtain ⟨V, hV⟩ : ∃ V, V = put8 w4 w.heap.size (.int .i64 ci) (.string ct) (.int .i64 cv) (.int .i64 cq) (.bool cw) (.slice a1 sn.length n1) (.slice a2 bf.length n2) (.bool cd) := ⟨_, rfl⟩
      have X5 : Hid (CB V w.heap.size #[.int .i64 ci, .string ct, .int .i64 cv, .int .i64 cq, .bool cw, .slice a1 sn.length n1, .slice a2 bf.length n2, .bool cd]) := hide (by rw [hV]; exact (X3.out.later hb4).put8 _ _ _ _ _ _ _ _)
      have R5 : Hid (CB V (w.heap.size + 1) #[.int .i64 0, .string ⟨#[]⟩, .int .i64 0, .int .i64 0, .bool false, .slice none 0 0, .slice none 0 0, .bool false]) := hide (by rw [hV]; exact (R3.out.later hb4).block (put8_far _ _ _ _ _ _ _ _ _ _ (by omega)))
      have B5 : Hid (Below w.heap.size w V) := hide (by rw [hV]; exact put8_below (B3.out.trans (hb4.mono B3.out.size)) (Nat.le_refl _) _ _ _ _ _ _ _ _)
      have hsV : V.heap.size = w4.heap.size := by rw [hV]; exact put8_size _ _ _ _ _ _ _ _ _ _
      have hs4 : w3.heap.size ≤ w4.heap.size := hb4.size
      have CX5 : Hid (CnX w3.heap.size w4.heap.size V (.slice a1 sn.length n1) (.slice a2 bf.length n2) ⟨ci, ct, cv, cq, cw, sn, bf, cd⟩) := hide (by rw [hV]; exact cx4.put8 (b := w.heap.size) (.inl (by omega)) _ _ _ _ _ _ _ _)
      have h60 := (goodO_le HGO.out).1
      have AP := hide (l3Apply_any ct (PO.out.later B5.out) h60 (goodO_pk HGO.out) HH.out.t)
      obtain ⟨fits, hfits⟩ : ∃ b, (aplO op ct).2 = b := ⟨_, rfl⟩
      obtain ⟨tx', htx⟩ : ∃ t, (apO op ct).1 = t := ⟨_, rfl⟩
      have hap := apl_apO HGO.out hgt
      rw [← hap.1, hfits, htx] at AP
      rw [hfits] at HQ
      have HX' : Hid (fits = true → (aplO op ct).1 = tx') := hide (fun e => by rw [← htx]; exact (hap.2 (by rw [← hap.1, hfits, e])).1)
      have HF := hide hfits
      obtain ⟨f0, f1, f2, f3, f4, f5, f6, f7⟩ := (X3.out.later hb4).fz8
      obtain ⟨m0, m1, m2, m3, m4, m5, m6, m7⟩ := (X3.out.later hb4).all8
      have v1 : V.cell? ⟨w.heap.size, 1, none⟩ = some (.string ct) := X5.out.cell 1 rfl
      have hV' := hV
      unfold put8 at hV
      rw [hV] at v1
      clear hb4 cx4 X3 R3 B3 CC hap htx hfits hgt hga h60 hV'
      go_wp2_with fail
      rw [← hV]
      clear hV v1 f0 f1 f2 f3 f4 f5 f6 f7 m0 m1 m2 m3 m4 m5 m6 m7
      refine AP.out.mono ?_
      rintro e w5 ⟨rfl, hb5⟩
      have X6 := hide (X5.out.later hb5)
      have R6 := hide (R5.out.later hb5)
      have B6 : Hid (Below w.heap.size w w5) := hide (B5.out.trans (hb5.mono B5.out.size))
      have CX6 := hide (CX5.out.later hb5)
      have hs5 : w4.heap.size ≤ w5.heap.size := by have := hb5.size; omega
      clear hb5 X5 R5 B5 CX5 AP hsV
      cases fits with
      | false =>
        have hE : EB = false := by rw [HQ.out]; simp
        subst hE
        obtain rfl := HZ.out rfl
        have RX := R6
        have BX := B6
        clear HZ HP HQ R6 B6 X6 HH PO HT HG HGO HX' HF CX6
        obtain ⟨f0, f1, f2, f3, f4, f5, f6, f7⟩ := RX.out.fz8
        obtain ⟨m0, m1, m2, m3, m4, m5, m6, m7⟩ := RX.out.all8
        have HL := hide (RX.out.put8 (.int .i64 0) (.string ⟨#[]⟩) (.int .i64 0) (.int .i64 0) (.bool false) (.slice none 0 0) (.slice none 0 0) (.bool false))
        have HB := hide (put8_below BX.out (show w.heap.size ≤ w.heap.size + 1 by omega) (.int .i64 0) (.string ⟨#[]⟩) (.int .i64 0) (.int .i64 0) (.bool false) (.slice none 0 0) (.slice none 0 0) (.bool false))
        clear RX BX
        go_wp2
        obtain ⟨tt, htt⟩ := HL.out
        refine bodyPost_ret (results_cell_tmp rfl _ _ (w.heap.size + 1) tt _ (0, 0) _ (.bool false) rfl rfl htt Tryd.underlying29 rfl Tryd.sizeClient) rfl ?_
        exact ⟨none, 0, none, 0, rfl, cx_zero _ _ _, HB.out⟩
      | true =>
        cases cw with
        | true =>
          have Y7 := X6
          have R7 := R6
          have B7 := B6
          have CX7 := CX6
          clear X6 R6 B6 CX6
          have u4c : w5.cell? ⟨w.heap.size, 4, none⟩ = some (.bool true) := Y7.out.cell 4 rfl
          have u6c : w5.cell? ⟨w.heap.size, 6, none⟩ = some (.slice a2 bf.length n2) := Y7.out.cell 6 rfl
          have u7c : w5.cell? ⟨w.heap.size, 7, none⟩ = some (.bool cd) := Y7.out.cell 7 rfl
          have u1c : w5.cell? ⟨w.heap.size, 1, none⟩ = some (.string ct) := Y7.out.cell 1 rfl
          cases cd with
          | true =>
            obtain ⟨aw, gw, kw, ew, pd⟩ := CX7.out.b.pin (Nat.lt_of_lt_of_le h0w B7.out.size) HH.out.sb.1 HH.out.sb.2
            simp only at ew pd
            cases ew
            obtain ⟨BL, hBL⟩ : ∃ l, bf = l := ⟨_, rfl⟩
            have CP := hide (compS pd (PO.out.later B7.out))
            obtain ⟨cb1, hcb1⟩ : ∃ l, (cmpO (bf) op).1 = l := ⟨_, rfl⟩
            obtain ⟨cb2, hcb2⟩ : ∃ l, (cmpO (bf) op).2 = l := ⟨_, rfl⟩
            rw [hcb1, hcb2] at CP
            have hsm : SmQ cb1 := by rw [← hcb1]; exact cmpO_sm _ _
            have HED : Hid (edC ⟨ci, ct, cv, cq, true, sn, bf, true⟩ op = ⟨ci, tx', cv, cq, true, sn, cb1, true⟩ ∧ edTold ⟨ci, ct, cv, cq, true, sn, bf, true⟩ op = cb2) := hide (by
              unfold edC edTold befC
              simp only [if_true]
              rw [HX'.out (by simp), hcb1, hcb2]
              exact ⟨rfl, rfl⟩)
            clear pd hBL hcb1 hcb2
            go_wp2_with fail
            refine CP.out.mono ?_
            rintro e w7 ⟨v7, rfl, ho7, hb7⟩
            obtain ⟨a7, k7, rfl, -⟩ := own_shp ho7
            have Y8 := hide (Y7.out.later hb7)
            have R8 := hide (R7.out.later hb7)
            have CX8 := hide (CX7.out.later hb7)
            have B8 : Hid (Below w.heap.size w w7) := hide (B7.out.trans (hb7.mono B7.out.size))
            have hs7 : w5.heap.size ≤ w7.heap.size := hb7.size
            clear hb7 Y7 R7 B7 CX7 CP u1c u4c u6c u7c
            cases cb2 with
            | false =>
              have hE : EB = false := by rw [HQ.out, HED.out.2]; simp
              subst hE
              obtain rfl := HZ.out rfl
              have RX := R8
              have BX := B8
              clear HZ HP HQ R8 B8 Y8 HH PO HT HG HGO HX' HF CX8 HED ho7
              obtain ⟨f0, f1, f2, f3, f4, f5, f6, f7⟩ := RX.out.fz8
              obtain ⟨m0, m1, m2, m3, m4, m5, m6, m7⟩ := RX.out.all8
              have HL := hide (RX.out.put8 (.int .i64 0) (.string ⟨#[]⟩) (.int .i64 0) (.int .i64 0) (.bool false) (.slice none 0 0) (.slice none 0 0) (.bool false))
              have HB := hide (put8_below BX.out (show w.heap.size ≤ w.heap.size + 1 by omega) (.int .i64 0) (.string ⟨#[]⟩) (.int .i64 0) (.int .i64 0) (.bool false) (.slice none 0 0) (.slice none 0 0) (.bool false))
              clear RX BX
              go_wp2
              obtain ⟨tt, htt⟩ := HL.out
              refine bodyPost_ret (results_cell_tmp rfl _ _ (w.heap.size + 1) tt _ (0, 0) _ (.bool false) rfl rfl htt Tryd.underlying29 rfl Tryd.sizeClient) rfl ?_
              exact ⟨none, 0, none, 0, rfl, cx_zero _ _ _, HB.out⟩
            | true =>
              have u6f := Y8.out.fz 6
              have u6c : w7.cell? ⟨w.heap.size, 6, none⟩ = some (.slice a2 bf.length n2) := Y8.out.cell 6 rfl
              obtain ⟨V2, hV2⟩ : ∃ V, V = w7.setCell ⟨w.heap.size, 6, none⟩ (.slice a7 cb1.length k7) := ⟨_, rfl⟩
              have Y9 : Hid (CB V2 w.heap.size #[.int .i64 ci, .string ct, .int .i64 cv, .int .i64 cq, .bool true, .slice a1 sn.length n1, .slice a7 cb1.length k7, .bool true]) := hide (by rw [hV2]; exact Y8.out.set 6 _ rfl)
              have R9 : Hid (CB V2 (w.heap.size + 1) #[.int .i64 0, .string ⟨#[]⟩, .int .i64 0, .int .i64 0, .bool false, .slice none 0 0, .slice none 0 0, .bool false]) := hide (by rw [hV2]; exact R8.out.other (d := w.heap.size) (by omega) 6 _)
              have B9 : Hid (Below w.heap.size w V2) := hide (by rw [hV2]; exact B8.out.setCell (p := ⟨w.heap.size, 6, none⟩) (Nat.le_refl _) _)
              have CX9 := hide (show CnX w3.heap.size w4.heap.size V2 (.slice a1 sn.length n1) (.slice a2 bf.length n2) _ by rw [hV2]; exact CX8.out.set (b := w.heap.size) (.inl (by omega)) _)
              have hzV2 : V2.heap.size = w7.heap.size := by rw [hV2]; simp [World.setCell]
              have u7f := Y9.out.fz 7
              have u7c : V2.cell? ⟨w.heap.size, 7, none⟩ = some (.bool true) := Y9.out.cell 7 rfl
              obtain ⟨V3, hV3⟩ : ∃ V, V = V2.setCell ⟨w.heap.size, 7, none⟩ (.bool true) := ⟨_, rfl⟩
              have Y10 : Hid (CB V3 w.heap.size #[.int .i64 ci, .string ct, .int .i64 cv, .int .i64 cq, .bool true, .slice a1 sn.length n1, .slice a7 cb1.length k7, .bool true]) := hide (by rw [hV3]; exact Y9.out.set 7 _ rfl)
              have R10 : Hid (CB V3 (w.heap.size + 1) #[.int .i64 0, .string ⟨#[]⟩, .int .i64 0, .int .i64 0, .bool false, .slice none 0 0, .slice none 0 0, .bool false]) := hide (by rw [hV3]; exact R9.out.other (d := w.heap.size) (by omega) 7 _)
              have B10 : Hid (Below w.heap.size w V3) := hide (by rw [hV3]; exact B9.out.setCell (p := ⟨w.heap.size, 7, none⟩) (Nat.le_refl _) _)
              have CX10 := hide (show CnX w3.heap.size w4.heap.size V3 (.slice a1 sn.length n1) (.slice a2 bf.length n2) _ by rw [hV3]; exact CX9.out.set (b := w.heap.size) (.inl (by omega)) _)
              have hzV3 : V3.heap.size = V2.heap.size := by rw [hV3]; simp [World.setCell]
              have u1f := Y10.out.fz 1
              have u1c : V3.cell? ⟨w.heap.size, 1, none⟩ = some (.string ct) := Y10.out.cell 1 rfl
              obtain ⟨V4, hV4⟩ : ∃ V, V = V3.setCell ⟨w.heap.size, 1, none⟩ (.string tx') := ⟨_, rfl⟩
              have Y11 : Hid (CB V4 w.heap.size #[.int .i64 ci, .string tx', .int .i64 cv, .int .i64 cq, .bool true, .slice a1 sn.length n1, .slice a7 cb1.length k7, .bool true]) := hide (by rw [hV4]; exact Y10.out.set 1 _ rfl)
              have R11 : Hid (CB V4 (w.heap.size + 1) #[.int .i64 0, .string ⟨#[]⟩, .int .i64 0, .int .i64 0, .bool false, .slice none 0 0, .slice none 0 0, .bool false]) := hide (by rw [hV4]; exact R10.out.other (d := w.heap.size) (by omega) 1 _)
              have B11 : Hid (Below w.heap.size w V4) := hide (by rw [hV4]; exact B10.out.setCell (p := ⟨w.heap.size, 1, none⟩) (Nat.le_refl _) _)
              have CX11 := hide (show CnX w3.heap.size w4.heap.size V4 (.slice a1 sn.length n1) (.slice a2 bf.length n2) _ by rw [hV4]; exact CX10.out.set (b := w.heap.size) (.inl (by omega)) _)
              have hzV4 : V4.heap.size = V3.heap.size := by rw [hV4]; simp [World.setCell]
              have O9 : POwn V4 w5.heap.size (.slice a7 cb1.length k7) cb1 := by rw [hV4, hV3, hV2]; exact own_aside (own_aside (own_aside ho7 (by omega) _ _) (by omega) _ _) (by omega) _ _
              have CXZ := hide (cx_make (lo := w3.heap.size) (hi := V4.heap.size) (m := w4.heap.size) (vs := .slice a1 sn.length n1) (vb := .slice a7 cb1.length k7) (c := ⟨ci, tx', cv, cq, true, sn, cb1, true⟩) CX11.out.s (PR.own O9) (fun y hy => CX11.out.bs y hy) (fun y hy => by have := World.ownsRow.lt O9 y hy; omega) hs4 (by omega))
              have CRU : CnR V4 (.slice a1 sn.length n1) (.slice a7 cb1.length k7) ⟨ci, tx', cv, cq, true, sn, cb1, true⟩ := CXZ.out.cr HH.out.ss hsm (by rw [← HX'.out (by simp)]; exact good_size (apE_gd2 HF.out))
              have IG := hide (l16Client_any (CRU.pin (Nat.lt_of_lt_of_le h0w B11.out.size)) (HT.out.below B11.out))
              obtain ⟨gd, hgd⟩ : ∃ b, goodC ⟨ci, tx', cv, cq, true, sn, cb1, true⟩ = b := ⟨_, rfl⟩
              rw [hgd] at IG
              have hE : EB = gd := by rw [HQ.out, HED.out.2, HED.out.1, hgd]; simp
              obtain ⟨i0, i1, i2, i3, i4, i5, i6, i7⟩ := Y11.out.all8
              rw [hV4, hV3, hV2] at i0 i1 i2 i3 i4 i5 i6 i7
              rw [hV3, hV2] at u1f u1c
              rw [hV2] at u7f u7c
              clear CRU hgd ho7 Y8 R8 B8 CX8 Y9 R9 B9 CX9 Y10 R10 B10 CX10 CX11 O9
              go_wp2_with fail
              rw [← hV2, ← hV3, ← hV4]
              clear hV2 hV3 hV4 i0 i1 i2 i3 i4 i5 i6 i7 u1f u1c u7f u7c u6f u6c
              refine IG.out.mono ?_
              rintro e w9 ⟨rfl, hb9⟩
              have R20 := hide (R11.out.later hb9)
              have Y20 := hide (Y11.out.later hb9)
              have B20 : Hid (Below w.heap.size w w9) := hide (B11.out.trans (hb9.mono B11.out.size))
              have CX20 := hide (CXZ.out.later hb9)
              have hs9 : V4.heap.size ≤ w9.heap.size := hb9.size
              clear hb9 R11 Y11 B11 CXZ IG
              subst hE
              cases EB with
              | false =>
                obtain rfl := HZ.out rfl
                have RX := R20
                have BX := B20
                clear HZ HP HQ R20 B20 Y20 CX20 HH PO HT HG HGO HX' HF HED
                obtain ⟨f0, f1, f2, f3, f4, f5, f6, f7⟩ := RX.out.fz8
                obtain ⟨m0, m1, m2, m3, m4, m5, m6, m7⟩ := RX.out.all8
                have HL := hide (RX.out.put8 (.int .i64 0) (.string ⟨#[]⟩) (.int .i64 0) (.int .i64 0) (.bool false) (.slice none 0 0) (.slice none 0 0) (.bool false))
                have HB := hide (put8_below BX.out (show w.heap.size ≤ w.heap.size + 1 by omega) (.int .i64 0) (.string ⟨#[]⟩) (.int .i64 0) (.int .i64 0) (.bool false) (.slice none 0 0) (.slice none 0 0) (.bool false))
                clear RX BX
                go_wp2
                obtain ⟨tt, htt⟩ := HL.out
                refine bodyPost_ret (results_cell_tmp rfl _ _ (w.heap.size + 1) tt _ (0, 0) _ (.bool false) rfl rfl htt Tryd.underlying29 rfl Tryd.sizeClient) rfl ?_
                exact ⟨none, 0, none, 0, rfl, cx_zero _ _ _, HB.out⟩
              | true =>
                have hE2 := HP.out rfl
                rw [HED.out.1] at hE2
                subst hE2
                obtain ⟨i0, i1, i2, i3, i4, i5, i6, i7⟩ := Y20.out.all8
                obtain ⟨f0, f1, f2, f3, f4, f5, f6, f7⟩ := R20.out.fz8
                obtain ⟨m0, m1, m2, m3, m4, m5, m6, m7⟩ := R20.out.all8
                have HL := hide (R20.out.put8 (.int .i64 ci) (.string tx') (.int .i64 cv) (.int .i64 cq) (.bool true) (.slice a1 sn.length n1) (.slice a7 cb1.length k7) (.bool true))
                have HB := hide (put8_below B20.out (show w.heap.size ≤ w.heap.size + 1 by omega) (.int .i64 ci) (.string tx') (.int .i64 cv) (.int .i64 cq) (.bool true) (.slice a1 sn.length n1) (.slice a7 cb1.length k7) (.bool true))
                have HX := hide ((CX20.out.put8 (b := w.heap.size + 1) (.inl (by omega)) (.int .i64 ci) (.string tx') (.int .i64 cv) (.int .i64 cq) (.bool true) (.slice a1 sn.length n1) (.slice a7 cb1.length k7) (.bool true)).wide (lo' := w.heap.size) (hi' := (put8 w9 (w.heap.size + 1) (.int .i64 ci) (.string tx') (.int .i64 cv) (.int .i64 cq) (.bool true) (.slice a1 sn.length n1) (.slice a7 cb1.length k7) (.bool true)).heap.size) (by omega) (by rw [put8_size]; omega))
                clear HZ HP HQ R20 B20 Y20 CX20 HH PO HT HG HGO HX' HF HED
                clear hs9 hs5 hs4 hs3 hrng hq1 hsm
                go_wp2
                obtain ⟨tt, htt⟩ := HL.out
                refine bodyPost_ret (results_cell_tmp rfl _ _ (w.heap.size + 1) tt _ (0, 0) _ (.bool true) rfl rfl htt Tryd.underlying29 rfl Tryd.sizeClient) rfl ?_
                exact ⟨a1, n1, a7, k7, rfl, HX.out, HB.out⟩
          | false =>
            have KP := hide (keepS (ct.size : Int) w5)
            go_wp2_with fail
            refine KP.out.mono ?_
            rintro e w6 ⟨v6, rfl, ho6, hb6⟩
            have Y8 := hide (Y7.out.later hb6)
            have R8 := hide (R7.out.later hb6)
            have CX8 := hide (CX7.out.later hb6)
            have B8 : Hid (Below w.heap.size w w6) := hide (B7.out.trans (hb6.mono B7.out.size))
            have hs6 : w5.heap.size ≤ w6.heap.size := hb6.size
            obtain ⟨aw, gw, kw, rfl, pd⟩ := own_pin0 ho6 (Nat.lt_of_lt_of_le h0w B8.out.size) (fun p hp => by
              unfold keepL at hp
              split at hp
              · rw [List.mem_singleton] at hp; rw [hp]; exact ⟨by show (0 : Nat) ≤ _; omega, by show (0 : Nat) ≤ _; omega⟩
              · cases hp) (by have := keepL_len (ct.size : Int); omega)
            clear hb6 ho6 Y7 R7 B7 CX7 KP u1c u4c u6c u7c
            have CP := hide (compS pd (PO.out.later B8.out))
            obtain ⟨cb1, hcb1⟩ : ∃ l, (cmpO (keepL (ct.size : Int)) op).1 = l := ⟨_, rfl⟩
            obtain ⟨cb2, hcb2⟩ : ∃ l, (cmpO (keepL (ct.size : Int)) op).2 = l := ⟨_, rfl⟩
            rw [hcb1, hcb2] at CP
            have hsm : SmQ cb1 := by rw [← hcb1]; exact cmpO_sm _ _
            have HED : Hid (edC ⟨ci, ct, cv, cq, true, sn, bf, false⟩ op = ⟨ci, tx', cv, cq, true, sn, cb1, true⟩ ∧ edTold ⟨ci, ct, cv, cq, true, sn, bf, false⟩ op = cb2) := hide (by
              unfold edC edTold befC
              simp only [if_true, Bool.false_eq_true, if_false]
              rw [HX'.out (by simp), hcb1, hcb2]
              exact ⟨rfl, rfl⟩)
            obtain ⟨kl, hkl⟩ : ∃ x, (keepL (ct.size : Int)).length = x := ⟨_, rfl⟩
            rw [hkl] at CP
            rw [hkl]
            clear pd hcb1 hcb2 hkl
            go_wp2_with fail
            refine CP.out.mono ?_
            rintro e w7 ⟨v7, rfl, ho7, hb7⟩
            obtain ⟨a7, k7, rfl, -⟩ := own_shp ho7
            have Y9 := hide (Y8.out.later hb7)
            have R9 := hide (R8.out.later hb7)
            have CX9 := hide (CX8.out.later hb7)
            have B9 : Hid (Below w.heap.size w w7) := hide (B8.out.trans (hb7.mono B8.out.size))
            have hs7 : w6.heap.size ≤ w7.heap.size := hb7.size
            clear hb7 Y8 R8 B8 CX8 CP
            cases cb2 with
            | false =>
              have hE : EB = false := by rw [HQ.out, HED.out.2]; simp
              subst hE
              obtain rfl := HZ.out rfl
              have RX := R9
              have BX := B9
              clear HZ HP HQ R9 B9 Y9 HH PO HT HG HGO HX' HF CX9 HED ho7
              obtain ⟨f0, f1, f2, f3, f4, f5, f6, f7⟩ := RX.out.fz8
              obtain ⟨m0, m1, m2, m3, m4, m5, m6, m7⟩ := RX.out.all8
              have HL := hide (RX.out.put8 (.int .i64 0) (.string ⟨#[]⟩) (.int .i64 0) (.int .i64 0) (.bool false) (.slice none 0 0) (.slice none 0 0) (.bool false))
              have HB := hide (put8_below BX.out (show w.heap.size ≤ w.heap.size + 1 by omega) (.int .i64 0) (.string ⟨#[]⟩) (.int .i64 0) (.int .i64 0) (.bool false) (.slice none 0 0) (.slice none 0 0) (.bool false))
              clear RX BX
              go_wp2
              obtain ⟨tt, htt⟩ := HL.out
              refine bodyPost_ret (results_cell_tmp rfl _ _ (w.heap.size + 1) tt _ (0, 0) _ (.bool false) rfl rfl htt Tryd.underlying29 rfl Tryd.sizeClient) rfl ?_
              exact ⟨none, 0, none, 0, rfl, cx_zero _ _ _, HB.out⟩
            | true =>
              have u6f := Y9.out.fz 6
              have u6c : w7.cell? ⟨w.heap.size, 6, none⟩ = some (.slice a2 bf.length n2) := Y9.out.cell 6 rfl
              obtain ⟨V2, hV2⟩ : ∃ V, V = w7.setCell ⟨w.heap.size, 6, none⟩ (.slice a7 cb1.length k7) := ⟨_, rfl⟩
              have Y10 : Hid (CB V2 w.heap.size #[.int .i64 ci, .string ct, .int .i64 cv, .int .i64 cq, .bool true, .slice a1 sn.length n1, .slice a7 cb1.length k7, .bool false]) := hide (by rw [hV2]; exact Y9.out.set 6 _ rfl)
              have R10 : Hid (CB V2 (w.heap.size + 1) #[.int .i64 0, .string ⟨#[]⟩, .int .i64 0, .int .i64 0, .bool false, .slice none 0 0, .slice none 0 0, .bool false]) := hide (by rw [hV2]; exact R9.out.other (d := w.heap.size) (by omega) 6 _)
              have B10 : Hid (Below w.heap.size w V2) := hide (by rw [hV2]; exact B9.out.setCell (p := ⟨w.heap.size, 6, none⟩) (Nat.le_refl _) _)
              have CX10 := hide (show CnX w3.heap.size w4.heap.size V2 (.slice a1 sn.length n1) (.slice a2 bf.length n2) _ by rw [hV2]; exact CX9.out.set (b := w.heap.size) (.inl (by omega)) _)
              have hzV2 : V2.heap.size = w7.heap.size := by rw [hV2]; simp [World.setCell]
              have u7f := Y10.out.fz 7
              have u7c : V2.cell? ⟨w.heap.size, 7, none⟩ = some (.bool false) := Y10.out.cell 7 rfl
              obtain ⟨V3, hV3⟩ : ∃ V, V = V2.setCell ⟨w.heap.size, 7, none⟩ (.bool true) := ⟨_, rfl⟩
              have Y11 : Hid (CB V3 w.heap.size #[.int .i64 ci, .string ct, .int .i64 cv, .int .i64 cq, .bool true, .slice a1 sn.length n1, .slice a7 cb1.length k7, .bool true]) := hide (by rw [hV3]; exact Y10.out.set 7 _ rfl)
              have R11 : Hid (CB V3 (w.heap.size + 1) #[.int .i64 0, .string ⟨#[]⟩, .int .i64 0, .int .i64 0, .bool false, .slice none 0 0, .slice none 0 0, .bool false]) := hide (by rw [hV3]; exact R10.out.other (d := w.heap.size) (by omega) 7 _)
              have B11 : Hid (Below w.heap.size w V3) := hide (by rw [hV3]; exact B10.out.setCell (p := ⟨w.heap.size, 7, none⟩) (Nat.le_refl _) _)
              have CX11 := hide (show CnX w3.heap.size w4.heap.size V3 (.slice a1 sn.length n1) (.slice a2 bf.length n2) _ by rw [hV3]; exact CX10.out.set (b := w.heap.size) (.inl (by omega)) _)
              have hzV3 : V3.heap.size = V2.heap.size := by rw [hV3]; simp [World.setCell]
              have u1f := Y11.out.fz 1
              have u1c : V3.cell? ⟨w.heap.size, 1, none⟩ = some (.string ct) := Y11.out.cell 1 rfl
              obtain ⟨V4, hV4⟩ : ∃ V, V = V3.setCell ⟨w.heap.size, 1, none⟩ (.string tx') := ⟨_, rfl⟩
              have Y12 : Hid (CB V4 w.heap.size #[.int .i64 ci, .string tx', .int .i64 cv, .int .i64 cq, .bool true, .slice a1 sn.length n1, .slice a7 cb1.length k7, .bool true]) := hide (by rw [hV4]; exact Y11.out.set 1 _ rfl)
              have R12 : Hid (CB V4 (w.heap.size + 1) #[.int .i64 0, .string ⟨#[]⟩, .int .i64 0, .int .i64 0, .bool false, .slice none 0 0, .slice none 0 0, .bool false]) := hide (by rw [hV4]; exact R11.out.other (d := w.heap.size) (by omega) 1 _)
              have B12 : Hid (Below w.heap.size w V4) := hide (by rw [hV4]; exact B11.out.setCell (p := ⟨w.heap.size, 1, none⟩) (Nat.le_refl _) _)
              have CX12 := hide (show CnX w3.heap.size w4.heap.size V4 (.slice a1 sn.length n1) (.slice a2 bf.length n2) _ by rw [hV4]; exact CX11.out.set (b := w.heap.size) (.inl (by omega)) _)
              have hzV4 : V4.heap.size = V3.heap.size := by rw [hV4]; simp [World.setCell]
              have O9 : POwn V4 w6.heap.size (.slice a7 cb1.length k7) cb1 := by rw [hV4, hV3, hV2]; exact own_aside (own_aside (own_aside ho7 (by omega) _ _) (by omega) _ _) (by omega) _ _
              have CXZ := hide (cx_make (lo := w3.heap.size) (hi := V4.heap.size) (m := w4.heap.size) (vs := .slice a1 sn.length n1) (vb := .slice a7 cb1.length k7) (c := ⟨ci, tx', cv, cq, true, sn, cb1, true⟩) CX12.out.s (PR.own O9) (fun y hy => CX12.out.bs y hy) (fun y hy => by have := World.ownsRow.lt O9 y hy; omega) hs4 (by omega))
              have CRU : CnR V4 (.slice a1 sn.length n1) (.slice a7 cb1.length k7) ⟨ci, tx', cv, cq, true, sn, cb1, true⟩ := CXZ.out.cr HH.out.ss hsm (by rw [← HX'.out (by simp)]; exact good_size (apE_gd2 HF.out))
              have IG := hide (l16Client_any (CRU.pin (Nat.lt_of_lt_of_le h0w B12.out.size)) (HT.out.below B12.out))
              obtain ⟨gd, hgd⟩ : ∃ b, goodC ⟨ci, tx', cv, cq, true, sn, cb1, true⟩ = b := ⟨_, rfl⟩
              rw [hgd] at IG
              have hE : EB = gd := by rw [HQ.out, HED.out.2, HED.out.1, hgd]; simp
              obtain ⟨i0, i1, i2, i3, i4, i5, i6, i7⟩ := Y12.out.all8
              rw [hV4, hV3, hV2] at i0 i1 i2 i3 i4 i5 i6 i7
              rw [hV3, hV2] at u1f u1c
              rw [hV2] at u7f u7c
              clear CRU hgd ho7 Y9 R9 B9 CX9 Y10 R10 B10 CX10 Y11 R11 B11 CX11 CX12 O9
              go_wp2_with fail
              rw [← hV2, ← hV3, ← hV4]
              clear hV2 hV3 hV4 i0 i1 i2 i3 i4 i5 i6 i7 u1f u1c u7f u7c u6f u6c
              refine IG.out.mono ?_
              rintro e w9 ⟨rfl, hb9⟩
              have R20 := hide (R12.out.later hb9)
              have Y20 := hide (Y12.out.later hb9)
              have B20 : Hid (Below w.heap.size w w9) := hide (B12.out.trans (hb9.mono B12.out.size))
              have CX20 := hide (CXZ.out.later hb9)
              have hs9 : V4.heap.size ≤ w9.heap.size := hb9.size
              clear hb9 R12 Y12 B12 CXZ IG
              subst hE
              cases EB with
              | false =>
                obtain rfl := HZ.out rfl
                have RX := R20
                have BX := B20
                clear HZ HP HQ R20 B20 Y20 CX20 HH PO HT HG HGO HX' HF HED
                obtain ⟨f0, f1, f2, f3, f4, f5, f6, f7⟩ := RX.out.fz8
                obtain ⟨m0, m1, m2, m3, m4, m5, m6, m7⟩ := RX.out.all8
                have HL := hide (RX.out.put8 (.int .i64 0) (.string ⟨#[]⟩) (.int .i64 0) (.int .i64 0) (.bool false) (.slice none 0 0) (.slice none 0 0) (.bool false))
                have HB := hide (put8_below BX.out (show w.heap.size ≤ w.heap.size + 1 by omega) (.int .i64 0) (.string ⟨#[]⟩) (.int .i64 0) (.int .i64 0) (.bool false) (.slice none 0 0) (.slice none 0 0) (.bool false))
                clear RX BX
                go_wp2
                obtain ⟨tt, htt⟩ := HL.out
                refine bodyPost_ret (results_cell_tmp rfl _ _ (w.heap.size + 1) tt _ (0, 0) _ (.bool false) rfl rfl htt Tryd.underlying29 rfl Tryd.sizeClient) rfl ?_
                exact ⟨none, 0, none, 0, rfl, cx_zero _ _ _, HB.out⟩
              | true =>
                have hE2 := HP.out rfl
                rw [HED.out.1] at hE2
                subst hE2
                obtain ⟨i0, i1, i2, i3, i4, i5, i6, i7⟩ := Y20.out.all8
                obtain ⟨f0, f1, f2, f3, f4, f5, f6, f7⟩ := R20.out.fz8
                obtain ⟨m0, m1, m2, m3, m4, m5, m6, m7⟩ := R20.out.all8
                have HL := hide (R20.out.put8 (.int .i64 ci) (.string tx') (.int .i64 cv) (.int .i64 cq) (.bool true) (.slice a1 sn.length n1) (.slice a7 cb1.length k7) (.bool true))
                have HB := hide (put8_below B20.out (show w.heap.size ≤ w.heap.size + 1 by omega) (.int .i64 ci) (.string tx') (.int .i64 cv) (.int .i64 cq) (.bool true) (.slice a1 sn.length n1) (.slice a7 cb1.length k7) (.bool true))
                have HX := hide ((CX20.out.put8 (b := w.heap.size + 1) (.inl (by omega)) (.int .i64 ci) (.string tx') (.int .i64 cv) (.int .i64 cq) (.bool true) (.slice a1 sn.length n1) (.slice a7 cb1.length k7) (.bool true)).wide (lo' := w.heap.size) (hi' := (put8 w9 (w.heap.size + 1) (.int .i64 ci) (.string tx') (.int .i64 cv) (.int .i64 cq) (.bool true) (.slice a1 sn.length n1) (.slice a7 cb1.length k7) (.bool true)).heap.size) (by omega) (by rw [put8_size]; omega))
                clear HZ HP HQ R20 B20 Y20 CX20 HH PO HT HG HGO HX' HF HED
                clear hs9 hs5 hs4 hs3 hrng hq1 hsm
                go_wp2
                obtain ⟨tt, htt⟩ := HL.out
                refine bodyPost_ret (results_cell_tmp rfl _ _ (w.heap.size + 1) tt _ (0, 0) _ (.bool true) rfl rfl htt Tryd.underlying29 rfl Tryd.sizeClient) rfl ?_
                exact ⟨a1, n1, a7, k7, rfl, HX.out, HB.out⟩
        | false =>
          have Y7 := X6
          have R7 := R6
          have B7 := B6
          have CX7 := CX6
          clear X6 R6 B6 CX6
          have u4f := Y7.out.fz 4
          have u4c : w5.cell? ⟨w.heap.size, 4, none⟩ = some (.bool false) := Y7.out.cell 4 rfl
          obtain ⟨V1, hV1⟩ : ∃ V, V = w5.setCell ⟨w.heap.size, 4, none⟩ (.bool true) := ⟨_, rfl⟩
          have Y8 : Hid (CB V1 w.heap.size #[.int .i64 ci, .string ct, .int .i64 cv, .int .i64 cq, .bool true, .slice a1 sn.length n1, .slice a2 bf.length n2, .bool cd]) := hide (by rw [hV1]; exact Y7.out.set 4 _ rfl)
          have R8 : Hid (CB V1 (w.heap.size + 1) #[.int .i64 0, .string ⟨#[]⟩, .int .i64 0, .int .i64 0, .bool false, .slice none 0 0, .slice none 0 0, .bool false]) := hide (by rw [hV1]; exact R7.out.other (d := w.heap.size) (by omega) 4 _)
          have B8 : Hid (Below w.heap.size w V1) := hide (by rw [hV1]; exact B7.out.setCell (p := ⟨w.heap.size, 4, none⟩) (Nat.le_refl _) _)
          have CX8 := hide (show CnX w3.heap.size w4.heap.size V1 (.slice a1 sn.length n1) (.slice a2 bf.length n2) _ by rw [hV1]; exact CX7.out.set (b := w.heap.size) (.inl (by omega)) _)
          have hzV1 : V1.heap.size = w5.heap.size := by rw [hV1]; simp [World.setCell]
          have NO := hide (l3Normal_any (PO.out.later B8.out) (goodO_le HGO.out).1 (goodO_pk HGO.out))
          obtain ⟨cb1, hcb1⟩ : ∃ l, norO op = l := ⟨_, rfl⟩
          have hnl : normL op = cb1 := by rw [← hcb1]; unfold norO; rw [if_pos HGO.out]
          rw [hnl] at NO
          have hsm : SmQ cb1 := by rw [← hcb1]; exact norO_good _
          have HED : Hid (edC ⟨ci, ct, cv, cq, false, sn, bf, cd⟩ op = ⟨ci, tx', cv, cq + 1, true, cb1, bf, cd⟩ ∧ edTold ⟨ci, ct, cv, cq, false, sn, bf, cd⟩ op = true) := hide (by
            unfold edC edTold
            simp only [Bool.false_eq_true, if_false]
            rw [HX'.out (by simp), hcb1, HGO.out]
            exact ⟨rfl, rfl⟩)
          clear hcb1 hnl Y7 R7 B7 CX7
          go_wp2_with fail
          rw [← hV1]
          clear hV1 u4f u4c
          refine NO.out.mono ?_
          rintro e w6 ⟨v6, rfl, ho6, hb6⟩
          obtain ⟨a7, k7, rfl, -⟩ := own_shp ho6
          have Y9 := hide (Y8.out.later hb6)
          have R9 := hide (R8.out.later hb6)
          have CX9 := hide (CX8.out.later hb6)
          have B9 : Hid (Below w.heap.size w w6) := hide (B8.out.trans (hb6.mono B8.out.size))
          have hs6 : V1.heap.size ≤ w6.heap.size := hb6.size
          clear hb6 Y8 R8 B8 CX8 NO
          have u5f := Y9.out.fz 5
          have u5c : w6.cell? ⟨w.heap.size, 5, none⟩ = some (.slice a1 sn.length n1) := Y9.out.cell 5 rfl
          obtain ⟨V2, hV2⟩ : ∃ V, V = w6.setCell ⟨w.heap.size, 5, none⟩ (.slice a7 cb1.length k7) := ⟨_, rfl⟩
          have Y10 : Hid (CB V2 w.heap.size #[.int .i64 ci, .string ct, .int .i64 cv, .int .i64 cq, .bool true, .slice a7 cb1.length k7, .slice a2 bf.length n2, .bool cd]) := hide (by rw [hV2]; exact Y9.out.set 5 _ rfl)
          have R10 : Hid (CB V2 (w.heap.size + 1) #[.int .i64 0, .string ⟨#[]⟩, .int .i64 0, .int .i64 0, .bool false, .slice none 0 0, .slice none 0 0, .bool false]) := hide (by rw [hV2]; exact R9.out.other (d := w.heap.size) (by omega) 5 _)
          have B10 : Hid (Below w.heap.size w V2) := hide (by rw [hV2]; exact B9.out.setCell (p := ⟨w.heap.size, 5, none⟩) (Nat.le_refl _) _)
          have CX10 := hide (show CnX w3.heap.size w4.heap.size V2 (.slice a1 sn.length n1) (.slice a2 bf.length n2) _ by rw [hV2]; exact CX9.out.set (b := w.heap.size) (.inl (by omega)) _)
          have hzV2 : V2.heap.size = w6.heap.size := by rw [hV2]; simp [World.setCell]
          have u3f := Y10.out.fz 3
          have u3c : V2.cell? ⟨w.heap.size, 3, none⟩ = some (.int .i64 cq) := Y10.out.cell 3 rfl
          obtain ⟨V3, hV3⟩ : ∃ V, V = V2.setCell ⟨w.heap.size, 3, none⟩ (.int .i64 (cq + 1)) := ⟨_, rfl⟩
          have Y11 : Hid (CB V3 w.heap.size #[.int .i64 ci, .string ct, .int .i64 cv, .int .i64 (cq + 1), .bool true, .slice a7 cb1.length k7, .slice a2 bf.length n2, .bool cd]) := hide (by rw [hV3]; exact Y10.out.set 3 _ rfl)
          have R11 : Hid (CB V3 (w.heap.size + 1) #[.int .i64 0, .string ⟨#[]⟩, .int .i64 0, .int .i64 0, .bool false, .slice none 0 0, .slice none 0 0, .bool false]) := hide (by rw [hV3]; exact R10.out.other (d := w.heap.size) (by omega) 3 _)
          have B11 : Hid (Below w.heap.size w V3) := hide (by rw [hV3]; exact B10.out.setCell (p := ⟨w.heap.size, 3, none⟩) (Nat.le_refl _) _)
          have CX11 := hide (show CnX w3.heap.size w4.heap.size V3 (.slice a1 sn.length n1) (.slice a2 bf.length n2) _ by rw [hV3]; exact CX10.out.set (b := w.heap.size) (.inl (by omega)) _)
          have hzV3 : V3.heap.size = V2.heap.size := by rw [hV3]; simp [World.setCell]
          have u1f := Y11.out.fz 1
          have u1c : V3.cell? ⟨w.heap.size, 1, none⟩ = some (.string ct) := Y11.out.cell 1 rfl
          obtain ⟨V4, hV4⟩ : ∃ V, V = V3.setCell ⟨w.heap.size, 1, none⟩ (.string tx') := ⟨_, rfl⟩
          have Y12 : Hid (CB V4 w.heap.size #[.int .i64 ci, .string tx', .int .i64 cv, .int .i64 (cq + 1), .bool true, .slice a7 cb1.length k7, .slice a2 bf.length n2, .bool cd]) := hide (by rw [hV4]; exact Y11.out.set 1 _ rfl)
          have R12 : Hid (CB V4 (w.heap.size + 1) #[.int .i64 0, .string ⟨#[]⟩, .int .i64 0, .int .i64 0, .bool false, .slice none 0 0, .slice none 0 0, .bool false]) := hide (by rw [hV4]; exact R11.out.other (d := w.heap.size) (by omega) 1 _)
          have B12 : Hid (Below w.heap.size w V4) := hide (by rw [hV4]; exact B11.out.setCell (p := ⟨w.heap.size, 1, none⟩) (Nat.le_refl _) _)
          have CX12 := hide (show CnX w3.heap.size w4.heap.size V4 (.slice a1 sn.length n1) (.slice a2 bf.length n2) _ by rw [hV4]; exact CX11.out.set (b := w.heap.size) (.inl (by omega)) _)
          have hzV4 : V4.heap.size = V3.heap.size := by rw [hV4]; simp [World.setCell]
          have O9 : POwn V4 V1.heap.size (.slice a7 cb1.length k7) cb1 := by rw [hV4, hV3, hV2]; exact own_aside (own_aside (own_aside ho6 (by omega) _ _) (by omega) _ _) (by omega) _ _
          have CXZ := hide (cx_make2 (lo := w3.heap.size) (hi := V4.heap.size) (m := w4.heap.size) (vs := .slice a7 cb1.length k7) (vb := .slice a2 bf.length n2) (c := ⟨ci, tx', cv, cq + 1, true, cb1, bf, cd⟩) (PR.own O9) CX12.out.b (fun y hy => by have := World.ownsRow.lt O9 y hy; omega) (fun y hy => CX12.out.bb y hy) hs4 (by omega))
          have CRU : CnR V4 (.slice a7 cb1.length k7) (.slice a2 bf.length n2) ⟨ci, tx', cv, cq + 1, true, cb1, bf, cd⟩ := CXZ.out.cr hsm HH.out.sb (by rw [← HX'.out (by simp)]; exact good_size (apE_gd2 HF.out))
          have IG := hide (l16Client_any (CRU.pin (Nat.lt_of_lt_of_le h0w B12.out.size)) (HT.out.below B12.out))
          obtain ⟨gd, hgd⟩ : ∃ b, goodC ⟨ci, tx', cv, cq + 1, true, cb1, bf, cd⟩ = b := ⟨_, rfl⟩
          rw [hgd] at IG
          have hE : EB = gd := by rw [HQ.out, HED.out.2, HED.out.1, hgd]; simp
          obtain ⟨i0, i1, i2, i3, i4, i5, i6, i7⟩ := Y12.out.all8
          rw [hV4, hV3, hV2] at i0 i1 i2 i3 i4 i5 i6 i7
          rw [hV3, hV2] at u1f u1c
          rw [hV2] at u3f u3c
          clear CRU hgd ho6 Y9 R9 B9 CX9 Y10 R10 B10 CX10 Y11 R11 B11 CX11 CX12 O9
          go_wp2_with fail
          rw [← hV2, ← hV3, ← hV4]
          clear hV2 hV3 hV4 i0 i1 i2 i3 i4 i5 i6 i7 u1f u1c u3f u3c u5f u5c
          refine IG.out.mono ?_
          rintro e w9 ⟨rfl, hb9⟩
          have R20 := hide (R12.out.later hb9)
          have Y20 := hide (Y12.out.later hb9)
          have B20 : Hid (Below w.heap.size w w9) := hide (B12.out.trans (hb9.mono B12.out.size))
          have CX20 := hide (CXZ.out.later hb9)
          have hs9 : V4.heap.size ≤ w9.heap.size := hb9.size
          clear hb9 R12 Y12 B12 CXZ IG
          subst hE
          cases EB with
          | false =>
            obtain rfl := HZ.out rfl
            have RX := R20
            have BX := B20
            clear HZ HP HQ R20 B20 Y20 CX20 HH PO HT HG HGO HX' HF HED
            obtain ⟨f0, f1, f2, f3, f4, f5, f6, f7⟩ := RX.out.fz8
            obtain ⟨m0, m1, m2, m3, m4, m5, m6, m7⟩ := RX.out.all8
            have HL := hide (RX.out.put8 (.int .i64 0) (.string ⟨#[]⟩) (.int .i64 0) (.int .i64 0) (.bool false) (.slice none 0 0) (.slice none 0 0) (.bool false))
            have HB := hide (put8_below BX.out (show w.heap.size ≤ w.heap.size + 1 by omega) (.int .i64 0) (.string ⟨#[]⟩) (.int .i64 0) (.int .i64 0) (.bool false) (.slice none 0 0) (.slice none 0 0) (.bool false))
            clear RX BX
            go_wp2
            obtain ⟨tt, htt⟩ := HL.out
            refine bodyPost_ret (results_cell_tmp rfl _ _ (w.heap.size + 1) tt _ (0, 0) _ (.bool false) rfl rfl htt Tryd.underlying29 rfl Tryd.sizeClient) rfl ?_
            exact ⟨none, 0, none, 0, rfl, cx_zero _ _ _, HB.out⟩
          | true =>
            have hE2 := HP.out rfl
            rw [HED.out.1] at hE2
            subst hE2
            obtain ⟨i0, i1, i2, i3, i4, i5, i6, i7⟩ := Y20.out.all8
            obtain ⟨f0, f1, f2, f3, f4, f5, f6, f7⟩ := R20.out.fz8
            obtain ⟨m0, m1, m2, m3, m4, m5, m6, m7⟩ := R20.out.all8
            have HL := hide (R20.out.put8 (.int .i64 ci) (.string tx') (.int .i64 cv) (.int .i64 (cq + 1)) (.bool true) (.slice a7 cb1.length k7) (.slice a2 bf.length n2) (.bool cd))
            have HB := hide (put8_below B20.out (show w.heap.size ≤ w.heap.size + 1 by omega) (.int .i64 ci) (.string tx') (.int .i64 cv) (.int .i64 (cq + 1)) (.bool true) (.slice a7 cb1.length k7) (.slice a2 bf.length n2) (.bool cd))
            have HX := hide ((CX20.out.put8 (b := w.heap.size + 1) (.inl (by omega)) (.int .i64 ci) (.string tx') (.int .i64 cv) (.int .i64 (cq + 1)) (.bool true) (.slice a7 cb1.length k7) (.slice a2 bf.length n2) (.bool cd)).wide (lo' := w.heap.size) (hi' := (put8 w9 (w.heap.size + 1) (.int .i64 ci) (.string tx') (.int .i64 cv) (.int .i64 (cq + 1)) (.bool true) (.slice a7 cb1.length k7) (.slice a2 bf.length n2) (.bool cd)).heap.size) (by omega) (by rw [put8_size]; omega))
            clear HZ HP HQ R20 B20 Y20 CX20 HH PO HT HG HGO HX' HF HED
            clear hs9 hs5 hs4 hs3 hrng hq1 hsm
            go_wp2
            obtain ⟨tt, htt⟩ := HL.out
            refine bodyPost_ret (results_cell_tmp rfl _ _ (w.heap.size + 1) tt _ (0, 0) _ (.bool true) rfl rfl htt Tryd.underlying29 rfl Tryd.sizeClient) rfl ?_
            exact ⟨a7, k7, a2, n2, rfl, HX.out, HB.out⟩
end Go.Proofs.YtkjioadmebkaoabDoor

set_option linter.unusedVariables false
namespace Go.Proofs.YtkjioadmebkaoabDoor
open Go.RowKit
open Doc1

/-- How much a client takes. -/
def szKn (t : ByteArray) (u r : List Pt) : Nat := t.size + szPn u + szPn r

set_option maxRecDepth 100000 in
set_option maxHeartbeats 4000000 in
theorem szK_from {w : World} {ci cv cq : Int} {ct : ByteArray} {cw cd : Bool} {vs vb : Value} {sn bf : List Pt} (hu : ArgP w vs sn) (hr : ArgP w vb bf) (ht : ct.size ≤ 9223372036854775807) (su : ThinP sn) (sr : ThinP bf) (left : Nat) (hlf : left ≤ 1048576) :
    Calls Tryd.prog 6 #[.agg #[.int .i64 ci, .string ct, .int .i64 cv, .int .i64 cq, .bool cw, vs, vb, .bool cd], .int .i64 (left : Int)] w fun e w' => e = .returned (.int .i64 (if szKn ct sn bf ≤ left then ((left - szKn ct sn bf : Nat) : Int) else -1)) ∧ Below w.heap.size w w' := by
  obtain ⟨a1, c1, e1⟩ := argP_shp hu
  obtain ⟨a2, c2, e2⟩ := argP_shp hr
  subst e1 e2
  obtain ⟨w1, hw1⟩ : ∃ w1, w1 = w.alloc (.cells #[.int .i64 ci, .string ct, .int .i64 cv, .int .i64 cq, .bool cw, .slice a1 sn.length c1, .slice a2 bf.length c2, .bool cd] 24) := ⟨_, rfl⟩
  have k1 : CB w1 w.heap.size #[.int .i64 ci, .string ct, .int .i64 cv, .int .i64 cq, .bool cw, .slice a1 sn.length c1, .slice a2 bf.length c2, .bool cd] := by rw [hw1]; exact CB.new _ _ _
  have k3 : Below w.heap.size w w1 := by rw [hw1]; exact (Below.refl _ _).alloc (Nat.le_refl _) _
  have H1 : Hid (∀ left, left ≤ 1048576 → _) := hide (fun left hl => szP_from (hu.later k3) su (argP_len hu) left hl)
  have H2 : Hid (∀ left, left ≤ 1048576 → ∀ w2, Below w1.heap.size w1 w2 → _) := hide (fun left hl w2 h2 => szP_from ((hr.later k3).later h2) sr (argP_len hr) left hl)
  have HK1 := hide k1
  have HB := hide k3
  unfold szKn
  clear hu hr su sr k1 k3
  by_cases q0 : ct.size ≤ left
  · obtain ⟨X, hX⟩ : ∃ X : Nat, left - ct.size = X := ⟨_, rfl⟩
    have hXi : (left : Int) - (ct.size : Int) = (X : Int) := by omega
    have dX : decide ((X : Int) < 0) = false := by rw [decide_eq_false_iff_not]; omega
    have H1 := hide (H1.out X (by omega))
    by_cases q1 : szPn sn ≤ X
    · simp only [if_pos q1] at H1
      obtain ⟨Y, hY⟩ : ∃ Y : Nat, X - szPn sn = Y := ⟨_, rfl⟩
      rw [hY] at H1
      have dY : decide ((Y : Int) < 0) = false := by rw [decide_eq_false_iff_not]; omega
      have H2 := hide (H2.out Y (by omega))
      have R : Hid ((if ct.size + szPn sn + szPn bf ≤ left then ((left - (ct.size + szPn sn + szPn bf) : Nat) : Int) else -1) = if szPn bf ≤ Y then ((Y - szPn bf : Nat) : Int) else -1) := hide (by split <;> split <;> omega)
      obtain ⟨Z, hZ⟩ : ∃ Z : Int, (if szPn bf ≤ Y then ((Y - szPn bf : Nat) : Int) else -1) = Z := ⟨_, rfl⟩
      rw [hZ] at H2 R
      rw [R.out]
      by_cases q2 : szPn bf ≤ Y
      · rw [if_pos q2] at hZ
        have dZ : decide (Z < 0) = false := by rw [decide_eq_false_iff_not]; omega
        clear R hZ q2 q1 q0 hX hY
        go_enter Tryd.func6, Tryd.ntmps6
        go_wp2_with fail
        rw [← hw1]
        clear hw1
        refine H1.out.mono ?_
        rintro e w2 ⟨rfl, hb2⟩
        have HB2 := hide (HB.out.trans (hb2.mono HB.out.size))
        have q1 : w2.cell? ⟨w.heap.size, 6, none⟩ = some (.slice a2 bf.length c2) := (HK1.out.later hb2).cell 6 rfl
        have H3 := hide (H2.out w2 hb2)
        clear hb2 H2
        go_wp2_with fail
        refine H3.out.mono ?_
        rintro e w3 ⟨rfl, hb3⟩
        have HB3 := hide (HB2.out.trans (hb3.mono HB2.out.size))
        clear hb3 q1
        go_wp2
        go_ret
        exact ⟨rfl, HB3.out⟩
      · rw [if_neg q2] at hZ
        subst hZ
        clear R q2 q1 q0 hX hY
        go_enter Tryd.func6, Tryd.ntmps6
        go_wp2_with fail
        rw [← hw1]
        clear hw1
        refine H1.out.mono ?_
        rintro e w2 ⟨rfl, hb2⟩
        have HB2 := hide (HB.out.trans (hb2.mono HB.out.size))
        have q1 : w2.cell? ⟨w.heap.size, 6, none⟩ = some (.slice a2 bf.length c2) := (HK1.out.later hb2).cell 6 rfl
        have H3 := hide (H2.out w2 hb2)
        clear hb2 H2
        go_wp2_with fail
        refine H3.out.mono ?_
        rintro e w3 ⟨rfl, hb3⟩
        have HB3 := hide (HB2.out.trans (hb3.mono HB2.out.size))
        clear hb3 q1
        go_wp2
        go_ret
        exact ⟨rfl, HB3.out⟩
    · simp only [if_neg q1] at H1
      have R : Hid ((if ct.size + szPn sn + szPn bf ≤ left then ((left - (ct.size + szPn sn + szPn bf) : Nat) : Int) else -1) = -1) := hide (by rw [if_neg (by omega)])
      rw [R.out]
      clear R q1 q0 hX H2
      go_enter Tryd.func6, Tryd.ntmps6
      go_wp2_with fail
      rw [← hw1]
      clear hw1
      refine H1.out.mono ?_
      rintro e w2 ⟨rfl, hb2⟩
      have HB2 := hide (HB.out.trans (hb2.mono HB.out.size))
      clear hb2
      go_wp2
      go_ret
      exact ⟨rfl, HB2.out⟩
  · have R : Hid ((if ct.size + szPn sn + szPn bf ≤ left then ((left - (ct.size + szPn sn + szPn bf) : Nat) : Int) else -1) = -1) := hide (by rw [if_neg (by omega)])
    rw [R.out]
    have hXi : decide ((left : Int) - (ct.size : Int) < 0) = true := decide_eq_true (by omega)
    have hXj : (left : Int) - (ct.size : Int) < 0 := by omega
    rw [hw1] at HB
    clear R q0 H1 H2 HK1 hw1
    go_enter Tryd.func6, Tryd.ntmps6
    go_wp2
    go_ret
    exact ⟨rfl, HB.out⟩

set_option maxRecDepth 100000 in
set_option maxHeartbeats 2000000 in
theorem eqK {w : World} {ci cv cq : Int} {ct : ByteArray} {cw cd : Bool} {vs vb vs' vb' : Value} {sn bf : List Pt} (hu : PR w vs sn) (hr : PR w vb bf) (hu' : PR w vs' sn) (hr' : PR w vb' bf) (bu : sn.length ≤ 10000000) (br : bf.length ≤ 10000000) :
    Calls Tryd.prog 12 #[.agg #[.int .i64 ci, .string ct, .int .i64 cv, .int .i64 cq, .bool cw, vs, vb, .bool cd], .agg #[.int .i64 ci, .string ct, .int .i64 cv, .int .i64 cq, .bool cw, vs', vb', .bool cd]] w fun e w' => e = .returned (.bool true) ∧ Below w.heap.size w w' := by
  obtain ⟨a1, c1, e1⟩ := hu.shp
  obtain ⟨a2, c2, e2⟩ := hr.shp
  obtain ⟨a3, c3, e3⟩ := hu'.shp
  obtain ⟨a4, c4, e4⟩ := hr'.shp
  subst e1 e2 e3 e4
  obtain ⟨w1, hw1⟩ : ∃ w1, w1 = (w.alloc (.cells #[.int .i64 ci, .string ct, .int .i64 cv, .int .i64 cq, .bool cw, .slice a1 sn.length c1, .slice a2 bf.length c2, .bool cd] 29)).alloc (.cells #[.int .i64 ci, .string ct, .int .i64 cv, .int .i64 cq, .bool cw, .slice a3 sn.length c3, .slice a4 bf.length c4, .bool cd] 29) := ⟨_, rfl⟩
  obtain ⟨k1, k2, k3, k4⟩ := cb_two w #[.int .i64 ci, .string ct, .int .i64 cv, .int .i64 cq, .bool cw, .slice a1 sn.length c1, .slice a2 bf.length c2, .bool cd] #[.int .i64 ci, .string ct, .int .i64 cv, .int .i64 cq, .bool cw, .slice a3 sn.length c3, .slice a4 bf.length c4, .bool cd] 29 29
  rw [← hw1] at k1 k2 k3 k4
  have H1 := hide (eqP_r (hu.later k3) (hu'.later k3) bu)
  have H2 : Hid (∀ w2, Below w1.heap.size w1 w2 → Calls Tryd.prog 13 #[.slice a2 bf.length c2, .slice a4 bf.length c4] w2 fun e w' => e = .returned (.bool true) ∧ Below w2.heap.size w2 w') := hide (fun w2 h2 => eqP_r ((hr.later k3).later h2) ((hr'.later k3).later h2) br)
  have HK1 := hide k1
  have HK2 := hide k2
  have HB := hide k3
  have b1 : (cw != cw) = false := by simp
  have b2 : (cd != cd) = false := by simp
  clear hu hr hu' hr' bu br k1 k2 k3
  go_enter Tryd.func12, Tryd.ntmps12
  go_wp2_with fail
  rw [← hw1]
  clear hw1
  refine H1.out.mono ?_
  rintro e w2 ⟨rfl, hb2⟩
  have q1 : w2.cell? ⟨w.heap.size, 6, none⟩ = some (.slice a2 bf.length c2) := (HK1.out.later hb2).cell 6 rfl
  have q2 : w2.cell? ⟨w.heap.size + 1, 6, none⟩ = some (.slice a4 bf.length c4) := (HK2.out.later hb2).cell 6 rfl
  have HL1 := hide (HK1.out.later hb2)
  have HL2 := hide (HK2.out.later hb2)
  have H3 := hide (H2.out w2 hb2)
  have HB2 := hide (HB.out.trans (hb2.mono HB.out.size))
  clear hb2 H2 HK1 HK2
  go_wp2_with fail
  refine H3.out.mono ?_
  rintro e w3 ⟨rfl, hb3⟩
  have q3 : w3.cell? ⟨w.heap.size, 7, none⟩ = some (.bool cd) := (HL1.out.later hb3).cell 7 rfl
  have q4 : w3.cell? ⟨w.heap.size + 1, 7, none⟩ = some (.bool cd) := (HL2.out.later hb3).cell 7 rfl
  have HB3 := hide (HB2.out.trans (hb3.mono HB2.out.size))
  clear hb3 q1 q2
  go_wp2
  go_ret
  exact ⟨rfl, HB3.out⟩

/-- A client's rows, marked from K on. -/
structure CnK (K lo hi : Nat) (w : World) (vs vb : Value) (u r : List Pt) : Prop where
  s : PMq K w vs u.length
  b : PMq (K + u.length * 3) w vb r.length
  bs : ∀ y, vs.ownBlock = some y → lo ≤ y ∧ y < hi
  bb : ∀ y, vb.ownBlock = some y → lo ≤ y ∧ y < hi
  ne : ∀ y, vs.ownBlock = some y → vb.ownBlock ≠ some y
  es : ∃ a c, vs = .slice a u.length c
  eb : ∃ a c, vb = .slice a r.length c
theorem CnK.later {K lo hi : Nat} {w w1 : World} {vs vb : Value} {u r : List Pt} (h : CnK K lo hi w vs vb u r) (hb : Below w.heap.size w w1) : CnK K lo hi w1 vs vb u r := ⟨h.s.later hb, h.b.later hb, h.bs, h.bb, h.ne, h.es, h.eb⟩
theorem CnK.out {K lo hi a b : Nat} {w w1 : World} {vs vb : Value} {u r : List Pt} (h : CnK K lo hi w vs vb u r) (ho : Out (Iv a b) w w1) (hd : hi ≤ a ∨ b ≤ lo) : CnK K lo hi w1 vs vb u r :=
  ⟨h.s.keep ho.size (fun y hy hl => ho.block y hl (fun c => by have := h.bs y hy; have := c.1; have := c.2; omega)), h.b.keep ho.size (fun y hy hl => ho.block y hl (fun c => by have := h.bb y hy; have := c.1; have := c.2; omega)), h.bs, h.bb, h.ne, h.es, h.eb⟩
theorem CnX.out {lo hi a b : Nat} {w w1 : World} {vs vb : Value} {c : Cn} (h : CnX lo hi w vs vb c) (ho : Out (Iv a b) w w1) (hd : hi ≤ a ∨ b ≤ lo) : CnX lo hi w1 vs vb c :=
  ⟨h.s.keep ho.size (fun y hy hl => ho.block y hl (fun c => by have := h.bs y hy; have := c.1; have := c.2; omega)), h.b.keep ho.size (fun y hy hl => ho.block y hl (fun c => by have := h.bb y hy; have := c.1; have := c.2; omega)), h.bs, h.bb, h.ne⟩
theorem eqKX {lo hi lo' hi' : Nat} {w : World} {ci cv cq : Int} {ct : ByteArray} {cw cd : Bool} {vs vb vs' vb' : Value} {sn bf : List Pt} (h : CnX lo hi w vs vb ⟨ci, ct, cv, cq, cw, sn, bf, cd⟩) (h' : CnX lo' hi' w vs' vb' ⟨ci, ct, cv, cq, cw, sn, bf, cd⟩) (bu : sn.length ≤ 10000000) (br : bf.length ≤ 10000000) :
    Calls Tryd.prog 12 #[.agg #[.int .i64 ci, .string ct, .int .i64 cv, .int .i64 cq, .bool cw, vs, vb, .bool cd], .agg #[.int .i64 ci, .string ct, .int .i64 cv, .int .i64 cq, .bool cw, vs', vb', .bool cd]] w fun e w' => e = .returned (.bool true) ∧ Below w.heap.size w w' :=
  eqK h.s h.b h'.s h'.b bu br

set_option maxRecDepth 100000 in
set_option maxHeartbeats 2000000 in
theorem markKX {lo hi : Nat} {w : World} {ci cv cq : Int} {ct : ByteArray} {cw cd : Bool} {vs vb : Value} {sn bf : List Pt} (h : CnX lo hi w vs vb ⟨ci, ct, cv, cq, cw, sn, bf, cd⟩) (hw : hi ≤ w.heap.size) (bu : sn.length ≤ 10000000) (br : bf.length ≤ 10000000) (K : Nat) (hK : 0 < K ∧ K + sn.length * 3 + bf.length * 3 ≤ 500000000) :
    Calls Tryd.prog 14 #[.agg #[.int .i64 ci, .string ct, .int .i64 cv, .int .i64 cq, .bool cw, vs, vb, .bool cd], .int .i64 (K : Int)] w fun e w' => e = .returned (.int .i64 (K + sn.length * 3 + bf.length * 3 : Nat)) ∧ Out (Iv lo hi) w w' ∧ CnK K lo hi w' vs vb sn bf := by
  obtain ⟨a1, c1, e1⟩ := h.s.shp
  obtain ⟨a2, c2, e2⟩ := h.b.shp
  simp only at e1 e2
  subst e1 e2
  obtain ⟨w1, hw1⟩ : ∃ w1, w1 = w.alloc (.cells #[.int .i64 ci, .string ct, .int .i64 cv, .int .i64 cq, .bool cw, .slice a1 sn.length c1, .slice a2 bf.length c2, .bool cd] 29) := ⟨_, rfl⟩
  have k1 : CB w1 w.heap.size #[.int .i64 ci, .string ct, .int .i64 cv, .int .i64 cq, .bool cw, .slice a1 sn.length c1, .slice a2 bf.length c2, .bool cd] := by rw [hw1]; exact CB.new _ _ _
  have k3 : Below w.heap.size w w1 := by rw [hw1]; exact (Below.refl _ _).alloc (Nat.le_refl _) _
  have HX := hide (h.later k3)
  have H1 := hide (markP_r (h.later k3).s bu K ⟨hK.1, by omega⟩)
  have H2 : Hid (∀ w2, w1.grownBy w2 (Value.slice a1 sn.length c1).ownBlock → Calls Tryd.prog 15 #[.slice a2 bf.length c2, .int .i64 ((K + sn.length * 3 : Nat) : Int)] w2 fun e w' => e = .returned (.int .i64 (K + sn.length * 3 + bf.length * 3 : Nat)) ∧ w2.grownBy w' (Value.slice a2 bf.length c2).ownBlock ∧ PMq (K + sn.length * 3) w' (.slice a2 bf.length c2) bf.length) := hide (fun w2 h2 => markP_r ((h.later k3).b.keep h2.size (fun y hy hl => h2.block y hl (fun c => h.ne y c.symm hy))) br (K + sn.length * 3) ⟨by omega, by omega⟩)
  have HK1 := hide k1
  have HB := hide k3
  have HW := hide hw
  obtain ⟨X, hX⟩ : ∃ X : Nat, X = K + sn.length * 3 := ⟨_, rfl⟩
  obtain ⟨Y, hY⟩ : ∃ Y : Nat, Y = X + bf.length * 3 := ⟨_, rfl⟩
  have HXe := hide hX
  simp only [← hX] at H1 H2 ⊢
  simp only [← hY] at H2 ⊢
  clear h bu br k1 k3 hX hY hK hw
  go_enter Tryd.func14, Tryd.ntmps14
  go_wp2_with fail
  rw [← hw1]
  clear hw1
  refine H1.out.mono ?_
  rintro e w2 ⟨rfl, hg2, hm2⟩
  have q1 : w2.cell? ⟨w.heap.size, 6, none⟩ = some (.slice a2 bf.length c2) := (HK1.out.block (hg2.block _ HK1.out.lt (fun c => by have := HX.out.bs _ c.symm; have := HW.out; omega))).cell 6 rfl
  have H3 := hide (H2.out w2 hg2)
  have HG2 := hide hg2
  have HM2 := hide hm2
  clear hg2 hm2 H2
  go_wp2_with fail
  refine H3.out.mono ?_
  rintro e w3 ⟨rfl, hg3, hm3⟩
  have HO : Hid (Out (Iv lo hi) w w3) := hide ((Out.below HB.out).trans ((Out.grown HG2.out (fun y hy => HX.out.bs y hy)).trans (Out.grown hg3 (fun y hy => HX.out.bb y hy))))
  have HK : Hid (CnK K lo hi w3 (.slice a1 sn.length c1) (.slice a2 bf.length c2) sn bf) := hide ⟨HM2.out.keep hg3.size (fun y hy hl => hg3.block y hl (fun c => HX.out.ne y hy c.symm)), by rw [← HXe.out]; exact hm3, HX.out.bs, HX.out.bb, HX.out.ne, ⟨a1, c1, rfl⟩, ⟨a2, c2, rfl⟩⟩
  clear hg3 hm3 q1 H3
  go_wp2
  go_ret
  exact ⟨rfl, HO.out, HK.out⟩

set_option maxRecDepth 100000 in
set_option maxHeartbeats 2000000 in
theorem heldKX {lo hi K : Nat} {w : World} {ci cv cq : Int} {ct : ByteArray} {cw cd : Bool} {vs vb : Value} {sn bf : List Pt} (h : CnK K lo hi w vs vb sn bf) (bu : sn.length ≤ 10000000) (br : bf.length ≤ 10000000) (hK : 0 < K ∧ K + sn.length * 3 + bf.length * 3 ≤ 500000000) :
    Calls Tryd.prog 16 #[.agg #[.int .i64 ci, .string ct, .int .i64 cv, .int .i64 cq, .bool cw, vs, vb, .bool cd], .int .i64 (K : Int)] w fun e w' => e = .returned (.int .i64 (K + sn.length * 3 + bf.length * 3 : Nat)) ∧ Below w.heap.size w w' := by
  obtain ⟨a1, c1, e1⟩ := h.es
  obtain ⟨a2, c2, e2⟩ := h.eb
  subst e1 e2
  obtain ⟨w1, hw1⟩ : ∃ w1, w1 = w.alloc (.cells #[.int .i64 ci, .string ct, .int .i64 cv, .int .i64 cq, .bool cw, .slice a1 sn.length c1, .slice a2 bf.length c2, .bool cd] 29) := ⟨_, rfl⟩
  have k1 : CB w1 w.heap.size #[.int .i64 ci, .string ct, .int .i64 cv, .int .i64 cq, .bool cw, .slice a1 sn.length c1, .slice a2 bf.length c2, .bool cd] := by rw [hw1]; exact CB.new _ _ _
  have k3 : Below w.heap.size w w1 := by rw [hw1]; exact (Below.refl _ _).alloc (Nat.le_refl _) _
  have H1 := hide (heldP_q (h.later k3).s bu ⟨hK.1, by omega⟩)
  have H2 : Hid (∀ w2, Below w1.heap.size w1 w2 → Calls Tryd.prog 45 #[.slice a2 bf.length c2, .int .i64 ((K + sn.length * 3 : Nat) : Int)] w2 fun e w' => e = .returned (.int .i64 (K + sn.length * 3 + bf.length * 3 : Nat)) ∧ Below w2.heap.size w2 w') := hide (fun w2 h2 => heldP_q ((h.later k3).later h2).b br ⟨by omega, by omega⟩)
  have HK1 := hide k1
  have HB := hide k3
  obtain ⟨X, hX⟩ : ∃ X : Int, X = ((K + sn.length * 3 : Nat) : Int) := ⟨_, rfl⟩
  obtain ⟨Y, hY⟩ : ∃ Y : Int, Y = ((K + sn.length * 3 + bf.length * 3 : Nat) : Int) := ⟨_, rfl⟩
  simp only [← hX] at H1 H2
  simp only [← hY] at H2 ⊢
  have d1 : decide (X < 0) = false := by rw [decide_eq_false_iff_not]; omega
  have d2 : decide (Y < 0) = false := by rw [decide_eq_false_iff_not]; omega
  clear h bu br k1 k3 hX hY hK
  go_enter Tryd.func16, Tryd.ntmps16
  go_wp2_with fail
  rw [← hw1]
  clear hw1
  refine H1.out.mono ?_
  rintro e w2 ⟨rfl, hb2⟩
  have q1 : w2.cell? ⟨w.heap.size, 6, none⟩ = some (.slice a2 bf.length c2) := (HK1.out.later hb2).cell 6 rfl
  have H3 := hide (H2.out w2 hb2)
  have HB2 := hide (HB.out.trans (hb2.mono HB.out.size))
  clear hb2 H2
  go_wp2_with fail
  refine H3.out.mono ?_
  rintro e w3 ⟨rfl, hb3⟩
  have HB3 := hide (HB2.out.trans (hb3.mono HB2.out.size))
  clear hb3 q1
  go_wp2
  go_ret
  exact ⟨rfl, HB3.out⟩

set_option maxRecDepth 100000 in
set_option maxHeartbeats 4000000 in
theorem toK {w : World} {ci cv cq : Int} {ct : ByteArray} {cw cd : Bool} {vs vb : Value} {sn bf : List Pt} (hu : ArgP w vs sn) (hr : ArgP w vb bf) (mu : sn.length ≤ 2000000) (mr : bf.length ≤ 2000000) :
    Calls Tryd.prog 9 #[.agg #[.int .i64 ci, .string ct, .int .i64 cv, .int .i64 cq, .bool cw, vs, vb, .bool cd]] w fun e w' => ∃ xu xr, e = .returned (.agg #[.int .i64 ci, .string ct, .int .i64 cv, .int .i64 cq, .bool cw, xu, xr, .bool cd]) ∧ CnX w.heap.size w'.heap.size w' xu xr ⟨ci, ct, cv, cq, cw, sn, bf, cd⟩ ∧ Below w.heap.size w w' := by
  obtain ⟨a1, c1, e1⟩ := argP_shp hu
  obtain ⟨a2, c2, e2⟩ := argP_shp hr
  subst e1 e2
  obtain ⟨w1, hw1⟩ : ∃ w1, w1 = ((w.alloc (.cells #[.int .i64 ci, .string ct, .int .i64 cv, .int .i64 cq, .bool cw, .slice a1 sn.length c1, .slice a2 bf.length c2, .bool cd] 24)).alloc (.cells #[.int .i64 0, .string ⟨#[]⟩, .int .i64 0, .int .i64 0, .bool false, .slice none 0 0, .slice none 0 0, .bool false] 29)).alloc (.cells #[.int .i64 ci, .string ct, .int .i64 cv, .int .i64 cq, .bool cw, .slice none 0 0, .slice none 0 0, .bool false] 29) := ⟨_, rfl⟩
  have hs1 : w1.heap.size = w.heap.size + 3 := by rw [hw1]; simp
  obtain ⟨p1, p2, p3, p4⟩ := cb_two w #[.int .i64 ci, .string ct, .int .i64 cv, .int .i64 cq, .bool cw, .slice a1 sn.length c1, .slice a2 bf.length c2, .bool cd] #[.int .i64 0, .string ⟨#[]⟩, .int .i64 0, .int .i64 0, .bool false, .slice none 0 0, .slice none 0 0, .bool false] 24 29
  have hup : Below (w.heap.size + 2) ((w.alloc (.cells #[.int .i64 ci, .string ct, .int .i64 cv, .int .i64 cq, .bool cw, .slice a1 sn.length c1, .slice a2 bf.length c2, .bool cd] 24)).alloc (.cells #[.int .i64 0, .string ⟨#[]⟩, .int .i64 0, .int .i64 0, .bool false, .slice none 0 0, .slice none 0 0, .bool false] 29)) w1 := by rw [hw1]; exact (Below.refl _ _).alloc (by simp) _
  have X1 : Hid (CB w1 w.heap.size #[.int .i64 ci, .string ct, .int .i64 cv, .int .i64 cq, .bool cw, .slice a1 sn.length c1, .slice a2 bf.length c2, .bool cd]) := hide (p1.block (hup.block _ (by omega)))
  have R1 : Hid (CB w1 (w.heap.size + 1) #[.int .i64 0, .string ⟨#[]⟩, .int .i64 0, .int .i64 0, .bool false, .slice none 0 0, .slice none 0 0, .bool false]) := hide (p2.block (hup.block _ (by omega)))
  have Y1 : Hid (CB w1 (w.heap.size + 1 + 1) #[.int .i64 ci, .string ct, .int .i64 cv, .int .i64 cq, .bool cw, .slice none 0 0, .slice none 0 0, .bool false]) := hide (by
    rw [hw1]
    have := CB.new ((w.alloc (.cells #[.int .i64 ci, .string ct, .int .i64 cv, .int .i64 cq, .bool cw, .slice a1 sn.length c1, .slice a2 bf.length c2, .bool cd] 24)).alloc (.cells #[.int .i64 0, .string ⟨#[]⟩, .int .i64 0, .int .i64 0, .bool false, .slice none 0 0, .slice none 0 0, .bool false] 29)) #[.int .i64 ci, .string ct, .int .i64 cv, .int .i64 cq, .bool cw, .slice none 0 0, .slice none 0 0, .bool false] 29
    rw [World.size_alloc, World.size_alloc] at this
    exact this)
  have hb1 : Below w.heap.size w w1 := p3.trans (hup.mono (by omega))
  have HR := hide (fun (w' : World) (hb : Below w.heap.size w w') => toP_cp (hr.later hb) mr)
  have H1 := hide (toP_cp (hu.later hb1) mu)
  have B1 := hide hb1
  have hml : sn.length ≤ maxLen ∧ bf.length ≤ maxLen := by unfold maxLen; omega
  have HML := hide hml
  clear hu hr hb1 p1 p2 p3 p4 hup hml mu mr
  go_enter Tryd.func9, Tryd.ntmps9
  go_wp2_with fail
  rw [← hw1]
  clear hw1
  refine H1.out.mono ?_
  rintro e w2 ⟨rfl, hp2, hb2⟩
  rw [hs1] at hp2
  have f2 := (Y1.out.later hb2).fz 5
  have g2 := (Y1.out.later hb2).cell 5 rfl
  obtain ⟨V3, hV3⟩ : ∃ V, V = w2.setCell ⟨w.heap.size + 1 + 1, 5, none⟩ (.slice (some ⟨w.heap.size + 3, 0, none⟩) sn.length sn.length) := ⟨_, rfl⟩
  have Y3 : Hid (CB V3 (w.heap.size + 1 + 1) #[.int .i64 ci, .string ct, .int .i64 cv, .int .i64 cq, .bool cw, .slice (some ⟨w.heap.size + 3, 0, none⟩) sn.length sn.length, .slice none 0 0, .bool false]) := hide (by rw [hV3]; exact (Y1.out.later hb2).set 5 _ rfl)
  have R3 : Hid (CB V3 (w.heap.size + 1) #[.int .i64 0, .string ⟨#[]⟩, .int .i64 0, .int .i64 0, .bool false, .slice none 0 0, .slice none 0 0, .bool false]) := hide (by rw [hV3]; exact (R1.out.later hb2).other (d := w.heap.size + 1 + 1) (by omega) 5 _)
  have X3 : Hid (CB V3 w.heap.size #[.int .i64 ci, .string ct, .int .i64 cv, .int .i64 cq, .bool cw, .slice a1 sn.length c1, .slice a2 bf.length c2, .bool cd]) := hide (by rw [hV3]; exact (X1.out.later hb2).other (d := w.heap.size + 1 + 1) (by omega) 5 _)
  have B3 : Hid (Below w.heap.size w V3) := hide (by rw [hV3]; exact (B1.out.trans (hb2.mono B1.out.size)).setCell (p := ⟨w.heap.size + 1 + 1, 5, none⟩) (by show w.heap.size ≤ w.heap.size + 1 + 1; omega) _)
  have hs3 : w.heap.size + 3 < V3.heap.size := by rw [hV3]; simpa [World.setCell] using hp2.lt
  have P3 : Hid (PCp V3 (w.heap.size + 3) sn) := hide (by rw [hV3]; exact hp2.block (by simp [World.setCell]) (Below.heap_setCell _ _ _ _ (by show w.heap.size + 3 ≠ w.heap.size + 1 + 1; omega)))
  have H3 := hide (HR.out V3 B3.out)
  have k6 : V3.cell? ⟨w.heap.size, 6, none⟩ = some (.slice a2 bf.length c2) := X3.out.cell 6 rfl
  rw [hV3] at k6
  clear hb2 hp2 X1 R1 Y1 B1 H1 HR
  go_wp2_with fail
  rw [← hV3]
  clear hV3 f2 g2 k6
  refine H3.out.mono ?_
  rintro e w4 ⟨rfl, hp4, hb4⟩
  have f4 := (Y3.out.later hb4).fz 6
  have g4 := (Y3.out.later hb4).cell 6 rfl
  have x7 : w4.cell? ⟨w.heap.size, 7, none⟩ = some (.bool cd) := (X3.out.later hb4).cell 7 rfl
  have y6 : CB (w4.setCell ⟨w.heap.size + 1 + 1, 6, none⟩ (.slice (some ⟨V3.heap.size, 0, none⟩) bf.length bf.length)) (w.heap.size + 1 + 1) #[.int .i64 ci, .string ct, .int .i64 cv, .int .i64 cq, .bool cw, .slice (some ⟨w.heap.size + 3, 0, none⟩) sn.length sn.length, .slice (some ⟨V3.heap.size, 0, none⟩) bf.length bf.length, .bool false] := (Y3.out.later hb4).set 6 _ rfl
  have r6 : CB (w4.setCell ⟨w.heap.size + 1 + 1, 6, none⟩ (.slice (some ⟨V3.heap.size, 0, none⟩) bf.length bf.length)) (w.heap.size + 1) #[.int .i64 0, .string ⟨#[]⟩, .int .i64 0, .int .i64 0, .bool false, .slice none 0 0, .slice none 0 0, .bool false] := (R3.out.later hb4).other (d := w.heap.size + 1 + 1) (by omega) 6 _
  have x8 : (w4.setCell ⟨w.heap.size + 1 + 1, 6, none⟩ (.slice (some ⟨V3.heap.size, 0, none⟩) bf.length bf.length)).cell? ⟨w.heap.size, 7, none⟩ = some (.bool cd) := ((X3.out.later hb4).other (d := w.heap.size + 1 + 1) (by omega) 6 _).cell 7 rfl
  have f7 := y6.fz 7
  have g7 : (w4.setCell ⟨w.heap.size + 1 + 1, 6, none⟩ (.slice (some ⟨V3.heap.size, 0, none⟩) bf.length bf.length)).cell? ⟨w.heap.size + 1 + 1, 7, none⟩ = some (.bool false) := y6.cell 7 rfl
  obtain ⟨V5, hV5⟩ : ∃ V, V = (w4.setCell ⟨w.heap.size + 1 + 1, 6, none⟩ (.slice (some ⟨V3.heap.size, 0, none⟩) bf.length bf.length)).setCell ⟨w.heap.size + 1 + 1, 7, none⟩ (.bool cd) := ⟨_, rfl⟩
  have Y5 : CB V5 (w.heap.size + 1 + 1) #[.int .i64 ci, .string ct, .int .i64 cv, .int .i64 cq, .bool cw, .slice (some ⟨w.heap.size + 3, 0, none⟩) sn.length sn.length, .slice (some ⟨V3.heap.size, 0, none⟩) bf.length bf.length, .bool cd] := by rw [hV5]; exact y6.set 7 _ rfl
  have R5 : CB V5 (w.heap.size + 1) #[.int .i64 0, .string ⟨#[]⟩, .int .i64 0, .int .i64 0, .bool false, .slice none 0 0, .slice none 0 0, .bool false] := by rw [hV5]; exact r6.other (d := w.heap.size + 1 + 1) (by omega) 7 _
  have B5 : Below w.heap.size w V5 := by rw [hV5]; exact ((B3.out.trans (hb4.mono B3.out.size)).setCell (p := ⟨w.heap.size + 1 + 1, 6, none⟩) (by show w.heap.size ≤ w.heap.size + 1 + 1; omega) _).setCell (p := ⟨w.heap.size + 1 + 1, 7, none⟩) (by show w.heap.size ≤ w.heap.size + 1 + 1; omega) _
  have hs5 : V3.heap.size < V5.heap.size := by rw [hV5]; simpa [World.setCell] using hp4.lt
  have P5 : PCp V5 V3.heap.size bf := by rw [hV5]; exact (hp4.block (by simp [World.setCell]) (Below.heap_setCell _ _ _ _ (by show V3.heap.size ≠ w.heap.size + 1 + 1; omega))).block (by simp [World.setCell]) (Below.heap_setCell _ _ _ _ (by show V3.heap.size ≠ w.heap.size + 1 + 1; omega))
  have Q5 : PCp V5 (w.heap.size + 3) sn := by rw [hV5]; exact ((P3.out.later hb4).block (by simp [World.setCell]) (Below.heap_setCell _ _ _ _ (by show w.heap.size + 3 ≠ w.heap.size + 1 + 1; omega))).block (by simp [World.setCell]) (Below.heap_setCell _ _ _ _ (by show w.heap.size + 3 ≠ w.heap.size + 1 + 1; omega))
  obtain ⟨i0, i1, i2, i3, i4, i5, i6, i7⟩ := Y5.all8
  obtain ⟨j0, j1, j2, j3, j4, j5, j6, j7⟩ := R5.fz8
  obtain ⟨m0, m1, m2, m3, m4, m5, m6, m7⟩ := R5.all8
  rw [hV5] at i0 i1 i2 i3 i4 i5 i6 i7 j0 j1 j2 j3 j4 j5 j6 j7 m0 m1 m2 m3 m4 m5 m6 m7
  have HL := hide (R5.put8 (.int .i64 ci) (.string ct) (.int .i64 cv) (.int .i64 cq) (.bool cw) (.slice (some ⟨w.heap.size + 3, 0, none⟩) sn.length sn.length) (.slice (some ⟨V3.heap.size, 0, none⟩) bf.length bf.length) (.bool cd))
  have hsz := put8_size V5 (w.heap.size + 1) (.int .i64 ci) (.string ct) (.int .i64 cv) (.int .i64 cq) (.bool cw) (.slice (some ⟨w.heap.size + 3, 0, none⟩) sn.length sn.length) (.slice (some ⟨V3.heap.size, 0, none⟩) bf.length bf.length) (.bool cd)
  have HX := hide (CnX.wide (lo' := w.heap.size) (hi' := (put8 V5 (w.heap.size + 1) (.int .i64 ci) (.string ct) (.int .i64 cv) (.int .i64 cq) (.bool cw) (.slice (some ⟨w.heap.size + 3, 0, none⟩) sn.length sn.length) (.slice (some ⟨V3.heap.size, 0, none⟩) bf.length bf.length) (.bool cd)).heap.size) (CnX.put8 (lo := w.heap.size + 3) (hi := V5.heap.size) (c := ⟨ci, ct, cv, cq, cw, sn, bf, cd⟩) (vs := .slice (some ⟨w.heap.size + 3, 0, none⟩) sn.length sn.length) (vb := .slice (some ⟨V3.heap.size, 0, none⟩) bf.length bf.length) ⟨PR.cp Q5 HML.out.1, PR.cp P5 HML.out.2, fun y hy => by have e : w.heap.size + 3 = y := Option.some.inj hy; omega, fun y hy => by have e : V3.heap.size = y := Option.some.inj hy; omega, fun y hy hz => by
      have q1 : w.heap.size + 3 = y := Option.some.inj hy
      have q2 : V3.heap.size = y := Option.some.inj hz
      omega⟩ (b := w.heap.size + 1) (.inl (by omega)) (.int .i64 ci) (.string ct) (.int .i64 cv) (.int .i64 cq) (.bool cw) (.slice (some ⟨w.heap.size + 3, 0, none⟩) sn.length sn.length) (.slice (some ⟨V3.heap.size, 0, none⟩) bf.length bf.length) (.bool cd)) (by omega) (by omega))
  have HB := hide (put8_below B5 (show w.heap.size ≤ w.heap.size + 1 by omega) (.int .i64 ci) (.string ct) (.int .i64 cv) (.int .i64 cq) (.bool cw) (.slice (some ⟨w.heap.size + 3, 0, none⟩) sn.length sn.length) (.slice (some ⟨V3.heap.size, 0, none⟩) bf.length bf.length) (.bool cd))
  rw [hV5] at HL HX HB
  clear hb4 hp4 X3 R3 Y3 B3 H3 Y5 R5 B5 P5 Q5 P3 hsz hs5 hs3 hs1 hV5 y6 r6 HML
  go_wp2
  obtain ⟨tt, htt⟩ := HL.out
  refine bodyPost_ret (results_cell_row rfl _ _ (w.heap.size + 1) _ _ (0, 0) _ rfl htt Tryd.underlying29 rfl Tryd.sizeClient) rfl ?_
  exact ⟨_, _, rfl, HX.out, HB.out⟩
end Go.Proofs.YtkjioadmebkaoabDoor

set_option linter.unusedVariables false
namespace Go.Proofs.YtkjioadmebkaoabDoor
open Go.RowKit
open Doc1

theorem PCp.outI {a b : Nat} {w w1 : World} {g : Nat} {l : List Pt} (h : PCp w g l) (ho : Out (Iv a b) w w1) (hd : g < a ∨ b ≤ g) : PCp w1 g l := h.block ho.size (ho.block g h.lt (fun e => by have := e.1; have := e.2; omega))
theorem CnX.shp2 {lo hi : Nat} {w : World} {vs vb : Value} {c : Cn} (h : CnX lo hi w vs vb c) : ∃ a k a' k', vs = .slice a c.sn.length k ∧ vb = .slice a' c.bf.length k' := by
  obtain ⟨a, k, e⟩ := h.s.shp
  obtain ⟨a', k', e'⟩ := h.b.shp
  exact ⟨a, k, a', k', e, e'⟩
theorem ec_ex {w : World} {ri rv rq : Int} {rt : ByteArray} {rw' rd b : Bool} {rs rb : List Pt} {e : Ending} {w' : World} (h : EcPost w ⟨ri, rt, rv, rq, rw', rs, rb, rd⟩ b e w') :
    ∃ a1 k1 a2 k2, e = .returned (.tuple #[.agg #[.int .i64 ri, .string rt, .int .i64 rv, .int .i64 rq, .bool rw', .slice a1 rs.length k1, .slice a2 rb.length k2, .bool rd], .bool b]) ∧ CnX w.heap.size w'.heap.size w' (.slice a1 rs.length k1) (.slice a2 rb.length k2) ⟨ri, rt, rv, rq, rw', rs, rb, rd⟩ ∧ Below w.heap.size w w' := h
theorem ec_sm {c : Cn} {op : List Pt} : (ecC c op).sn.length ≤ 60 ∧ (ecC c op).bf.length ≤ 60 := by
  unfold ecC
  by_cases h : ecB c op = true
  · rw [if_pos h]
    unfold ecB at h
    simp only [Bool.and_eq_true] at h
    obtain ⟨-, -, h1, h2⟩ := goodC_all h.2.2.2
    exact ⟨(goodO_le h1).1, (goodO_le h2).1⟩
  · rw [if_neg h]; exact ⟨by simp [zeroC], by simp [zeroC]⟩

set_option maxRecDepth 100000 in
set_option maxHeartbeats 8000000 in
theorem law_editClient (ic pc qc : Int) (tc : ByteArray) (bc dc : Bool) (vuc vrc : Value) (uc rc : List Pt) (vop : Value) (op : List Pt) (w : World) (hauc : ArgP w vuc uc) (harc : ArgP w vrc rc) (httc : tc.size ≤ 9223372036854775807) (hsuc : ThinP uc) (hsrc : ThinP rc) (haop : ArgP w vop op) (hsop : ThinP op) (hT : Tab w) :
    Calls Tryd.prog 3 #[.agg #[.int .i64 ic, .string tc, .int .i64 pc, .int .i64 qc, .bool bc, vuc, vrc, .bool dc], vop] w fun e w' => e = .returned (.bool true) ∧ Below w.heap.size w w' := by
  obtain ⟨auc, cuc, rfl⟩ := argP_shp hauc
  obtain ⟨arc, crc, rfl⟩ := argP_shp harc
  obtain ⟨aop, cop, rfl⟩ := argP_shp haop
  by_cases fsc : szKn tc uc rc ≤ 1048576
  · skip
    by_cases fsop : szPn op ≤ 1048576 - szKn tc uc rc
    · skip
      have hcuc : szPn uc ≤ 1048576 := by have q0 := fsc; unfold szKn at q0; omega
      have hcrc : szPn rc ≤ 1048576 := by have q0 := fsc; unfold szKn at q0; omega
      have hctc : tc.size ≤ 1048576 := by have q0 := fsc; unfold szKn at q0; omega
      have HAUc := hide hauc
      have HARc := hide harc
      have SZc := hide (fun w' (hb : Below w.heap.size w w') => szK_from (ci := ic) (cv := pc) (cq := qc) (cw := bc) (cd := dc) (hauc.later hb) (harc.later hb) httc hsuc hsrc (1048576) (by omega))
      simp only [if_pos fsc] at SZc
      have TCc := hide (fun w' (hb : Below w.heap.size w w') => toK (ci := ic) (ct := tc) (cv := pc) (cq := qc) (cw := bc) (cd := dc) (hauc.later hb) (harc.later hb) (by have := szPn_len uc; omega) (by have := szPn_len rc; omega))
      have BUc : Hid (uc.length ≤ 10000000) := hide (by have := szPn_len uc; omega)
      have BRc : Hid (rc.length ≤ 10000000) := hide (by have := szPn_len rc; omega)
      have MUc := szPn_len uc
      have MRc := szPn_len rc
      have hlop : op.length ≤ 1048576 := by have q0 := szPn_len op; omega
      have hsmop : ∀ j (hj : j < op.length), op[j].put.size ≤ 1048576 ∧ op[j].drop.size ≤ 1048576 := fun j hj => szP_each (B := 1048576) (by omega) j hj
      have SZop := hide (fun w' (hb : Below w.heap.size w w') => szP_from (haop.later hb) hsop (argP_len haop) (1048576 - szKn tc uc rc) (by omega))
      simp only [if_pos fsop] at SZop
      have TCop := hide (fun w' (hb : Below w.heap.size w w') => toP_cp (haop.later hb) (by omega))
      have HTb := hide hT
      have hB := hide (Below.refl w.heap.size w)
      clear hT
      have HS := hide (fun w' {lo hi : Nat} {vs vb vo : Value} (h : CnX lo hi w' vs vb ⟨ic, tc, pc, qc, bc, uc, rc, dc⟩) (hp : PR w' vo op) (hT : Tab w') => editClientS (h.cr ⟨by have := szPn_len uc; simp only; omega, fun j hj => szP_each (B := 1048576) (by omega) j hj⟩ ⟨by have := szPn_len rc; simp only; omega, fun j hj => szP_each (B := 1048576) (by omega) j hj⟩ hctc) hp ⟨hlop, hsmop⟩ (Nat.lt_of_le_of_lt (Nat.zero_le _) (Tab.lt hT)) hT)
      have HI := hide (fun w' {lo hi : Nat} {vs vb vo : Value} (h : CnX lo hi w' vs vb ⟨ic, tc, pc, qc, bc, uc, rc, dc⟩) (hp : PR w' vo op) (hT : Tab w') (hlo : 0 < lo) => editClientI (h.cr ⟨by have := szPn_len uc; simp only; omega, fun j hj => szP_each (B := 1048576) (by omega) j hj⟩ ⟨by have := szPn_len rc; simp only; omega, fun j hj => szP_each (B := 1048576) (by omega) j hj⟩ hctc) hp ⟨hlop, hsmop⟩ (Nat.lt_of_le_of_lt (Nat.zero_le _) (Tab.lt hT)) hT)
      obtain ⟨R0, hR0⟩ : ∃ R, ecC ⟨ic, tc, pc, qc, bc, uc, rc, dc⟩ op = R := ⟨_, rfl⟩
      obtain ⟨R1, hR1⟩ : ∃ R, ecB ⟨ic, tc, pc, qc, bc, uc, rc, dc⟩ op = R := ⟨_, rfl⟩
      simp only [hR0, hR1] at HS HI
      obtain ⟨ri, rt, rv, rq, rw', rs, rb, rd⟩ := R0
      have BQ1 : Hid (rs.length ≤ 10000000) := hide (by have := (Nat.le_trans (ec_sm (c := ⟨ic, tc, pc, qc, bc, uc, rc, dc⟩) (op := op)).1 (by omega : 60 ≤ 10000000)); rw [hR0] at this; exact this)
      have BQ2 : Hid (rb.length ≤ 10000000) := hide (by have := (Nat.le_trans (ec_sm (c := ⟨ic, tc, pc, qc, bc, uc, rc, dc⟩) (op := op)).2 (by omega : 60 ≤ 10000000)); rw [hR0] at this; exact this)
      have hKb : rs.length * 3 + rb.length * 3 ≤ 100000000 := by have := (show (ecC ⟨ic, tc, pc, qc, bc, uc, rc, dc⟩ op).sn.length * 3 + (ecC ⟨ic, tc, pc, qc, bc, uc, rc, dc⟩ op).bf.length * 3 ≤ 100000000 by have := ec_sm (c := ⟨ic, tc, pc, qc, bc, uc, rc, dc⟩) (op := op); omega); rw [hR0] at this; exact this
      clear hR0 hR1
      obtain ⟨Kc, hKc⟩ : ∃ K : Nat, 1048576 - szKn tc uc rc = K := ⟨_, rfl⟩
      rw [hKc] at SZc SZop fsop
      have e0c : decide ((Kc : Int) < 0) = false := by rw [decide_eq_false_iff_not]; omega
      obtain ⟨Kop, hKop⟩ : ∃ K : Nat, Kc - szPn op = K := ⟨_, rfl⟩
      rw [hKop] at SZop
      have e0op : decide ((Kop : Int) < 0) = false := by rw [decide_eq_false_iff_not]; omega
      have HMUc : Hid (uc.length * 3 + rc.length * 3 ≤ 10000000) := hide (by omega)
      clear hauc harc httc hsuc hsrc hcuc hcrc hctc MUc MRc haop hsop hsmop hKop fsop hKc fsc
      go_enter Tryd.func3, Tryd.ntmps3
      obtain ⟨w1, hw2⟩ : ∃ wq0, wq0 = w.alloc (.cells #[.int .i64 ic, .string tc, .int .i64 pc, .int .i64 qc, .bool bc, .slice auc uc.length cuc, .slice arc rc.length crc, .bool dc] 24) := ⟨_, rfl⟩
      have hb3 : Below w.heap.size w w1 := by rw [hw2]; exact (Below.refl _ _).alloc (Nat.le_refl _) _
      have e4 : Hid (w1.heap.size = w.heap.size + 1) := hide (by rw [hw2]; simp)
      have X5 : Hid (CB w1 w.heap.size #[.int .i64 ic, .string tc, .int .i64 pc, .int .i64 qc, .bool bc, .slice auc uc.length cuc, .slice arc rc.length crc, .bool dc]) := hide (by rw [hw2]; exact CB.new _ _ _)
      have z6 := hide hb3.size
      replace hB := hide (hB.out.trans (hb3.mono hB.out.size))
      clear hb3
      have SZ9 := hide (SZc.out w1 hB.out)
      go_wp2_with fail
      rw [← hw2]
      clear hw2
      refine (SZ9.out).mono ?_
      rintro e w7 ⟨rfl, hb8⟩
      clear SZ9
      replace X5 := hide (X5.out.later hb8)
      have z10 := hide hb8.size
      replace hB := hide (hB.out.trans (hb8.mono hB.out.size))
      clear hb8
      have SZ13 := hide (SZop.out w7 hB.out)
      go_wp2_with fail
      refine (SZ13.out).mono ?_
      rintro e w11 ⟨rfl, hb12⟩
      clear SZ13
      replace X5 := hide (X5.out.later hb12)
      have z14 := hide hb12.size
      replace hB := hide (hB.out.trans (hb12.mono hB.out.size))
      clear hb12
      have T20 := hide (TCc.out w11 hB.out)
      have k21 : w11.cell? ⟨w.heap.size, 0, none⟩ = some (.int .i64 ic) := X5.out.cell 0 rfl
      have k22 : w11.cell? ⟨w.heap.size, 1, none⟩ = some (.string tc) := X5.out.cell 1 rfl
      have k23 : w11.cell? ⟨w.heap.size, 2, none⟩ = some (.int .i64 pc) := X5.out.cell 2 rfl
      have k24 : w11.cell? ⟨w.heap.size, 3, none⟩ = some (.int .i64 qc) := X5.out.cell 3 rfl
      have k25 : w11.cell? ⟨w.heap.size, 4, none⟩ = some (.bool bc) := X5.out.cell 4 rfl
      have k26 : w11.cell? ⟨w.heap.size, 5, none⟩ = some (.slice auc uc.length cuc) := X5.out.cell 5 rfl
      have k27 : w11.cell? ⟨w.heap.size, 6, none⟩ = some (.slice arc rc.length crc) := X5.out.cell 6 rfl
      have k28 : w11.cell? ⟨w.heap.size, 7, none⟩ = some (.bool dc) := X5.out.cell 7 rfl
      go_wp2_with fail
      refine (T20.out).mono ?_
      rintro e w15 ⟨xu17, xr18, rfl, hx19, hb16⟩
      clear T20 k21 k22 k23 k24 k25 k26 k27 k28
      obtain ⟨axu17, cxu17, axr18, cxr18, rfl, rfl⟩ := hx19.shp2
      have P29 := hide hx19
      clear hx19
      replace X5 := hide (X5.out.later hb16)
      have z30 := hide hb16.size
      replace hB := hide (hB.out.trans (hb16.mono hB.out.size))
      clear hb16
      have T34 := hide (TCop.out w15 hB.out)
      go_wp2_with fail
      refine (T34.out).mono ?_
      rintro e w31 ⟨rfl, hx33, hb32⟩
      clear T34
      have Q35 := hide hx33
      have I36 : Hid (w15.heap.size < w31.heap.size) := hide hx33.lt
      clear hx33
      replace X5 := hide (X5.out.later hb32)
      replace P29 := hide (P29.out.later hb32)
      have z37 := hide hb32.size
      replace hB := hide (hB.out.trans (hb32.mono hB.out.size))
      clear hb32
      have H40 := hide (HS.out w31 P29.out (PR.cp Q35.out (by unfold maxLen; omega)) (HTb.out.below hB.out))
      go_wp2_with fail
      refine ((H40.out.mono (fun _ _ h => ec_ex h))).mono ?_
      rintro e w38 ⟨axux, cxux, axrx, cxrx, rfl, hx41, hb39⟩
      clear H40
      have P42 := hide hx41
      clear hx41
      replace X5 := hide (X5.out.later hb39)
      replace P29 := hide (P29.out.later hb39)
      replace Q35 := hide (Q35.out.later hb39)
      have z43 := hide hb39.size
      replace hB := hide (hB.out.trans (hb39.mono hB.out.size))
      clear hb39
      obtain ⟨w44, hw45⟩ : ∃ wq0, wq0 = w38.alloc (.cells #[.int .i64 ri, .string rt, .int .i64 rv, .int .i64 rq, .bool rw', .slice axux rs.length cxux, .slice axrx rb.length cxrx, .bool rd] 29) := ⟨_, rfl⟩
      have hb46 : Below w38.heap.size w38 w44 := by rw [hw45]; exact (Below.refl _ _).alloc (Nat.le_refl _) _
      have e47 : Hid (w44.heap.size = w38.heap.size + 1) := hide (by rw [hw45]; simp)
      have X48 : Hid (CB w44 w38.heap.size #[.int .i64 ri, .string rt, .int .i64 rv, .int .i64 rq, .bool rw', .slice axux rs.length cxux, .slice axrx rb.length cxrx, .bool rd]) := hide (by rw [hw45]; exact CB.new _ _ _)
      replace X5 := hide (X5.out.later hb46)
      replace P29 := hide (P29.out.later hb46)
      replace P42 := hide (P42.out.later hb46)
      replace Q35 := hide (Q35.out.later hb46)
      have z49 := hide hb46.size
      replace hB := hide (hB.out.trans (hb46.mono hB.out.size))
      clear hb46
      clear P29
      clear Q35
      have T55 := hide (TCc.out w44 hB.out)
      have k56 : w44.cell? ⟨w.heap.size, 0, none⟩ = some (.int .i64 ic) := X5.out.cell 0 rfl
      rw [hw45] at k56
      have k57 : w44.cell? ⟨w.heap.size, 1, none⟩ = some (.string tc) := X5.out.cell 1 rfl
      rw [hw45] at k57
      have k58 : w44.cell? ⟨w.heap.size, 2, none⟩ = some (.int .i64 pc) := X5.out.cell 2 rfl
      rw [hw45] at k58
      have k59 : w44.cell? ⟨w.heap.size, 3, none⟩ = some (.int .i64 qc) := X5.out.cell 3 rfl
      rw [hw45] at k59
      have k60 : w44.cell? ⟨w.heap.size, 4, none⟩ = some (.bool bc) := X5.out.cell 4 rfl
      rw [hw45] at k60
      have k61 : w44.cell? ⟨w.heap.size, 5, none⟩ = some (.slice auc uc.length cuc) := X5.out.cell 5 rfl
      rw [hw45] at k61
      have k62 : w44.cell? ⟨w.heap.size, 6, none⟩ = some (.slice arc rc.length crc) := X5.out.cell 6 rfl
      rw [hw45] at k62
      have k63 : w44.cell? ⟨w.heap.size, 7, none⟩ = some (.bool dc) := X5.out.cell 7 rfl
      rw [hw45] at k63
      go_wp2_with fail
      rw [← hw45]
      clear hw45
      refine (T55.out).mono ?_
      rintro e w50 ⟨xu52, xr53, rfl, hx54, hb51⟩
      clear T55 k56 k57 k58 k59 k60 k61 k62 k63
      obtain ⟨axu52, cxu52, axr53, cxr53, rfl, rfl⟩ := hx54.shp2
      have P64 := hide hx54
      clear hx54
      replace X5 := hide (X5.out.later hb51)
      replace X48 := hide (X48.out.later hb51)
      replace P42 := hide (P42.out.later hb51)
      have z65 := hide hb51.size
      replace hB := hide (hB.out.trans (hb51.mono hB.out.size))
      clear hb51
      obtain ⟨w66, hw67⟩ : ∃ wq0, wq0 = w50.alloc (.cells #[.int .i64 ic, .string tc, .int .i64 pc, .int .i64 qc, .bool bc, .slice axu52 uc.length cxu52, .slice axr53 rc.length cxr53, .bool dc] 29) := ⟨_, rfl⟩
      have hb68 : Below w50.heap.size w50 w66 := by rw [hw67]; exact (Below.refl _ _).alloc (Nat.le_refl _) _
      have e69 : Hid (w66.heap.size = w50.heap.size + 1) := hide (by rw [hw67]; simp)
      have X70 : Hid (CB w66 w50.heap.size #[.int .i64 ic, .string tc, .int .i64 pc, .int .i64 qc, .bool bc, .slice axu52 uc.length cxu52, .slice axr53 rc.length cxr53, .bool dc]) := hide (by rw [hw67]; exact CB.new _ _ _)
      replace X5 := hide (X5.out.later hb68)
      replace X48 := hide (X48.out.later hb68)
      replace P42 := hide (P42.out.later hb68)
      replace P64 := hide (P64.out.later hb68)
      have z71 := hide hb68.size
      replace hB := hide (hB.out.trans (hb68.mono hB.out.size))
      clear hb68
      have T75 := hide (TCop.out w66 hB.out)
      go_wp2_with fail
      rw [← hw67]
      clear hw67
      refine (T75.out).mono ?_
      rintro e w72 ⟨rfl, hx74, hb73⟩
      clear T75
      have Q76 := hide hx74
      have I77 : Hid (w66.heap.size < w72.heap.size) := hide hx74.lt
      clear hx74
      replace X5 := hide (X5.out.later hb73)
      replace X48 := hide (X48.out.later hb73)
      replace X70 := hide (X70.out.later hb73)
      replace P42 := hide (P42.out.later hb73)
      replace P64 := hide (P64.out.later hb73)
      have z78 := hide hb73.size
      replace hB := hide (hB.out.trans (hb73.mono hB.out.size))
      clear hb73
      have k79 : w72.cell? ⟨w50.heap.size, 0, none⟩ = some (.int .i64 ic) := X70.out.cell 0 rfl
      have k80 : w72.cell? ⟨w50.heap.size, 1, none⟩ = some (.string tc) := X70.out.cell 1 rfl
      have k81 : w72.cell? ⟨w50.heap.size, 2, none⟩ = some (.int .i64 pc) := X70.out.cell 2 rfl
      have k82 : w72.cell? ⟨w50.heap.size, 3, none⟩ = some (.int .i64 qc) := X70.out.cell 3 rfl
      have k83 : w72.cell? ⟨w50.heap.size, 4, none⟩ = some (.bool bc) := X70.out.cell 4 rfl
      have k84 : w72.cell? ⟨w50.heap.size, 5, none⟩ = some (.slice axu52 uc.length cxu52) := X70.out.cell 5 rfl
      have k85 : w72.cell? ⟨w50.heap.size, 6, none⟩ = some (.slice axr53 rc.length cxr53) := X70.out.cell 6 rfl
      have k86 : w72.cell? ⟨w50.heap.size, 7, none⟩ = some (.bool dc) := X70.out.cell 7 rfl
      have H89 := hide (HI.out w72 P64.out (PR.cp Q76.out (by unfold maxLen; omega)) (HTb.out.below hB.out) (by have q0 := HTb.out.lt; have q0 := z6.out; have q1 := e4.out; have q2 := z10.out; have q3 := z14.out; have q4 := z30.out; have q5 := z37.out; have q6 := I36.out; have q7 := z43.out; have q8 := z49.out; have q9 := e47.out; have q10 := z65.out; have q11 := z71.out; have q12 := e69.out; have q13 := z78.out; have q14 := I77.out; omega))
      go_wp2_with fail
      refine ((H89.out.mono (fun _ _ h => ec_ex h))).mono ?_
      rintro e w87 ⟨axuy, cxuy, axry, cxry, rfl, hx90, hb88⟩
      clear H89
      have P91 := hide hx90
      clear hx90
      replace X5 := hide (X5.out.later hb88)
      replace X48 := hide (X48.out.later hb88)
      replace X70 := hide (X70.out.later hb88)
      replace P42 := hide (P42.out.later hb88)
      replace P64 := hide (P64.out.later hb88)
      replace Q76 := hide (Q76.out.later hb88)
      have z92 := hide hb88.size
      replace hB := hide (hB.out.trans (hb88.mono hB.out.size))
      clear hb88
      obtain ⟨w93, hw94⟩ : ∃ wq0, wq0 = w87.alloc (.cells #[.int .i64 ri, .string rt, .int .i64 rv, .int .i64 rq, .bool rw', .slice axuy rs.length cxuy, .slice axry rb.length cxry, .bool rd] 29) := ⟨_, rfl⟩
      have hb95 : Below w87.heap.size w87 w93 := by rw [hw94]; exact (Below.refl _ _).alloc (Nat.le_refl _) _
      have e96 : Hid (w93.heap.size = w87.heap.size + 1) := hide (by rw [hw94]; simp)
      have X97 : Hid (CB w93 w87.heap.size #[.int .i64 ri, .string rt, .int .i64 rv, .int .i64 rq, .bool rw', .slice axuy rs.length cxuy, .slice axry rb.length cxry, .bool rd]) := hide (by rw [hw94]; exact CB.new _ _ _)
      replace X5 := hide (X5.out.later hb95)
      replace X48 := hide (X48.out.later hb95)
      replace X70 := hide (X70.out.later hb95)
      replace P42 := hide (P42.out.later hb95)
      replace P64 := hide (P64.out.later hb95)
      replace P91 := hide (P91.out.later hb95)
      replace Q76 := hide (Q76.out.later hb95)
      have z98 := hide hb95.size
      replace hB := hide (hB.out.trans (hb95.mono hB.out.size))
      clear hb95
      clear k79 k80 k81 k82 k83 k84 k85 k86
      have k102 : w93.cell? ⟨w87.heap.size, 0, none⟩ = some (.int .i64 ri) := X97.out.cell 0 rfl
      rw [hw94] at k102
      have k103 : w93.cell? ⟨w87.heap.size, 1, none⟩ = some (.string rt) := X97.out.cell 1 rfl
      rw [hw94] at k103
      have k104 : w93.cell? ⟨w87.heap.size, 2, none⟩ = some (.int .i64 rv) := X97.out.cell 2 rfl
      rw [hw94] at k104
      have k105 : w93.cell? ⟨w87.heap.size, 3, none⟩ = some (.int .i64 rq) := X97.out.cell 3 rfl
      rw [hw94] at k105
      have k106 : w93.cell? ⟨w87.heap.size, 4, none⟩ = some (.bool rw') := X97.out.cell 4 rfl
      rw [hw94] at k106
      have k107 : w93.cell? ⟨w87.heap.size, 5, none⟩ = some (.slice axuy rs.length cxuy) := X97.out.cell 5 rfl
      rw [hw94] at k107
      have k108 : w93.cell? ⟨w87.heap.size, 6, none⟩ = some (.slice axry rb.length cxry) := X97.out.cell 6 rfl
      rw [hw94] at k108
      have k109 : w93.cell? ⟨w87.heap.size, 7, none⟩ = some (.bool rd) := X97.out.cell 7 rfl
      rw [hw94] at k109
      have k110 : w93.cell? ⟨w38.heap.size, 0, none⟩ = some (.int .i64 ri) := X48.out.cell 0 rfl
      rw [hw94] at k110
      have k111 : w93.cell? ⟨w38.heap.size, 1, none⟩ = some (.string rt) := X48.out.cell 1 rfl
      rw [hw94] at k111
      have k112 : w93.cell? ⟨w38.heap.size, 2, none⟩ = some (.int .i64 rv) := X48.out.cell 2 rfl
      rw [hw94] at k112
      have k113 : w93.cell? ⟨w38.heap.size, 3, none⟩ = some (.int .i64 rq) := X48.out.cell 3 rfl
      rw [hw94] at k113
      have k114 : w93.cell? ⟨w38.heap.size, 4, none⟩ = some (.bool rw') := X48.out.cell 4 rfl
      rw [hw94] at k114
      have k115 : w93.cell? ⟨w38.heap.size, 5, none⟩ = some (.slice axux rs.length cxux) := X48.out.cell 5 rfl
      rw [hw94] at k115
      have k116 : w93.cell? ⟨w38.heap.size, 6, none⟩ = some (.slice axrx rb.length cxrx) := X48.out.cell 6 rfl
      rw [hw94] at k116
      have k117 : w93.cell? ⟨w38.heap.size, 7, none⟩ = some (.bool rd) := X48.out.cell 7 rfl
      rw [hw94] at k117
      have E101 := hide (eqKX P91.out P42.out BQ1.out BQ2.out)
      go_wp2_with fail
      rw [← hw94]
      clear hw94
      refine (E101.out).mono ?_
      rintro e w99 ⟨rfl, hb100⟩
      clear E101 k102 k103 k104 k105 k106 k107 k108 k109 k110 k111 k112 k113 k114 k115 k116 k117
      replace X5 := hide (X5.out.later hb100)
      replace X48 := hide (X48.out.later hb100)
      replace X70 := hide (X70.out.later hb100)
      replace X97 := hide (X97.out.later hb100)
      replace P42 := hide (P42.out.later hb100)
      replace P64 := hide (P64.out.later hb100)
      replace P91 := hide (P91.out.later hb100)
      replace Q76 := hide (Q76.out.later hb100)
      have z118 := hide hb100.size
      replace hB := hide (hB.out.trans (hb100.mono hB.out.size))
      clear hb100
      have KC119 : Hid (∀ w', Below w99.heap.size w99 w' → w'.cell? ⟨w50.heap.size, 0, none⟩ = some (.int .i64 ic) ∧ w'.cell? ⟨w50.heap.size, 1, none⟩ = some (.string tc) ∧ w'.cell? ⟨w50.heap.size, 2, none⟩ = some (.int .i64 pc) ∧ w'.cell? ⟨w50.heap.size, 3, none⟩ = some (.int .i64 qc) ∧ w'.cell? ⟨w50.heap.size, 4, none⟩ = some (.bool bc) ∧ w'.cell? ⟨w50.heap.size, 5, none⟩ = some (.slice axu52 uc.length cxu52) ∧ w'.cell? ⟨w50.heap.size, 6, none⟩ = some (.slice axr53 rc.length cxr53) ∧ w'.cell? ⟨w50.heap.size, 7, none⟩ = some (.bool dc) ∧ w'.cell? ⟨w.heap.size, 0, none⟩ = some (.int .i64 ic) ∧ w'.cell? ⟨w.heap.size, 1, none⟩ = some (.string tc) ∧ w'.cell? ⟨w.heap.size, 2, none⟩ = some (.int .i64 pc) ∧ w'.cell? ⟨w.heap.size, 3, none⟩ = some (.int .i64 qc) ∧ w'.cell? ⟨w.heap.size, 4, none⟩ = some (.bool bc) ∧ w'.cell? ⟨w.heap.size, 5, none⟩ = some (.slice auc uc.length cuc) ∧ w'.cell? ⟨w.heap.size, 6, none⟩ = some (.slice arc rc.length crc) ∧ w'.cell? ⟨w.heap.size, 7, none⟩ = some (.bool dc)) := hide (fun w' hb => ⟨(X70.out.later hb).cell 0 rfl, (X70.out.later hb).cell 1 rfl, (X70.out.later hb).cell 2 rfl, (X70.out.later hb).cell 3 rfl, (X70.out.later hb).cell 4 rfl, (X70.out.later hb).cell 5 rfl, (X70.out.later hb).cell 6 rfl, (X70.out.later hb).cell 7 rfl, (X5.out.later hb).cell 0 rfl, (X5.out.later hb).cell 1 rfl, (X5.out.later hb).cell 2 rfl, (X5.out.later hb).cell 3 rfl, (X5.out.later hb).cell 4 rfl, (X5.out.later hb).cell 5 rfl, (X5.out.later hb).cell 6 rfl, (X5.out.later hb).cell 7 rfl⟩)
      have CT120 := hide (fun w' (hb : Below w99.heap.size w99 w') => TCc.out w' (hB.out.trans (hb.mono hB.out.size)))
      have CX121 := hide (fun w' (hb : Below w99.heap.size w99 w') => P64.out.later hb)
      go_wp2_with fail
      go_region_held3 (fun w' => w'.cell? ⟨w50.heap.size, 0, none⟩ = some (.int .i64 ic) ∧ w'.cell? ⟨w50.heap.size, 1, none⟩ = some (.string tc) ∧ w'.cell? ⟨w50.heap.size, 2, none⟩ = some (.int .i64 pc) ∧ w'.cell? ⟨w50.heap.size, 3, none⟩ = some (.int .i64 qc) ∧ w'.cell? ⟨w50.heap.size, 4, none⟩ = some (.bool bc) ∧ w'.cell? ⟨w50.heap.size, 5, none⟩ = some (.slice axu52 uc.length cxu52) ∧ w'.cell? ⟨w50.heap.size, 6, none⟩ = some (.slice axr53 rc.length cxr53) ∧ w'.cell? ⟨w50.heap.size, 7, none⟩ = some (.bool dc) ∧ w'.cell? ⟨w.heap.size, 0, none⟩ = some (.int .i64 ic) ∧ w'.cell? ⟨w.heap.size, 1, none⟩ = some (.string tc) ∧ w'.cell? ⟨w.heap.size, 2, none⟩ = some (.int .i64 pc) ∧ w'.cell? ⟨w.heap.size, 3, none⟩ = some (.int .i64 qc) ∧ w'.cell? ⟨w.heap.size, 4, none⟩ = some (.bool bc) ∧ w'.cell? ⟨w.heap.size, 5, none⟩ = some (.slice auc uc.length cuc) ∧ w'.cell? ⟨w.heap.size, 6, none⟩ = some (.slice arc rc.length crc) ∧ w'.cell? ⟨w.heap.size, 7, none⟩ = some (.bool dc))
        (first | assumption | exact KC119.out _ (Below.refl _ _) | exact KC119.out _ (Below.refl _ _).drew | exact KC119.out _ hbq2 | exact KC119.out _ hbq1)
        (first
          | (go_at_call 12; refine (eqKX (CX121.out wq1 hbq1) cpq.out BUc.out BRc.out).mono ?_; rintro e wq2 ⟨rfl, hq2⟩; have hbq2 : Below w99.heap.size w99 wq2 := hbq1.trans (hq2.mono hbq1.size); clear hq2)
          | (go_at_call 9; refine (CT120.out _ (Below.refl _ _).drew).mono ?_; rintro e wq1 ⟨xuq, xrq, rfl, cpq0, hq1⟩; obtain ⟨axuq, cxuq, axrq, cxrq, rfl, rfl⟩ := cpq0.shp2; have cpq := hide cpq0; have hbq1 : Below w99.heap.size w99 wq1 := (Below.refl _ _).drew.trans hq1; clear hq1 cpq0))
      clear cpq hbq1 KC119 CT120 CX121
      replace X5 := hide (X5.out.later hbq2)
      replace X48 := hide (X48.out.later hbq2)
      replace X70 := hide (X70.out.later hbq2)
      replace X97 := hide (X97.out.later hbq2)
      replace P42 := hide (P42.out.later hbq2)
      replace P64 := hide (P64.out.later hbq2)
      replace P91 := hide (P91.out.later hbq2)
      replace Q76 := hide (Q76.out.later hbq2)
      have z122 := hide hbq2.size
      replace hB := hide (hB.out.trans (hbq2.mono hB.out.size))
      clear hbq2
      have T126 := hide (TCop.out wq2 hB.out)
      go_wp2_with fail
      refine (T126.out).mono ?_
      rintro e w123 ⟨rfl, hx125, hb124⟩
      clear T126
      have Q127 := hide hx125
      have I128 : Hid (wq2.heap.size < w123.heap.size) := hide hx125.lt
      clear hx125
      replace X5 := hide (X5.out.later hb124)
      replace X48 := hide (X48.out.later hb124)
      replace X70 := hide (X70.out.later hb124)
      replace X97 := hide (X97.out.later hb124)
      replace P42 := hide (P42.out.later hb124)
      replace P64 := hide (P64.out.later hb124)
      replace P91 := hide (P91.out.later hb124)
      replace Q76 := hide (Q76.out.later hb124)
      have z129 := hide hb124.size
      replace hB := hide (hB.out.trans (hb124.mono hB.out.size))
      clear hb124
      have E132 := hide (eqP_cp Q76.out Q127.out (by omega))
      go_wp2_with fail
      refine (E132.out).mono ?_
      rintro e w130 ⟨rfl, hb131⟩
      clear E132
      replace X5 := hide (X5.out.later hb131)
      replace X48 := hide (X48.out.later hb131)
      replace X70 := hide (X70.out.later hb131)
      replace X97 := hide (X97.out.later hb131)
      replace P42 := hide (P42.out.later hb131)
      replace P64 := hide (P64.out.later hb131)
      replace P91 := hide (P91.out.later hb131)
      replace Q76 := hide (Q76.out.later hb131)
      replace Q127 := hide (Q127.out.later hb131)
      have z133 := hide hb131.size
      replace hB := hide (hB.out.trans (hb131.mono hB.out.size))
      clear hb131
      clear Q127
      have k138 : w130.cell? ⟨w50.heap.size, 0, none⟩ = some (.int .i64 ic) := X70.out.cell 0 rfl
      have k139 : w130.cell? ⟨w50.heap.size, 1, none⟩ = some (.string tc) := X70.out.cell 1 rfl
      have k140 : w130.cell? ⟨w50.heap.size, 2, none⟩ = some (.int .i64 pc) := X70.out.cell 2 rfl
      have k141 : w130.cell? ⟨w50.heap.size, 3, none⟩ = some (.int .i64 qc) := X70.out.cell 3 rfl
      have k142 : w130.cell? ⟨w50.heap.size, 4, none⟩ = some (.bool bc) := X70.out.cell 4 rfl
      have k143 : w130.cell? ⟨w50.heap.size, 5, none⟩ = some (.slice axu52 uc.length cxu52) := X70.out.cell 5 rfl
      have k144 : w130.cell? ⟨w50.heap.size, 6, none⟩ = some (.slice axr53 rc.length cxr53) := X70.out.cell 6 rfl
      have k145 : w130.cell? ⟨w50.heap.size, 7, none⟩ = some (.bool dc) := X70.out.cell 7 rfl
      have M136 := hide (markKX P64.out (by have q0 := z6.out; have q1 := e4.out; have q2 := z10.out; have q3 := z14.out; have q4 := z30.out; have q5 := z37.out; have q6 := I36.out; have q7 := z43.out; have q8 := z49.out; have q9 := e47.out; have q10 := z65.out; have q11 := z71.out; have q12 := e69.out; have q13 := z78.out; have q14 := I77.out; have q15 := z92.out; have q16 := z98.out; have q17 := e96.out; have q18 := z118.out; have q19 := z122.out; have q20 := z129.out; have q21 := I128.out; have q22 := z133.out; omega) BUc.out BRc.out (1) ⟨by omega, by have := HMUc.out; omega⟩)
      obtain ⟨KK0, hKK0⟩ : ∃ KK : Nat, 1 + uc.length * 3 + rc.length * 3 = KK := ⟨_, rfl⟩
      rw [hKK0] at M136
      have hKb0 : 0 < KK0 ∧ KK0 ≤ 20000000 := by have := HMUc.out; omega
      clear hKK0
      go_wp2_with fail
      refine (M136.out).mono ?_
      rintro e w134 ⟨rfl, ho135, -⟩
      clear M136 k138 k139 k140 k141 k142 k143 k144 k145
      clear P64
      replace X5 := hide (X5.out.outI ho135 (by have q0 := z6.out; have q1 := e4.out; have q2 := z10.out; have q3 := z14.out; have q4 := z30.out; have q5 := z37.out; have q6 := I36.out; have q7 := z43.out; have q8 := z49.out; have q9 := e47.out; have q10 := z65.out; have q11 := z71.out; have q12 := e69.out; have q13 := z78.out; have q14 := I77.out; have q15 := z92.out; have q16 := z98.out; have q17 := e96.out; have q18 := z118.out; have q19 := z122.out; have q20 := z129.out; have q21 := I128.out; have q22 := z133.out; omega))
      replace X48 := hide (X48.out.outI ho135 (by have q0 := z6.out; have q1 := e4.out; have q2 := z10.out; have q3 := z14.out; have q4 := z30.out; have q5 := z37.out; have q6 := I36.out; have q7 := z43.out; have q8 := z49.out; have q9 := e47.out; have q10 := z65.out; have q11 := z71.out; have q12 := e69.out; have q13 := z78.out; have q14 := I77.out; have q15 := z92.out; have q16 := z98.out; have q17 := e96.out; have q18 := z118.out; have q19 := z122.out; have q20 := z129.out; have q21 := I128.out; have q22 := z133.out; omega))
      replace X70 := hide (X70.out.outI ho135 (by have q0 := z6.out; have q1 := e4.out; have q2 := z10.out; have q3 := z14.out; have q4 := z30.out; have q5 := z37.out; have q6 := I36.out; have q7 := z43.out; have q8 := z49.out; have q9 := e47.out; have q10 := z65.out; have q11 := z71.out; have q12 := e69.out; have q13 := z78.out; have q14 := I77.out; have q15 := z92.out; have q16 := z98.out; have q17 := e96.out; have q18 := z118.out; have q19 := z122.out; have q20 := z129.out; have q21 := I128.out; have q22 := z133.out; omega))
      replace X97 := hide (X97.out.outI ho135 (by have q0 := z6.out; have q1 := e4.out; have q2 := z10.out; have q3 := z14.out; have q4 := z30.out; have q5 := z37.out; have q6 := I36.out; have q7 := z43.out; have q8 := z49.out; have q9 := e47.out; have q10 := z65.out; have q11 := z71.out; have q12 := e69.out; have q13 := z78.out; have q14 := I77.out; have q15 := z92.out; have q16 := z98.out; have q17 := e96.out; have q18 := z118.out; have q19 := z122.out; have q20 := z129.out; have q21 := I128.out; have q22 := z133.out; omega))
      replace P42 := hide (P42.out.out ho135 (by have q0 := z6.out; have q1 := e4.out; have q2 := z10.out; have q3 := z14.out; have q4 := z30.out; have q5 := z37.out; have q6 := I36.out; have q7 := z43.out; have q8 := z49.out; have q9 := e47.out; have q10 := z65.out; have q11 := z71.out; have q12 := e69.out; have q13 := z78.out; have q14 := I77.out; have q15 := z92.out; have q16 := z98.out; have q17 := e96.out; have q18 := z118.out; have q19 := z122.out; have q20 := z129.out; have q21 := I128.out; have q22 := z133.out; omega))
      replace P91 := hide (P91.out.out ho135 (by have q0 := z6.out; have q1 := e4.out; have q2 := z10.out; have q3 := z14.out; have q4 := z30.out; have q5 := z37.out; have q6 := I36.out; have q7 := z43.out; have q8 := z49.out; have q9 := e47.out; have q10 := z65.out; have q11 := z71.out; have q12 := e69.out; have q13 := z78.out; have q14 := I77.out; have q15 := z92.out; have q16 := z98.out; have q17 := e96.out; have q18 := z118.out; have q19 := z122.out; have q20 := z129.out; have q21 := I128.out; have q22 := z133.out; omega))
      replace Q76 := hide (Q76.out.outI ho135 (by have q0 := z6.out; have q1 := e4.out; have q2 := z10.out; have q3 := z14.out; have q4 := z30.out; have q5 := z37.out; have q6 := I36.out; have q7 := z43.out; have q8 := z49.out; have q9 := e47.out; have q10 := z65.out; have q11 := z71.out; have q12 := e69.out; have q13 := z78.out; have q14 := I77.out; have q15 := z92.out; have q16 := z98.out; have q17 := e96.out; have q18 := z118.out; have q19 := z122.out; have q20 := z129.out; have q21 := I128.out; have q22 := z133.out; omega))
      have z146 := hide ho135.size
      replace hB := hide (hB.out.trans (ho135.to (fun k hk => by have u0 := hk.1; have q0 := z6.out; have q1 := e4.out; have q2 := z10.out; have q3 := z14.out; have q4 := z30.out; have q5 := z37.out; have q6 := I36.out; have q7 := z43.out; have q8 := z49.out; have q9 := e47.out; have q10 := z65.out; have q11 := z71.out; have q12 := e69.out; have q13 := z78.out; have q14 := I77.out; have q15 := z92.out; have q16 := z98.out; have q17 := e96.out; have q18 := z118.out; have q19 := z122.out; have q20 := z129.out; have q21 := I128.out; have q22 := z133.out; omega) hB.out.size))
      clear ho135
      have M149 := hide (markP_from Q76.out (by omega) (KK0) ⟨by omega, by omega⟩)
      obtain ⟨KK1, hKK1⟩ : ∃ KK : Nat, KK0 + op.length * 3 = KK := ⟨_, rfl⟩
      rw [hKK1] at M149
      have hKb1 : 0 < KK1 ∧ KK1 ≤ 40000000 := by have := HMUc.out; omega
      clear hKK1
      have ek0 : decide ((KK1 : Int) < 0) = false := by rw [decide_eq_false_iff_not]; omega
      go_wp2_with fail
      refine (M149.out).mono ?_
      rintro e w147 ⟨rfl, hg151⟩
      clear M149
      clear Q76
      have ho148 : Out (Iv w66.heap.size (w66.heap.size + 1)) w134 w147 := Out.grown hg151 (fun y e => by have u0 := Option.some.inj e; exact ⟨by omega, by omega⟩)
      clear hg151
      replace X5 := hide (X5.out.outI ho148 (by have q0 := z6.out; have q1 := e4.out; have q2 := z10.out; have q3 := z14.out; have q4 := z30.out; have q5 := z37.out; have q6 := I36.out; have q7 := z43.out; have q8 := z49.out; have q9 := e47.out; have q10 := z65.out; have q11 := z71.out; have q12 := e69.out; have q13 := z78.out; have q14 := I77.out; have q15 := z92.out; have q16 := z98.out; have q17 := e96.out; have q18 := z118.out; have q19 := z122.out; have q20 := z129.out; have q21 := I128.out; have q22 := z133.out; have q23 := z146.out; omega))
      replace X48 := hide (X48.out.outI ho148 (by have q0 := z6.out; have q1 := e4.out; have q2 := z10.out; have q3 := z14.out; have q4 := z30.out; have q5 := z37.out; have q6 := I36.out; have q7 := z43.out; have q8 := z49.out; have q9 := e47.out; have q10 := z65.out; have q11 := z71.out; have q12 := e69.out; have q13 := z78.out; have q14 := I77.out; have q15 := z92.out; have q16 := z98.out; have q17 := e96.out; have q18 := z118.out; have q19 := z122.out; have q20 := z129.out; have q21 := I128.out; have q22 := z133.out; have q23 := z146.out; omega))
      replace X70 := hide (X70.out.outI ho148 (by have q0 := z6.out; have q1 := e4.out; have q2 := z10.out; have q3 := z14.out; have q4 := z30.out; have q5 := z37.out; have q6 := I36.out; have q7 := z43.out; have q8 := z49.out; have q9 := e47.out; have q10 := z65.out; have q11 := z71.out; have q12 := e69.out; have q13 := z78.out; have q14 := I77.out; have q15 := z92.out; have q16 := z98.out; have q17 := e96.out; have q18 := z118.out; have q19 := z122.out; have q20 := z129.out; have q21 := I128.out; have q22 := z133.out; have q23 := z146.out; omega))
      replace X97 := hide (X97.out.outI ho148 (by have q0 := z6.out; have q1 := e4.out; have q2 := z10.out; have q3 := z14.out; have q4 := z30.out; have q5 := z37.out; have q6 := I36.out; have q7 := z43.out; have q8 := z49.out; have q9 := e47.out; have q10 := z65.out; have q11 := z71.out; have q12 := e69.out; have q13 := z78.out; have q14 := I77.out; have q15 := z92.out; have q16 := z98.out; have q17 := e96.out; have q18 := z118.out; have q19 := z122.out; have q20 := z129.out; have q21 := I128.out; have q22 := z133.out; have q23 := z146.out; omega))
      replace P42 := hide (P42.out.out ho148 (by have q0 := z6.out; have q1 := e4.out; have q2 := z10.out; have q3 := z14.out; have q4 := z30.out; have q5 := z37.out; have q6 := I36.out; have q7 := z43.out; have q8 := z49.out; have q9 := e47.out; have q10 := z65.out; have q11 := z71.out; have q12 := e69.out; have q13 := z78.out; have q14 := I77.out; have q15 := z92.out; have q16 := z98.out; have q17 := e96.out; have q18 := z118.out; have q19 := z122.out; have q20 := z129.out; have q21 := I128.out; have q22 := z133.out; have q23 := z146.out; omega))
      replace P91 := hide (P91.out.out ho148 (by have q0 := z6.out; have q1 := e4.out; have q2 := z10.out; have q3 := z14.out; have q4 := z30.out; have q5 := z37.out; have q6 := I36.out; have q7 := z43.out; have q8 := z49.out; have q9 := e47.out; have q10 := z65.out; have q11 := z71.out; have q12 := e69.out; have q13 := z78.out; have q14 := I77.out; have q15 := z92.out; have q16 := z98.out; have q17 := e96.out; have q18 := z118.out; have q19 := z122.out; have q20 := z129.out; have q21 := I128.out; have q22 := z133.out; have q23 := z146.out; omega))
      have z152 := hide ho148.size
      replace hB := hide (hB.out.trans (ho148.to (fun k hk => by have u0 := hk.1; have q0 := z6.out; have q1 := e4.out; have q2 := z10.out; have q3 := z14.out; have q4 := z30.out; have q5 := z37.out; have q6 := I36.out; have q7 := z43.out; have q8 := z49.out; have q9 := e47.out; have q10 := z65.out; have q11 := z71.out; have q12 := e69.out; have q13 := z78.out; have q14 := I77.out; have q15 := z92.out; have q16 := z98.out; have q17 := e96.out; have q18 := z118.out; have q19 := z122.out; have q20 := z129.out; have q21 := I128.out; have q22 := z133.out; have q23 := z146.out; omega) hB.out.size))
      clear ho148
      have k156 : w147.cell? ⟨w87.heap.size, 0, none⟩ = some (.int .i64 ri) := X97.out.cell 0 rfl
      have k157 : w147.cell? ⟨w87.heap.size, 1, none⟩ = some (.string rt) := X97.out.cell 1 rfl
      have k158 : w147.cell? ⟨w87.heap.size, 2, none⟩ = some (.int .i64 rv) := X97.out.cell 2 rfl
      have k159 : w147.cell? ⟨w87.heap.size, 3, none⟩ = some (.int .i64 rq) := X97.out.cell 3 rfl
      have k160 : w147.cell? ⟨w87.heap.size, 4, none⟩ = some (.bool rw') := X97.out.cell 4 rfl
      have k161 : w147.cell? ⟨w87.heap.size, 5, none⟩ = some (.slice axuy rs.length cxuy) := X97.out.cell 5 rfl
      have k162 : w147.cell? ⟨w87.heap.size, 6, none⟩ = some (.slice axry rb.length cxry) := X97.out.cell 6 rfl
      have k163 : w147.cell? ⟨w87.heap.size, 7, none⟩ = some (.bool rd) := X97.out.cell 7 rfl
      have k164 : w147.cell? ⟨w38.heap.size, 0, none⟩ = some (.int .i64 ri) := X48.out.cell 0 rfl
      have k165 : w147.cell? ⟨w38.heap.size, 1, none⟩ = some (.string rt) := X48.out.cell 1 rfl
      have k166 : w147.cell? ⟨w38.heap.size, 2, none⟩ = some (.int .i64 rv) := X48.out.cell 2 rfl
      have k167 : w147.cell? ⟨w38.heap.size, 3, none⟩ = some (.int .i64 rq) := X48.out.cell 3 rfl
      have k168 : w147.cell? ⟨w38.heap.size, 4, none⟩ = some (.bool rw') := X48.out.cell 4 rfl
      have k169 : w147.cell? ⟨w38.heap.size, 5, none⟩ = some (.slice axux rs.length cxux) := X48.out.cell 5 rfl
      have k170 : w147.cell? ⟨w38.heap.size, 6, none⟩ = some (.slice axrx rb.length cxrx) := X48.out.cell 6 rfl
      have k171 : w147.cell? ⟨w38.heap.size, 7, none⟩ = some (.bool rd) := X48.out.cell 7 rfl
      have E155 := hide (eqKX P91.out P42.out BQ1.out BQ2.out)
      go_wp2_with fail
      refine (E155.out).mono ?_
      rintro e w153 ⟨rfl, hb154⟩
      clear E155 k156 k157 k158 k159 k160 k161 k162 k163 k164 k165 k166 k167 k168 k169 k170 k171
      replace X5 := hide (X5.out.later hb154)
      replace X48 := hide (X48.out.later hb154)
      replace X70 := hide (X70.out.later hb154)
      replace X97 := hide (X97.out.later hb154)
      replace P42 := hide (P42.out.later hb154)
      replace P91 := hide (P91.out.later hb154)
      have z172 := hide hb154.size
      replace hB := hide (hB.out.trans (hb154.mono hB.out.size))
      clear hb154
      have k177 : w153.cell? ⟨w87.heap.size, 0, none⟩ = some (.int .i64 ri) := X97.out.cell 0 rfl
      have k178 : w153.cell? ⟨w87.heap.size, 1, none⟩ = some (.string rt) := X97.out.cell 1 rfl
      have k179 : w153.cell? ⟨w87.heap.size, 2, none⟩ = some (.int .i64 rv) := X97.out.cell 2 rfl
      have k180 : w153.cell? ⟨w87.heap.size, 3, none⟩ = some (.int .i64 rq) := X97.out.cell 3 rfl
      have k181 : w153.cell? ⟨w87.heap.size, 4, none⟩ = some (.bool rw') := X97.out.cell 4 rfl
      have k182 : w153.cell? ⟨w87.heap.size, 5, none⟩ = some (.slice axuy rs.length cxuy) := X97.out.cell 5 rfl
      have k183 : w153.cell? ⟨w87.heap.size, 6, none⟩ = some (.slice axry rb.length cxry) := X97.out.cell 6 rfl
      have k184 : w153.cell? ⟨w87.heap.size, 7, none⟩ = some (.bool rd) := X97.out.cell 7 rfl
      have M175 := hide (markKX P91.out (by have q0 := z6.out; have q1 := e4.out; have q2 := z10.out; have q3 := z14.out; have q4 := z30.out; have q5 := z37.out; have q6 := I36.out; have q7 := z43.out; have q8 := z49.out; have q9 := e47.out; have q10 := z65.out; have q11 := z71.out; have q12 := e69.out; have q13 := z78.out; have q14 := I77.out; have q15 := z92.out; have q16 := z98.out; have q17 := e96.out; have q18 := z118.out; have q19 := z122.out; have q20 := z129.out; have q21 := I128.out; have q22 := z133.out; have q23 := z146.out; have q24 := z152.out; have q25 := z172.out; omega) BQ1.out BQ2.out 1 ⟨by omega, by omega⟩)
      have em0 : decide (((1 + rs.length * 3 + rb.length * 3 : Nat) : Int) < 0) = false := by rw [decide_eq_false_iff_not]; omega
      obtain ⟨KM, hKM⟩ : ∃ KM : Int, ((1 + rs.length * 3 + rb.length * 3 : Nat) : Int) = KM := ⟨_, rfl⟩
      rw [hKM] at em0 M175
      have HKM := hide hKM
      clear hKM
      have em1 : (KM != KM) = false := by simp
      go_wp2_with fail
      refine (M175.out).mono ?_
      rintro e w173 ⟨rfl, ho174, mk176⟩
      clear M175 k177 k178 k179 k180 k181 k182 k183 k184
      clear P91
      replace X5 := hide (X5.out.outI ho174 (by have q0 := z6.out; have q1 := e4.out; have q2 := z10.out; have q3 := z14.out; have q4 := z30.out; have q5 := z37.out; have q6 := I36.out; have q7 := z43.out; have q8 := z49.out; have q9 := e47.out; have q10 := z65.out; have q11 := z71.out; have q12 := e69.out; have q13 := z78.out; have q14 := I77.out; have q15 := z92.out; have q16 := z98.out; have q17 := e96.out; have q18 := z118.out; have q19 := z122.out; have q20 := z129.out; have q21 := I128.out; have q22 := z133.out; have q23 := z146.out; have q24 := z152.out; have q25 := z172.out; omega))
      replace X48 := hide (X48.out.outI ho174 (by have q0 := z6.out; have q1 := e4.out; have q2 := z10.out; have q3 := z14.out; have q4 := z30.out; have q5 := z37.out; have q6 := I36.out; have q7 := z43.out; have q8 := z49.out; have q9 := e47.out; have q10 := z65.out; have q11 := z71.out; have q12 := e69.out; have q13 := z78.out; have q14 := I77.out; have q15 := z92.out; have q16 := z98.out; have q17 := e96.out; have q18 := z118.out; have q19 := z122.out; have q20 := z129.out; have q21 := I128.out; have q22 := z133.out; have q23 := z146.out; have q24 := z152.out; have q25 := z172.out; omega))
      replace X70 := hide (X70.out.outI ho174 (by have q0 := z6.out; have q1 := e4.out; have q2 := z10.out; have q3 := z14.out; have q4 := z30.out; have q5 := z37.out; have q6 := I36.out; have q7 := z43.out; have q8 := z49.out; have q9 := e47.out; have q10 := z65.out; have q11 := z71.out; have q12 := e69.out; have q13 := z78.out; have q14 := I77.out; have q15 := z92.out; have q16 := z98.out; have q17 := e96.out; have q18 := z118.out; have q19 := z122.out; have q20 := z129.out; have q21 := I128.out; have q22 := z133.out; have q23 := z146.out; have q24 := z152.out; have q25 := z172.out; omega))
      replace X97 := hide (X97.out.outI ho174 (by have q0 := z6.out; have q1 := e4.out; have q2 := z10.out; have q3 := z14.out; have q4 := z30.out; have q5 := z37.out; have q6 := I36.out; have q7 := z43.out; have q8 := z49.out; have q9 := e47.out; have q10 := z65.out; have q11 := z71.out; have q12 := e69.out; have q13 := z78.out; have q14 := I77.out; have q15 := z92.out; have q16 := z98.out; have q17 := e96.out; have q18 := z118.out; have q19 := z122.out; have q20 := z129.out; have q21 := I128.out; have q22 := z133.out; have q23 := z146.out; have q24 := z152.out; have q25 := z172.out; omega))
      replace P42 := hide (P42.out.out ho174 (by have q0 := z6.out; have q1 := e4.out; have q2 := z10.out; have q3 := z14.out; have q4 := z30.out; have q5 := z37.out; have q6 := I36.out; have q7 := z43.out; have q8 := z49.out; have q9 := e47.out; have q10 := z65.out; have q11 := z71.out; have q12 := e69.out; have q13 := z78.out; have q14 := I77.out; have q15 := z92.out; have q16 := z98.out; have q17 := e96.out; have q18 := z118.out; have q19 := z122.out; have q20 := z129.out; have q21 := I128.out; have q22 := z133.out; have q23 := z146.out; have q24 := z152.out; have q25 := z172.out; omega))
      have z185 := hide ho174.size
      replace hB := hide (hB.out.trans (ho174.to (fun k hk => by have u0 := hk.1; have q0 := z6.out; have q1 := e4.out; have q2 := z10.out; have q3 := z14.out; have q4 := z30.out; have q5 := z37.out; have q6 := I36.out; have q7 := z43.out; have q8 := z49.out; have q9 := e47.out; have q10 := z65.out; have q11 := z71.out; have q12 := e69.out; have q13 := z78.out; have q14 := I77.out; have q15 := z92.out; have q16 := z98.out; have q17 := e96.out; have q18 := z118.out; have q19 := z122.out; have q20 := z129.out; have q21 := I128.out; have q22 := z133.out; have q23 := z146.out; have q24 := z152.out; have q25 := z172.out; omega) hB.out.size))
      clear ho174
      have Y186 := hide mk176
      clear mk176
      have k190 : w173.cell? ⟨w87.heap.size, 0, none⟩ = some (.int .i64 ri) := X97.out.cell 0 rfl
      have k191 : w173.cell? ⟨w87.heap.size, 1, none⟩ = some (.string rt) := X97.out.cell 1 rfl
      have k192 : w173.cell? ⟨w87.heap.size, 2, none⟩ = some (.int .i64 rv) := X97.out.cell 2 rfl
      have k193 : w173.cell? ⟨w87.heap.size, 3, none⟩ = some (.int .i64 rq) := X97.out.cell 3 rfl
      have k194 : w173.cell? ⟨w87.heap.size, 4, none⟩ = some (.bool rw') := X97.out.cell 4 rfl
      have k195 : w173.cell? ⟨w87.heap.size, 5, none⟩ = some (.slice axuy rs.length cxuy) := X97.out.cell 5 rfl
      have k196 : w173.cell? ⟨w87.heap.size, 6, none⟩ = some (.slice axry rb.length cxry) := X97.out.cell 6 rfl
      have k197 : w173.cell? ⟨w87.heap.size, 7, none⟩ = some (.bool rd) := X97.out.cell 7 rfl
      have D189 := hide (heldKX (ci := ri) (ct := rt) (cv := rv) (cq := rq) (cw := rw') (cd := rd) Y186.out BQ1.out BQ2.out ⟨by omega, by omega⟩)
      rw [HKM.out] at D189
      go_wp2_with fail
      refine (D189.out).mono ?_
      rintro e w187 ⟨rfl, hb188⟩
      clear D189 k190 k191 k192 k193 k194 k195 k196 k197
      replace X5 := hide (X5.out.later hb188)
      replace X48 := hide (X48.out.later hb188)
      replace X70 := hide (X70.out.later hb188)
      replace X97 := hide (X97.out.later hb188)
      replace P42 := hide (P42.out.later hb188)
      replace Y186 := hide (Y186.out.later hb188)
      have z198 := hide hb188.size
      replace hB := hide (hB.out.trans (hb188.mono hB.out.size))
      clear hb188
      have T204 := hide (TCc.out w187 hB.out)
      have k205 : w187.cell? ⟨w.heap.size, 0, none⟩ = some (.int .i64 ic) := X5.out.cell 0 rfl
      have k206 : w187.cell? ⟨w.heap.size, 1, none⟩ = some (.string tc) := X5.out.cell 1 rfl
      have k207 : w187.cell? ⟨w.heap.size, 2, none⟩ = some (.int .i64 pc) := X5.out.cell 2 rfl
      have k208 : w187.cell? ⟨w.heap.size, 3, none⟩ = some (.int .i64 qc) := X5.out.cell 3 rfl
      have k209 : w187.cell? ⟨w.heap.size, 4, none⟩ = some (.bool bc) := X5.out.cell 4 rfl
      have k210 : w187.cell? ⟨w.heap.size, 5, none⟩ = some (.slice auc uc.length cuc) := X5.out.cell 5 rfl
      have k211 : w187.cell? ⟨w.heap.size, 6, none⟩ = some (.slice arc rc.length crc) := X5.out.cell 6 rfl
      have k212 : w187.cell? ⟨w.heap.size, 7, none⟩ = some (.bool dc) := X5.out.cell 7 rfl
      go_wp2_with fail
      refine (T204.out).mono ?_
      rintro e w199 ⟨xu201, xr202, rfl, hx203, hb200⟩
      clear T204 k205 k206 k207 k208 k209 k210 k211 k212
      obtain ⟨axu201, cxu201, axr202, cxr202, rfl, rfl⟩ := hx203.shp2
      have P213 := hide hx203
      clear hx203
      replace X5 := hide (X5.out.later hb200)
      replace X48 := hide (X48.out.later hb200)
      replace X70 := hide (X70.out.later hb200)
      replace X97 := hide (X97.out.later hb200)
      replace P42 := hide (P42.out.later hb200)
      replace Y186 := hide (Y186.out.later hb200)
      have z214 := hide hb200.size
      replace hB := hide (hB.out.trans (hb200.mono hB.out.size))
      clear hb200
      have T218 := hide (TCop.out w199 hB.out)
      go_wp2_with fail
      refine (T218.out).mono ?_
      rintro e w215 ⟨rfl, hx217, hb216⟩
      clear T218
      have Q219 := hide hx217
      have I220 : Hid (w199.heap.size < w215.heap.size) := hide hx217.lt
      clear hx217
      replace X5 := hide (X5.out.later hb216)
      replace X48 := hide (X48.out.later hb216)
      replace X70 := hide (X70.out.later hb216)
      replace X97 := hide (X97.out.later hb216)
      replace P42 := hide (P42.out.later hb216)
      replace P213 := hide (P213.out.later hb216)
      replace Y186 := hide (Y186.out.later hb216)
      have z221 := hide hb216.size
      replace hB := hide (hB.out.trans (hb216.mono hB.out.size))
      clear hb216
      have H224 := hide (HI.out w215 P213.out (PR.cp Q219.out (by unfold maxLen; omega)) (HTb.out.below hB.out) (by have q0 := HTb.out.lt; have q0 := z6.out; have q1 := e4.out; have q2 := z10.out; have q3 := z14.out; have q4 := z30.out; have q5 := z37.out; have q6 := I36.out; have q7 := z43.out; have q8 := z49.out; have q9 := e47.out; have q10 := z65.out; have q11 := z71.out; have q12 := e69.out; have q13 := z78.out; have q14 := I77.out; have q15 := z92.out; have q16 := z98.out; have q17 := e96.out; have q18 := z118.out; have q19 := z122.out; have q20 := z129.out; have q21 := I128.out; have q22 := z133.out; have q23 := z146.out; have q24 := z152.out; have q25 := z172.out; have q26 := z185.out; have q27 := z198.out; have q28 := z214.out; have q29 := z221.out; have q30 := I220.out; omega))
      go_wp2_with fail
      refine ((H224.out.mono (fun _ _ h => ec_ex h))).mono ?_
      rintro e w222 ⟨axuz, cxuz, axrz, cxrz, rfl, hx225, hb223⟩
      clear H224
      have P226 := hide hx225
      clear hx225
      replace X5 := hide (X5.out.later hb223)
      replace X48 := hide (X48.out.later hb223)
      replace X70 := hide (X70.out.later hb223)
      replace X97 := hide (X97.out.later hb223)
      replace P42 := hide (P42.out.later hb223)
      replace P213 := hide (P213.out.later hb223)
      replace Y186 := hide (Y186.out.later hb223)
      replace Q219 := hide (Q219.out.later hb223)
      have z227 := hide hb223.size
      replace hB := hide (hB.out.trans (hb223.mono hB.out.size))
      clear hb223
      obtain ⟨w228, hw229⟩ : ∃ wq0, wq0 = w222.alloc (.cells #[.int .i64 ri, .string rt, .int .i64 rv, .int .i64 rq, .bool rw', .slice axuz rs.length cxuz, .slice axrz rb.length cxrz, .bool rd] 29) := ⟨_, rfl⟩
      have hb230 : Below w222.heap.size w222 w228 := by rw [hw229]; exact (Below.refl _ _).alloc (Nat.le_refl _) _
      have e231 : Hid (w228.heap.size = w222.heap.size + 1) := hide (by rw [hw229]; simp)
      have X232 : Hid (CB w228 w222.heap.size #[.int .i64 ri, .string rt, .int .i64 rv, .int .i64 rq, .bool rw', .slice axuz rs.length cxuz, .slice axrz rb.length cxrz, .bool rd]) := hide (by rw [hw229]; exact CB.new _ _ _)
      replace X5 := hide (X5.out.later hb230)
      replace X48 := hide (X48.out.later hb230)
      replace X70 := hide (X70.out.later hb230)
      replace X97 := hide (X97.out.later hb230)
      replace P42 := hide (P42.out.later hb230)
      replace P213 := hide (P213.out.later hb230)
      replace P226 := hide (P226.out.later hb230)
      replace Y186 := hide (Y186.out.later hb230)
      replace Q219 := hide (Q219.out.later hb230)
      have z233 := hide hb230.size
      replace hB := hide (hB.out.trans (hb230.mono hB.out.size))
      clear hb230
      have k237 : w228.cell? ⟨w222.heap.size, 0, none⟩ = some (.int .i64 ri) := X232.out.cell 0 rfl
      rw [hw229] at k237
      have k238 : w228.cell? ⟨w222.heap.size, 1, none⟩ = some (.string rt) := X232.out.cell 1 rfl
      rw [hw229] at k238
      have k239 : w228.cell? ⟨w222.heap.size, 2, none⟩ = some (.int .i64 rv) := X232.out.cell 2 rfl
      rw [hw229] at k239
      have k240 : w228.cell? ⟨w222.heap.size, 3, none⟩ = some (.int .i64 rq) := X232.out.cell 3 rfl
      rw [hw229] at k240
      have k241 : w228.cell? ⟨w222.heap.size, 4, none⟩ = some (.bool rw') := X232.out.cell 4 rfl
      rw [hw229] at k241
      have k242 : w228.cell? ⟨w222.heap.size, 5, none⟩ = some (.slice axuz rs.length cxuz) := X232.out.cell 5 rfl
      rw [hw229] at k242
      have k243 : w228.cell? ⟨w222.heap.size, 6, none⟩ = some (.slice axrz rb.length cxrz) := X232.out.cell 6 rfl
      rw [hw229] at k243
      have k244 : w228.cell? ⟨w222.heap.size, 7, none⟩ = some (.bool rd) := X232.out.cell 7 rfl
      rw [hw229] at k244
      have k245 : w228.cell? ⟨w38.heap.size, 0, none⟩ = some (.int .i64 ri) := X48.out.cell 0 rfl
      rw [hw229] at k245
      have k246 : w228.cell? ⟨w38.heap.size, 1, none⟩ = some (.string rt) := X48.out.cell 1 rfl
      rw [hw229] at k246
      have k247 : w228.cell? ⟨w38.heap.size, 2, none⟩ = some (.int .i64 rv) := X48.out.cell 2 rfl
      rw [hw229] at k247
      have k248 : w228.cell? ⟨w38.heap.size, 3, none⟩ = some (.int .i64 rq) := X48.out.cell 3 rfl
      rw [hw229] at k248
      have k249 : w228.cell? ⟨w38.heap.size, 4, none⟩ = some (.bool rw') := X48.out.cell 4 rfl
      rw [hw229] at k249
      have k250 : w228.cell? ⟨w38.heap.size, 5, none⟩ = some (.slice axux rs.length cxux) := X48.out.cell 5 rfl
      rw [hw229] at k250
      have k251 : w228.cell? ⟨w38.heap.size, 6, none⟩ = some (.slice axrx rb.length cxrx) := X48.out.cell 6 rfl
      rw [hw229] at k251
      have k252 : w228.cell? ⟨w38.heap.size, 7, none⟩ = some (.bool rd) := X48.out.cell 7 rfl
      rw [hw229] at k252
      have E236 := hide (eqKX P226.out P42.out BQ1.out BQ2.out)
      go_wp2_with fail
      rw [← hw229]
      clear hw229
      refine (E236.out).mono ?_
      rintro e w234 ⟨rfl, hb235⟩
      clear E236 k237 k238 k239 k240 k241 k242 k243 k244 k245 k246 k247 k248 k249 k250 k251 k252
      replace X5 := hide (X5.out.later hb235)
      replace X48 := hide (X48.out.later hb235)
      replace X70 := hide (X70.out.later hb235)
      replace X97 := hide (X97.out.later hb235)
      replace X232 := hide (X232.out.later hb235)
      replace P42 := hide (P42.out.later hb235)
      replace P213 := hide (P213.out.later hb235)
      replace P226 := hide (P226.out.later hb235)
      replace Y186 := hide (Y186.out.later hb235)
      replace Q219 := hide (Q219.out.later hb235)
      have z253 := hide hb235.size
      replace hB := hide (hB.out.trans (hb235.mono hB.out.size))
      clear hb235
      have k257 : w234.cell? ⟨w87.heap.size, 0, none⟩ = some (.int .i64 ri) := X97.out.cell 0 rfl
      have k258 : w234.cell? ⟨w87.heap.size, 1, none⟩ = some (.string rt) := X97.out.cell 1 rfl
      have k259 : w234.cell? ⟨w87.heap.size, 2, none⟩ = some (.int .i64 rv) := X97.out.cell 2 rfl
      have k260 : w234.cell? ⟨w87.heap.size, 3, none⟩ = some (.int .i64 rq) := X97.out.cell 3 rfl
      have k261 : w234.cell? ⟨w87.heap.size, 4, none⟩ = some (.bool rw') := X97.out.cell 4 rfl
      have k262 : w234.cell? ⟨w87.heap.size, 5, none⟩ = some (.slice axuy rs.length cxuy) := X97.out.cell 5 rfl
      have k263 : w234.cell? ⟨w87.heap.size, 6, none⟩ = some (.slice axry rb.length cxry) := X97.out.cell 6 rfl
      have k264 : w234.cell? ⟨w87.heap.size, 7, none⟩ = some (.bool rd) := X97.out.cell 7 rfl
      have D256 := hide (heldKX (ci := ri) (ct := rt) (cv := rv) (cq := rq) (cw := rw') (cd := rd) Y186.out BQ1.out BQ2.out ⟨by omega, by omega⟩)
      rw [HKM.out] at D256
      go_wp2_with fail
      refine (D256.out).mono ?_
      rintro e w254 ⟨rfl, hb255⟩
      clear D256 k257 k258 k259 k260 k261 k262 k263 k264
      replace X5 := hide (X5.out.later hb255)
      replace X48 := hide (X48.out.later hb255)
      replace X70 := hide (X70.out.later hb255)
      replace X97 := hide (X97.out.later hb255)
      replace X232 := hide (X232.out.later hb255)
      replace P42 := hide (P42.out.later hb255)
      replace P213 := hide (P213.out.later hb255)
      replace P226 := hide (P226.out.later hb255)
      replace Y186 := hide (Y186.out.later hb255)
      replace Q219 := hide (Q219.out.later hb255)
      have z265 := hide hb255.size
      replace hB := hide (hB.out.trans (hb255.mono hB.out.size))
      clear hb255
      go_wp2
      go_ret
      exact ⟨rfl, hB.out⟩
    · skip
      have Zc := hide (fun w' (hb : Below w.heap.size w w') => szK_from (ci := ic) (cv := pc) (cq := qc) (cw := bc) (cd := dc) (hauc.later hb) (harc.later hb) httc hsuc hsrc (1048576) (by omega))
      simp only [if_pos fsc] at Zc
      have Zop := hide (fun w' (hb : Below w.heap.size w w') => szP_from (haop.later hb) hsop (argP_len haop) (1048576 - szKn tc uc rc) (by omega))
      simp only [if_neg fsop] at Zop
      obtain ⟨Kc, hKc⟩ : ∃ K : Nat, 1048576 - szKn tc uc rc = K := ⟨_, rfl⟩
      rw [hKc] at Zc Zop
      have ec : decide ((Kc : Int) < 0) = false := by rw [decide_eq_false_iff_not]; omega
      clear hKc
      have HB0 : Hid (Below w.heap.size w (w.alloc (.cells #[.int .i64 ic, .string tc, .int .i64 pc, .int .i64 qc, .bool bc, .slice auc uc.length cuc, .slice arc rc.length crc, .bool dc] 24))) := hide ((Below.refl _ _).alloc (Nat.le_refl _) _)
      clear hauc harc httc hsuc hsrc haop hsop fsop fsc
      go_enter Tryd.func3, Tryd.ntmps3
      go_wp2_with fail
      refine (Zc.out _ HB0.out).mono ?_
      rintro e zc ⟨rfl, hzc⟩
      have HZc : Hid (Below w.heap.size w zc) := hide (HB0.out.trans (hzc.mono HB0.out.size))
      clear hzc
      go_wp2_with fail
      refine (Zop.out _ HZc.out).mono ?_
      rintro e zop ⟨rfl, hzop⟩
      have HZop : Hid (Below w.heap.size w zop) := hide (HZc.out.trans (hzop.mono HZc.out.size))
      clear hzop
      go_wp2
      go_ret
      exact ⟨rfl, HZop.out⟩
  · skip
    have Zc := hide (fun w' (hb : Below w.heap.size w w') => szK_from (ci := ic) (cv := pc) (cq := qc) (cw := bc) (cd := dc) (hauc.later hb) (harc.later hb) httc hsuc hsrc (1048576) (by omega))
    simp only [if_neg fsc] at Zc
    have HB0 : Hid (Below w.heap.size w (w.alloc (.cells #[.int .i64 ic, .string tc, .int .i64 pc, .int .i64 qc, .bool bc, .slice auc uc.length cuc, .slice arc rc.length crc, .bool dc] 24))) := hide ((Below.refl _ _).alloc (Nat.le_refl _) _)
    clear hauc harc httc hsuc hsrc haop hsop fsc
    go_enter Tryd.func3, Tryd.ntmps3
    go_wp2_with fail
    refine (Zc.out _ HB0.out).mono ?_
    rintro e zc ⟨rfl, hzc⟩
    have HZc : Hid (Below w.heap.size w zc) := hide (HB0.out.trans (hzc.mono HB0.out.size))
    clear hzc
    go_wp2
    go_ret
    exact ⟨rfl, HZc.out⟩
end Go.Proofs.YtkjioadmebkaoabDoor

namespace Go.Proofs.YtkjioadmebkaoabDoor
open Go.ChangeShapes Go.WideShapes Go.ChangeAt Go.RowKit Go.WideElems

set_option maxRecDepth 100000 in
theorem client_of_read {H : Type} {enc : TypeId × Value → H} {W : World} {base : Nat} {v : Value} {d : DataW H} {p : List MemPlace} (hval : Value.okWide Tryd.prog W .any base 24 v)
    (h : DataW.Trod enc Tryd.prog W 0 (fun _ => true) true 24 v d p) : ∃ (ci cv cq : Int) (ct : ByteArray) (cw cd : Bool) (vu vr : Value) (u r : List Doc1.Pt), v = .agg #[.int .i64 ci, .string ct, .int .i64 cv, .int .i64 cq, .bool cw, vu, vr, .bool cd] ∧ ArgP W vu u ∧ ArgP W vr r ∧ ct.size ≤ 9223372036854775807 ∧ ThinP u ∧ ThinP r := by
  obtain ⟨cs, rfl, hsz⟩ := okWide_struct Tryd.underlying24 hval
  have hC : Tryd.prog.cellsOf 24 = 8 := by kernel_rfl
  obtain ⟨x0, x1, x2, x3, x4, x5, x6, x7, rfl⟩ : ∃ x0 x1 x2 x3 x4 x5 x6 x7, cs = #[x0, x1, x2, x3, x4, x5, x6, x7] := by
    rw [hC] at hsz
    match cs, hsz with
    | ⟨[x0, x1, x2, x3, x4, x5, x6, x7]⟩, _ => exact ⟨x0, x1, x2, x3, x4, x5, x6, x7, rfl⟩
  obtain ⟨fuel, hf⟩ := h
  obtain ⟨xs, k, hk, hxy, _, hxl, hfs⟩ := DataW.trod_struct Tryd.underlying24 hf
  match xs, hxl with
  | [y0, y1, y2, y3, y4, y5, y6, y7], _ =>
    have g0 := hfs 0 _ rfl
    have g1 := hfs 1 _ rfl
    have g2 := hfs 2 _ rfl
    have g3 := hfs 3 _ rfl
    have g4 := hfs 4 _ rfl
    have g5 := hfs 5 _ rfl
    have g6 := hfs 6 _ rfl
    have g7 := hfs 7 _ rfl
    have cS : Tryd.prog.cellsOf 9 = 1 := by kernel_rfl
    have cI : Tryd.prog.cellsOf 3 = 1 := by kernel_rfl
    have cB : Tryd.prog.cellsOf 4 = 1 := by kernel_rfl
    have cC : Tryd.prog.cellsOf 22 = 1 := by kernel_rfl
    simp [Value.cells, cS, cI, cB, cC] at g0 g1 g2 g3 g4 g5 g6 g7
    obtain ⟨s0, e0, _, b0⟩ := DataW.trod_int Tryd.underlying3 g0
    obtain ⟨s1, e1, _, b1⟩ := DataW.trod_string Tryd.underlying9 g1
    obtain ⟨s2, e2, _, b2⟩ := DataW.trod_int Tryd.underlying3 g2
    obtain ⟨s3, e3, _, b3⟩ := DataW.trod_int Tryd.underlying3 g3
    obtain ⟨s4, e4, _⟩ := DataW.trod_bool Tryd.underlying4 g4
    obtain ⟨s7, e7, _⟩ := DataW.trod_bool Tryd.underlying4 g7
    simp only [List.cons.injEq, and_true] at e0 e1 e2 e3 e4 e7
    subst e0 e1 e2 e3 e4 e7
    unfold maxLen at b1
    obtain ⟨u, hu1, hu2⟩ := parts_of_trod (d := y5.1) (p := y5.2) g5
    obtain ⟨r, hr1, hr2⟩ := parts_of_trod (d := y6.1) (p := y6.2) g6
    exact ⟨s0, s2, s3, s1, s4, s7, x5, x6, u, r, rfl, hu1, hr1, b1, fun i hi => (hu2 i hi).1, fun i hi => (hr2 i hi).1⟩
end Go.Proofs.YtkjioadmebkaoabDoor
