/- The gathering's endChanged. -/
import Derived.Test.YtbmnciejaknonauDoorGat1
namespace Go.Proofs.YtbmnciejaknonauDoor
open Go.RowKit
open Doc1

/-- Nothing is pending any more. -/
theorem gt_clear {g : Nat} {V : Nat → Value} {G : Gs} {w : World} (h : Gt g V G w) :
    Gt g (upd (upd V 2 (.slice none 0 0)) 3 (.slice none 0 0)) ⟨G.parts, G.keep, [], []⟩ ((w.setCell ⟨g, 2, none⟩ (.slice none 0 0)).setCell ⟨g, 3, none⟩ (.slice none 0 0)) ∧
      Moves (OB g V) w (OB g (upd (upd V 2 (.slice none 0 0)) 3 (.slice none 0 0))) ((w.setCell ⟨g, 2, none⟩ (.slice none 0 0)).setCell ⟨g, 3, none⟩ (.slice none 0 0)) := by
  have nil : ∀ w' : World, w'.ownsRow 0 5 1 (.slice none 0 0) 0 [] := fun w' => World.ownsRow_nil _ _ _ _
  obtain ⟨T1, M1⟩ := h.put (G' := ⟨G.parts, G.keep, [], G.drop⟩) 2 (by omega) (.slice none 0 0) (grown_same _ _) (nil _) (by
    intro i hi hne v w' hr
    unfold RW at hr ⊢
    by_cases e : i = 0
    · rw [if_pos e] at hr ⊢; exact hr
    · rw [if_neg e] at hr ⊢
      by_cases e1 : i = 1
      · rw [if_pos e1] at hr ⊢; exact hr
      · rw [if_neg e1, if_neg hne] at hr ⊢; exact hr) (.inr (fun x hx => by cases hx))
  obtain ⟨T2, M2⟩ := T1.put (G' := ⟨G.parts, G.keep, [], []⟩) 3 (by omega) (.slice none 0 0) (grown_same _ _) (nil _) (by
    intro i hi hne v w' hr
    unfold RW at hr ⊢
    by_cases e : i = 0
    · rw [if_pos e] at hr ⊢; exact hr
    · rw [if_neg e] at hr ⊢
      by_cases e1 : i = 1
      · rw [if_pos e1] at hr ⊢; exact hr
      · rw [if_neg e1] at hr ⊢
        rw [if_pos (by omega)] at hr ⊢; exact hr) (.inr (fun x hx => by cases hx))
  exact ⟨T2, M1.trans M2⟩

/-- The parts that are ended, one after the other. -/
def Doc1.Gs.endP (G : Gs) : Gs := ⟨G.parts ++ (if G.put = [] then [] else [pp G.put]), G.keep, G.put, G.drop⟩
def Doc1.Gs.endD (G : Gs) : Gs := ⟨G.parts ++ (if G.drop = [] then [] else [dp G.drop]), G.keep, G.put, G.drop⟩
theorem endC_eq (G : Gs) : G.endC = ⟨G.endP.endD.parts, G.keep, [], []⟩ := by unfold Doc1.Gs.endC Doc1.Gs.endP Doc1.Gs.endD; rw [List.append_assoc]

set_option maxRecDepth 100000 in
set_option maxHeartbeats 4000000 in
theorem endChanged_any {g : Nat} {V : Nat → Value} {G : Gs} {w : World} (h : Gt g V G w) (hl : G.parts.length ≤ 4000000) (_hp : G.put.length ≤ 4000000) (hd : G.drop.length ≤ 4000000) :
    Calls Tryd.prog 72 #[.pointer (some ⟨g, 0, none⟩)] w fun e w' => e = .returned (.tuple #[]) ∧ ∃ V', Gt g V' G.endC w' ∧ Moves (OB g V) w (OB g V') w' := by
  obtain ⟨i0, hi0, hz0, hz1, hz2⟩ := info_parts Tryd.infoPart
  obtain ⟨-, ⟨ab, cb, hVb⟩, -⟩ := h.shape
  have kb := h.c 2 (by omega)
  rw [hVb] at kb
  have H := hide h
  have HVb := hide hVb
  clear h hVb
  go_enter Tryd.func72, Tryd.ntmps72
  go_upto_if 7 with fail
  go_cut [8] from 5 to 22 (fun _ wx => ∃ V', Gt g V' G.endP wx ∧ Moves (OB g V) w (OB g V') wx)
  case first =>
    have k0 := H.out.c 0 (by omega)
    have kf := H.out.fz 0
    have lg := H.out.lt
    have own0 : w.ownsRow 0 67 3 (V 0) G.parts.length (encP G.parts) := H.out.own 0 (by omega)
    have ownb : w.ownsRow 0 5 1 (V 2) G.put.length (byt G.put) := H.out.own 2 (by omega)
    have hcv : (convert 55 9 (.slice ab G.put.length cb)).run Tryd.prog w.drew = .ok (.string (ba G.put)) w.drew := by
      rw [← HVb.out]; exact conv_own (w := w.drew) (own_move ownb (fun _ _ => rfl))
    have ne0 := H.out.ag 0 (by omega)
    by_cases he : G.put = []
    · have hln : G.put.length = 0 := by rw [he]; rfl
      have hG : G.endP = G := by unfold Doc1.Gs.endP; rw [if_pos he, List.append_nil]
      rw [hln] at kb
      clear k0 kf own0 ownb hcv ne0
      go_wp2_with fail
      go_meet
      case rel => rw [hG]; exact ⟨_, H.out, Moves.refl _ _⟩
    · have hln : 0 < G.put.length := List.length_pos_iff.2 he
      have hG : G.endP = ⟨G.parts ++ [pp G.put], G.keep, G.put, G.drop⟩ := by unfold Doc1.Gs.endP; rw [if_neg he]
      have HG := hide hG
      obtain ⟨v0, hv0⟩ : ∃ v0, v0 = V 0 := ⟨_, rfl⟩
      have Hv := hide hv0
      rw [← hv0] at k0 own0 ne0
      clear hv0 hG ownb
      go_wp2_with fail
      go_region_law
        ((refine step_append_lies _ (by rfl) _ _ _ (by rfl) 0 67 i0 _ 3 40 Tryd.underlying34 hi0 hz0 hz1 hz2 rfl (by omega) v0 G.parts.length (encP G.parts) (by rfl) ((own0.alloc _).drew)
            ⟨w.heap.size, 0, none⟩ 1 1 [.int .i64 0, .string (ba G.put), .string ⟨#[]⟩] (by rfl) (by rfl) (World.news_of_block (cs := #[.int .i64 0, .string (ba G.put), .string ⟨#[]⟩]) (t := 67) (fr := (0, 0)) (heap_alloc_new w _)) (by simp [Value.oneCell'])
            (by omega) (by unfold maxLen; omega) (by omega) (by omega) (w.heap.size + 1) (by simp) ?_; intro gg cap w2 hown1 hgrow hat hlt; have hfz := (hgrow.frozen_far ⟨g, 0, none⟩ (by simp; omega) (Ne.symm ne0)).trans (fz_al w _ _ lg kf); have hcz := (hgrow.cell_far ⟨g, 0, none⟩ (by simp; omega) (Ne.symm ne0)).trans (cl_al w _ _ k0)))
      all_goals
        rw [Hv.out] at hgrow hat
        have T1 := hide (gt_part H.out (pp G.put) hown1 hgrow hat)
        clear k0 own0 ne0 kf lg hown1 hgrow hat hlt
        go_wp2_with fail
        go_meet
        case rel => rw [HG.out]; exact ⟨_, T1.out.1, T1.out.2⟩
  case rest =>
    obtain ⟨V1, h1, M1⟩ := hcut
    have HM := hide M1
    have hl1 : G.endP.parts.length ≤ 4000001 := by unfold Doc1.Gs.endP; simp only [List.length_append]; split <;> simp <;> omega
    have hd1 : G.endP.drop.length ≤ 4000000 := hd
    have hfin := hide (endC_eq G)
    have hkp : G.endP.keep = G.keep := rfl
    clear H HVb kb M1 ab cb
    obtain ⟨G1, hG1⟩ : ∃ G1, G1 = G.endP := ⟨_, rfl⟩
    rw [← hG1] at h1 hl1 hd1 hfin hkp
    clear hG1
    obtain ⟨-, -, ⟨ab, cb, hVb⟩⟩ := h1.shape
    have kb := h1.c 3 (by omega)
    rw [hVb] at kb
    have H1 := hide h1
    have HVb := hide hVb
    clear h1 hVb
    go_upto_if 28 with fail
    go_cut [29] from 26 to 43 (fun _ wx => ∃ V', Gt g V' G1.endD wx ∧ Moves (OB g V) w (OB g V') wx)
    case first =>
      have k0 := H1.out.c 0 (by omega)
      have kf := H1.out.fz 0
      have lg := H1.out.lt
      have own0 : wc.ownsRow 0 67 3 (V1 0) G1.parts.length (encP G1.parts) := H1.out.own 0 (by omega)
      have ownb : wc.ownsRow 0 5 1 (V1 3) G1.drop.length (byt G1.drop) := H1.out.own 3 (by omega)
      have hcv : (convert 55 9 (.slice ab G1.drop.length cb)).run Tryd.prog wc.drew = .ok (.string (ba G1.drop)) wc.drew := by
        rw [← HVb.out]; exact conv_own (w := wc.drew) (own_move ownb (fun _ _ => rfl))
      have ne0 := H1.out.ag 0 (by omega)
      by_cases he : G1.drop = []
      · have hln : G1.drop.length = 0 := by rw [he]; rfl
        have hG : G1.endD = G1 := by unfold Doc1.Gs.endD; rw [if_pos he, List.append_nil]
        rw [hln] at kb
        clear k0 kf own0 ownb hcv ne0
        go_wp2_with fail
        go_meet
        case rel => rw [hG]; exact ⟨_, H1.out, HM.out⟩
      · have hln : 0 < G1.drop.length := List.length_pos_iff.2 he
        have hG : G1.endD = ⟨G1.parts ++ [dp G1.drop], G1.keep, G1.put, G1.drop⟩ := by unfold Doc1.Gs.endD; rw [if_neg he]
        have HG := hide hG
        obtain ⟨v0, hv0⟩ : ∃ v0, v0 = V1 0 := ⟨_, rfl⟩
        have Hv := hide hv0
        rw [← hv0] at k0 own0 ne0
        clear hv0 hG ownb
        go_wp2_with fail
        go_region_law
          ((refine step_append_lies _ (by rfl) _ _ _ (by rfl) 0 67 i0 _ 3 40 Tryd.underlying34 hi0 hz0 hz1 hz2 rfl (by omega) v0 G1.parts.length (encP G1.parts) (by rfl) ((own0.alloc _).drew)
              ⟨wc.heap.size, 0, none⟩ 1 1 [.int .i64 0, .string ⟨#[]⟩, .string (ba G1.drop)] (by rfl) (by rfl) (World.news_of_block (cs := #[.int .i64 0, .string ⟨#[]⟩, .string (ba G1.drop)]) (t := 67) (fr := (0, 0)) (heap_alloc_new wc _)) (by simp [Value.oneCell'])
              (by omega) (by unfold maxLen; omega) (by omega) (by omega) (wc.heap.size + 1) (by simp) ?_; intro gg cap w2 hown1 hgrow hat hlt; have hfz := (hgrow.frozen_far ⟨g, 0, none⟩ (by simp; omega) (Ne.symm ne0)).trans (fz_al wc _ _ lg kf); have hcz := (hgrow.cell_far ⟨g, 0, none⟩ (by simp; omega) (Ne.symm ne0)).trans (cl_al wc _ _ k0)))
        all_goals
          rw [Hv.out] at hgrow hat
          have T1 := hide (gt_part H1.out (dp G1.drop) hown1 hgrow hat)
          clear k0 own0 ne0 kf lg hown1 hgrow hat hlt
          go_wp2_with fail
          go_meet
          case rel => rw [HG.out]; exact ⟨_, T1.out.1, HM.out.trans T1.out.2⟩
    case rest =>
      obtain ⟨V2, h2, M2⟩ := hcut
      have j2 := h2.c 2 (by omega)
      have j3 := h2.c 3 (by omega)
      have f2 := h2.fz 2
      have f3 : (wc.setCell ⟨g, 2, none⟩ (.slice none 0 0)).frozen? ⟨g, 3, none⟩ = false := by rw [World.frozen?_setCell]; exact h2.fz 3
      have P := hide (gt_clear h2)
      have HM2 := hide M2
      clear h2 M2 H1 HVb kb
      go_wp2
      go_end0
      refine ⟨rfl, _, ?_, HM2.out.trans P.out.2⟩
      rw [hfin.out, ← hkp]; exact P.out.1
end Go.Proofs.YtbmnciejaknonauDoor
