/- The gathering's add. -/
import Derived.Test.YtbmnciejaknonauDoorGat2
namespace Go.Proofs.YtbmnciejaknonauDoor
open Go.RowKit
open Doc1

/-- A byte more that is put, or dropped. -/
theorem gt_put {g : Nat} {V : Nat → Value} {G : Gs} {w w2 : World} {ob : Obj} {gg cap : Nat} (h : Gt g V G w) (c : UInt8) (ho : w2.ownsRow 0 5 1 (.slice (some ⟨gg, 0, none⟩) (G.put.length + 1) cap) (G.put.length + 1) (byt G.put ++ [.int .u8 (c.toNat : Int)]))
    (hg : (w.alloc ob).drew.grownBy w2 (V 2).ownBlock) (hat : (V 2).ownBlock = some gg ∨ gg = w.heap.size + 1) :
    Gt g (upd V 2 (.slice (some ⟨gg, 0, none⟩) (G.put.length + 1) cap)) ⟨G.parts, G.keep, G.put ++ [c], G.drop⟩ (w2.setCell ⟨g, 2, none⟩ (.slice (some ⟨gg, 0, none⟩) (G.put.length + 1) cap)) ∧
      Moves (OB g V) w (OB g (upd V 2 (.slice (some ⟨gg, 0, none⟩) (G.put.length + 1) cap))) (w2.setCell ⟨g, 2, none⟩ (.slice (some ⟨gg, 0, none⟩) (G.put.length + 1) cap)) := by
  refine h.put (G' := ⟨G.parts, G.keep, G.put ++ [c], G.drop⟩) 2 (by omega) _ (grown_al hg) ?_ ?_ ?_
  · show w2.ownsRow 0 5 1 _ (G.put ++ [c]).length (byt (G.put ++ [c]))
    rw [byt_snoc, List.length_append]; exact ho
  · intro i hi hne v w' hr
    unfold RW at hr ⊢
    by_cases e : i = 0
    · rw [if_pos e] at hr ⊢; exact hr
    · rw [if_neg e] at hr ⊢
      by_cases e1 : i = 1
      · rw [if_pos e1] at hr ⊢; exact hr
      · rw [if_neg e1, if_neg hne] at hr ⊢; exact hr
  · rcases hat with e | e
    · exact .inl e.symm
    · refine .inr (fun x hx => ?_)
      have : gg = x := by injection hx
      omega
theorem gt_drop {g : Nat} {V : Nat → Value} {G : Gs} {w w2 : World} {ob : Obj} {gg cap : Nat} (h : Gt g V G w) (c : UInt8) (ho : w2.ownsRow 0 5 1 (.slice (some ⟨gg, 0, none⟩) (G.drop.length + 1) cap) (G.drop.length + 1) (byt G.drop ++ [.int .u8 (c.toNat : Int)]))
    (hg : (w.alloc ob).drew.grownBy w2 (V 3).ownBlock) (hat : (V 3).ownBlock = some gg ∨ gg = w.heap.size + 1) :
    Gt g (upd V 3 (.slice (some ⟨gg, 0, none⟩) (G.drop.length + 1) cap)) ⟨G.parts, G.keep, G.put, G.drop ++ [c]⟩ (w2.setCell ⟨g, 3, none⟩ (.slice (some ⟨gg, 0, none⟩) (G.drop.length + 1) cap)) ∧
      Moves (OB g V) w (OB g (upd V 3 (.slice (some ⟨gg, 0, none⟩) (G.drop.length + 1) cap))) (w2.setCell ⟨g, 3, none⟩ (.slice (some ⟨gg, 0, none⟩) (G.drop.length + 1) cap)) := by
  refine h.put (G' := ⟨G.parts, G.keep, G.put, G.drop ++ [c]⟩) 3 (by omega) _ (grown_al hg) ?_ ?_ ?_
  · show w2.ownsRow 0 5 1 _ (G.drop ++ [c]).length (byt (G.drop ++ [c]))
    rw [byt_snoc, List.length_append]; exact ho
  · intro i hi hne v w' hr
    unfold RW at hr ⊢
    by_cases e : i = 0
    · rw [if_pos e] at hr ⊢; exact hr
    · rw [if_neg e] at hr ⊢
      by_cases e1 : i = 1
      · rw [if_pos e1] at hr ⊢; exact hr
      · rw [if_neg e1, if_pos (by omega)] at hr ⊢; exact hr
  · rcases hat with e | e
    · exact .inl e.symm
    · refine .inr (fun x hx => ?_)
      have : gg = x := by injection hx
      omega
theorem cells2_new (w : World) (a b : Value) : (∀ t, (w.alloc (.cells #[a, b] t)).cell? ⟨w.heap.size, 0, none⟩ = some a) ∧ (∀ t, (w.alloc (.cells #[a, b] t)).cell? ⟨w.heap.size, 1, none⟩ = some b) := by
  refine ⟨fun t => ?_, fun t => ?_⟩
  all_goals
    unfold World.cell?
    rw [heap_alloc_new]; rfl

/-- Bounds that serve a step. -/
structure GB (G : Gs) (n : Nat) : Prop where
  p : G.parts.length ≤ 2 * n
  k : G.keep ≤ n
  a : G.put.length ≤ n
  d : G.drop.length ≤ n

set_option maxRecDepth 100000 in
set_option maxHeartbeats 4000000 in
theorem add_keepI {g : Nat} {V : Nat → Value} {G : Gs} {w : World} (c : UInt8) (h : Gt g V G w) {n : Nat} (hb : GB G n) (hn : n ≤ 1000000) :
    Calls Tryd.prog 50 #[.pointer (some ⟨g, 0, none⟩), stV ⟨1, c⟩] w fun e w' => e = .returned (.tuple #[]) ∧ ∃ V', Gt g V' (G.add ⟨1, c⟩) w' ∧ Moves (OB g V) w (OB g V') w' := by
  obtain ⟨y0, y1⟩ := cells2_new w (.int .i64 1) (.int .u8 (c.toNat : Int))
  have E := hide (fun o => endChanged_any (h.up ((Below.refl _ w).alloc (Nat.le_refl _) o)) (by have := hb.p; omega) (by have := hb.a; omega) (by have := hb.d; omega))
  have M0 := hide (fun o => moves_up (O := OB g V) ((Below.refl _ w).alloc (Nat.le_refl _) o))
  have hG : G.add ⟨1, c⟩ = ⟨G.endC.parts, G.keep + 1, [], []⟩ := by unfold Doc1.Gs.add; rw [if_pos rfl]
  have hk := hb.k
  rw [hG]
  clear h hG hb
  unfold stV
  go_enter Tryd.func50, Tryd.ntmps50
  go_wp2_with fail
  refine (E.out _).mono ?_
  rintro e w2 ⟨rfl, V2, h2, M2⟩
  have k1 := h2.k1
  have hkk : G.endC.keep = G.keep := rfl
  rw [hkk] at k1
  have f1 := h2.fz 1
  have P := hide (gt_keep h2 (G.keep + 1))
  have HM := hide ((M0.out _).trans M2)
  rw [show ((G.keep + 1 : Nat) : Int) = (G.keep : Int) + 1 by omega] at P
  clear h2 M2 hkk y0 y1
  go_wp2
  go_end0
  exact ⟨rfl, _, P.out.1, HM.out.trans P.out.2⟩

set_option maxRecDepth 100000 in
set_option maxHeartbeats 4000000 in
theorem add_putI {g : Nat} {V : Nat → Value} {G : Gs} {w : World} (c : UInt8) (h : Gt g V G w) {n : Nat} (hb : GB G n) (hn : n ≤ 1000000) :
    Calls Tryd.prog 50 #[.pointer (some ⟨g, 0, none⟩), stV ⟨2, c⟩] w fun e w' => e = .returned (.tuple #[]) ∧ ∃ V', Gt g V' (G.add ⟨2, c⟩) w' ∧ Moves (OB g V) w (OB g V') w' := by
  obtain ⟨u0, hu0, hz0, hz1, hz2⟩ := info_parts Tryd.infoU8
  obtain ⟨y0, y1⟩ := cells2_new w (.int .i64 2) (.int .u8 (c.toNat : Int))
  have E := hide (fun o => endKept_any (h.up ((Below.refl _ w).alloc (Nat.le_refl _) o)) (by have := hb.p; omega) (by have := hb.k; omega))
  have M0 := hide (fun o => moves_up (O := OB g V) ((Below.refl _ w).alloc (Nat.le_refl _) o))
  have hG : G.add ⟨2, c⟩ = ⟨G.endK.parts, 0, G.put ++ [c], G.drop⟩ := by unfold Doc1.Gs.add; simp
  have hnb : ¬ OB g V w.heap.size := fun c => absurd (h.ltO c) (by omega)
  have ha := hb.a
  rw [hG]
  clear h hG hb
  unfold stV
  go_enter Tryd.func50, Tryd.ntmps50
  go_wp2_with fail
  refine (E.out _).mono ?_
  rintro e w2 ⟨rfl, V2, h2, M2⟩
  have b1 := (World.cell?_of_block (a := ⟨w.heap.size, 1, none⟩) (M2.same _ (by simp) hnb)).trans (y1 _)
  have k2 := h2.c 2 (by omega)
  have kf := h2.fz 2
  have lg := h2.lt
  have own2 : w2.ownsRow 0 5 1 (V2 2) G.put.length (byt G.put) := h2.own 2 (by omega)
  have ne2 := h2.ag 2 (by omega)
  obtain ⟨v2, hv2⟩ : ∃ v2, v2 = V2 2 := ⟨_, rfl⟩
  have H2 := hide h2
  have Hv := hide hv2
  have HM := hide ((M0.out _).trans M2)
  rw [← hv2] at k2 own2 ne2
  have nb := World.new_ne w2 _ b1
  clear h2 M2 hv2 y0 y1
  go_wp2_with fail
  go_region_law
    ((refine step_append_lies _ (by rfl) _ _ _ (by rfl) 0 5 u0 _ 1 1 Tryd.underlying55 hu0 hz0 hz1 hz2 rfl (by omega) v2 G.put.length (byt G.put) (by rfl) ((own2.alloc _).drew)
        ⟨w2.heap.size, 0, none⟩ 1 1 [.int .u8 (c.toNat : Int)] (by rfl) (by rfl) (World.news_of_block (cs := #[.int .u8 (c.toNat : Int)]) (t := 5) (fr := (0, 0)) (heap_alloc_new w2 _)) (by simp [Value.oneCell'])
        (by omega) (by unfold maxLen; omega) (by omega) (by omega) (w2.heap.size + 1) (by simp) ?_; intro gg cap w3 hown1 hgrow hat hlt; have hfz := (hgrow.frozen_far ⟨g, 2, none⟩ (by simp; omega) (Ne.symm ne2)).trans (fz_al w2 _ _ lg kf); have hcz := (hgrow.cell_far ⟨g, 2, none⟩ (by simp; omega) (Ne.symm ne2)).trans (cl_al w2 _ _ k2)))
  all_goals
    rw [Hv.out] at hgrow hat
    have P := hide (gt_put H2.out c hown1 hgrow hat)
    clear k2 kf lg own2 ne2 hown1 hgrow hat hlt b1 nb
    go_wp2
    go_end0
    exact ⟨rfl, _, P.out.1, HM.out.trans P.out.2⟩

set_option maxRecDepth 100000 in
set_option maxHeartbeats 4000000 in
theorem add_dropI {g : Nat} {V : Nat → Value} {G : Gs} {w : World} (c : UInt8) (h : Gt g V G w) {n : Nat} (hb : GB G n) (hn : n ≤ 1000000) :
    Calls Tryd.prog 50 #[.pointer (some ⟨g, 0, none⟩), stV ⟨3, c⟩] w fun e w' => e = .returned (.tuple #[]) ∧ ∃ V', Gt g V' (G.add ⟨3, c⟩) w' ∧ Moves (OB g V) w (OB g V') w' := by
  obtain ⟨u0, hu0, hz0, hz1, hz2⟩ := info_parts Tryd.infoU8
  obtain ⟨y0, y1⟩ := cells2_new w (.int .i64 3) (.int .u8 (c.toNat : Int))
  have E := hide (fun o => endKept_any (h.up ((Below.refl _ w).alloc (Nat.le_refl _) o)) (by have := hb.p; omega) (by have := hb.k; omega))
  have M0 := hide (fun o => moves_up (O := OB g V) ((Below.refl _ w).alloc (Nat.le_refl _) o))
  have hG : G.add ⟨3, c⟩ = ⟨G.endK.parts, 0, G.put, G.drop ++ [c]⟩ := by unfold Doc1.Gs.add; simp
  have hnb : ¬ OB g V w.heap.size := fun c => absurd (h.ltO c) (by omega)
  have ha := hb.d
  rw [hG]
  clear h hG hb
  unfold stV
  go_enter Tryd.func50, Tryd.ntmps50
  go_wp2_with fail
  refine (E.out _).mono ?_
  rintro e w2 ⟨rfl, V2, h2, M2⟩
  have b1 := (World.cell?_of_block (a := ⟨w.heap.size, 1, none⟩) (M2.same _ (by simp) hnb)).trans (y1 _)
  have k2 := h2.c 3 (by omega)
  have kf := h2.fz 3
  have lg := h2.lt
  have own2 : w2.ownsRow 0 5 1 (V2 3) G.drop.length (byt G.drop) := h2.own 3 (by omega)
  have ne2 := h2.ag 3 (by omega)
  obtain ⟨v2, hv2⟩ : ∃ v2, v2 = V2 3 := ⟨_, rfl⟩
  have H2 := hide h2
  have Hv := hide hv2
  have HM := hide ((M0.out _).trans M2)
  rw [← hv2] at k2 own2 ne2
  have nb := World.new_ne w2 _ b1
  clear h2 M2 hv2 y0 y1
  go_wp2_with fail
  go_region_law
    ((refine step_append_lies _ (by rfl) _ _ _ (by rfl) 0 5 u0 _ 1 1 Tryd.underlying55 hu0 hz0 hz1 hz2 rfl (by omega) v2 G.drop.length (byt G.drop) (by rfl) ((own2.alloc _).drew)
        ⟨w2.heap.size, 0, none⟩ 1 1 [.int .u8 (c.toNat : Int)] (by rfl) (by rfl) (World.news_of_block (cs := #[.int .u8 (c.toNat : Int)]) (t := 5) (fr := (0, 0)) (heap_alloc_new w2 _)) (by simp [Value.oneCell'])
        (by omega) (by unfold maxLen; omega) (by omega) (by omega) (w2.heap.size + 1) (by simp) ?_; intro gg cap w3 hown1 hgrow hat hlt; have hfz := (hgrow.frozen_far ⟨g, 3, none⟩ (by simp; omega) (Ne.symm ne2)).trans (fz_al w2 _ _ lg kf); have hcz := (hgrow.cell_far ⟨g, 3, none⟩ (by simp; omega) (Ne.symm ne2)).trans (cl_al w2 _ _ k2)))
  all_goals
    rw [Hv.out] at hgrow hat
    have P := hide (gt_drop H2.out c hown1 hgrow hat)
    clear k2 kf lg own2 ne2 hown1 hgrow hat hlt b1 nb
    go_wp2
    go_end0
    exact ⟨rfl, _, P.out.1, HM.out.trans P.out.2⟩
end Go.Proofs.YtbmnciejaknonauDoor
