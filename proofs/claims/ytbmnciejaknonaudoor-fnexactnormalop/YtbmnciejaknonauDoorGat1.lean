/- The gathering in memory: a block whose cells name rows of its own, by footprints. -/
import Derived.Test.YtbmnciejaknonauDoorOpW5
import Derived.Test.YtbmnciejaknonauDoorLyW2
import Derived.Test.YtbmnciejaknonauDoorKeep1
import Derived.Deep.CutRange
namespace Go.Proofs.YtbmnciejaknonauDoor
open Go.RowKit
open Doc1

/-- What a cell of the gathering holds. -/
def RW (G : Gs) (j : Nat) (v : Value) (w : World) : Prop :=
  if j = 0 then w.ownsRow 0 67 3 v G.parts.length (encP G.parts)
  else if j = 1 then v = .int .i64 (G.keep : Int)
  else if j = 2 then w.ownsRow 0 5 1 v G.put.length (byt G.put)
  else w.ownsRow 0 5 1 v G.drop.length (byt G.drop)
structure Gt (g : Nat) (V : Nat → Value) (G : Gs) (w : World) : Prop where
  c : ∀ j, j < 4 → w.cell? ⟨g, j, none⟩ = some (V j)
  fz : ∀ j, w.frozen? ⟨g, j, none⟩ = false
  own : ∀ j, j < 4 → RW G j (V j) w
  ap : ∀ i j, i < 4 → j < 4 → i ≠ j → ∀ x, (V i).ownBlock = some x → (V j).ownBlock ≠ some x
  ag : ∀ j, j < 4 → (V j).ownBlock ≠ some g
/-- Its blocks. -/
def OB (g : Nat) (V : Nat → Value) (k : Nat) : Prop := k = g ∨ ∃ j, j < 4 ∧ (V j).ownBlock = some k

theorem own_move {w w2 : World} {B n sz : Nat} {e : TypeId} {v : Value} {xs : List Value} (h : w.ownsRow B e sz v n xs) (hk : ∀ x, v.ownBlock = some x → w2.heap[x]? = w.heap[x]?) : w2.ownsRow B e sz v n xs := by
  refine ⟨h.1, ?_⟩
  rcases h.2 with hn | ⟨g', cap, cur, hv, hb', hh, rest⟩
  · exact .inl hn
  · exact .inr ⟨g', cap, cur, hv, hb', (hk g' (by rw [hv]; rfl)).trans hh, rest⟩
theorem RW.kept {G : Gs} {j : Nat} {v : Value} {w w2 : World} (h : RW G j v w) (hk : ∀ x, v.ownBlock = some x → w2.heap[x]? = w.heap[x]?) : RW G j v w2 := by
  unfold RW at h ⊢
  split
  · rename_i e; rw [if_pos e] at h; exact own_move h hk
  · rename_i e; rw [if_neg e] at h
    split
    · rename_i e1; rw [if_pos e1] at h; exact h
    · rename_i e1; rw [if_neg e1] at h
      split
      · rename_i e2; rw [if_pos e2] at h; exact own_move h hk
      · rename_i e2; rw [if_neg e2] at h; exact own_move h hk
theorem own_lt {w : World} {B n sz : Nat} {e : TypeId} {v : Value} {xs : List Value} (h : w.ownsRow B e sz v n xs) {x : Nat} (hx : v.ownBlock = some x) : x < w.heap.size := (h.lt x hx).2
theorem RW.lt {G : Gs} {j : Nat} {v : Value} {w : World} (h : RW G j v w) {x : Nat} (hx : v.ownBlock = some x) : x < w.heap.size := by
  unfold RW at h
  split at h
  · exact own_lt h hx
  · split at h
    · rw [h] at hx; cases hx
    · split at h
      · exact own_lt h hx
      · exact own_lt h hx
theorem Gt.lt {g : Nat} {V : Nat → Value} {G : Gs} {w : World} (h : Gt g V G w) : g < w.heap.size := World.block_lt_of_cell? w _ (h.c 0 (by omega))
theorem Gt.kept {g : Nat} {V : Nat → Value} {G : Gs} {w w2 : World} (h : Gt g V G w) (hk : ∀ k, OB g V k → w2.heap[k]? = w.heap[k]?) : Gt g V G w2 :=
  ⟨fun j hj => (World.cell?_of_block (hk g (.inl rfl))).trans (h.c j hj), fun j => (World.frozen?_of_block (hk g (.inl rfl))).trans (h.fz j), fun j hj => (h.own j hj).kept (fun x hx => hk x (.inr ⟨j, hj, hx⟩)), h.ap, h.ag⟩
theorem Gt.ltO {g : Nat} {V : Nat → Value} {G : Gs} {w : World} (h : Gt g V G w) {k : Nat} (hk : OB g V k) : k < w.heap.size := by
  rcases hk with rfl | ⟨j, hj, hx⟩
  · exact h.lt
  · exact (h.own j hj).lt hx
theorem Gt.up {g : Nat} {V : Nat → Value} {G : Gs} {w w2 : World} (h : Gt g V G w) (hb : Below w.heap.size w w2) : Gt g V G w2 := h.kept (fun k hk => hb.block k (h.ltO hk))
/-- What a caller owns who gathers. -/
def GR (g : Nat) (G : Gs) (O : Nat → Prop) (w : World) : Prop := ∃ V, Gt g V G w ∧ O = OB g V
theorem gr_held (g : Nat) : Held (GR g) :=
  ⟨fun ⟨V, h, e⟩ k hk => by subst e; exact h.ltO hk, fun ⟨V, h, e⟩ _ hk => by subst e; exact ⟨V, h.kept hk, rfl⟩⟩

/-- One cell is put anew: its row lies in its old block, or in a new one, or in none. -/
theorem Gt.put {g : Nat} {V : Nat → Value} {G G' : Gs} {w w2 : World} (h : Gt g V G w) (j : Nat) (hj : j < 4) (v' : Value) (hg : w.grownBy w2 (V j).ownBlock) (hr : RW G' j v' w2)
    (hz : ∀ i, i < 4 → i ≠ j → ∀ v w, RW G i v w → RW G' i v w) (hat : v'.ownBlock = (V j).ownBlock ∨ ∀ x, v'.ownBlock = some x → w.heap.size ≤ x) :
    Gt g (upd V j v') G' (w2.setCell ⟨g, j, none⟩ v') ∧ Moves (OB g V) w (OB g (upd V j v')) (w2.setCell ⟨g, j, none⟩ v') := by
  have hgl := h.lt
  have hgb : w2.heap[g]? = w.heap[g]? := hg.block g hgl (Ne.symm (h.ag j hj))
  have hc : ∀ i, i < 4 → w2.cell? ⟨g, i, none⟩ = some (V i) := fun i hi => (World.cell?_of_block hgb).trans (h.c i hi)
  have vlt : ∀ i, i < 4 → ∀ x, (V i).ownBlock = some x → x < w.heap.size := fun i hi x hx => (h.own i hi).lt hx
  have vg : v'.ownBlock ≠ some g := by
    rcases hat with e | e
    · rw [e]; exact h.ag j hj
    · intro he; have := e g he; omega
  have vap : ∀ i, i < 4 → i ≠ j → ∀ x, v'.ownBlock = some x → (V i).ownBlock ≠ some x := by
    intro i hi hij x hx he
    rcases hat with e | e
    · rw [e] at hx; exact h.ap j i hj hi (Ne.symm hij) x hx he
    · have := e x hx; have := vlt i hi x he; omega
  have far : ∀ k, k ≠ g → (w2.setCell ⟨g, j, none⟩ v').heap[k]? = w2.heap[k]? := fun k hk => Below.heap_setCell _ _ _ _ hk
  refine ⟨⟨?_, fun i => by rw [World.frozen?_setCell]; exact (World.frozen?_of_block hgb).trans (h.fz i), ?_, ?_, ?_⟩, ?_⟩
  · intro i hi
    unfold upd
    by_cases e : i = j
    · subst e; rw [if_pos rfl]; exact World.cell?_setCell_same _ _ _ (hc i hi)
    · rw [if_neg e, World.cell?_setCell_other _ _ _ _ (off_neP (Ne.symm e))]; exact hc i hi
  · intro i hi
    unfold upd
    by_cases e : i = j
    · subst e; rw [if_pos rfl]; exact hr.kept (fun x hx => far x (fun c => vg (c ▸ hx)))
    · rw [if_neg e]
      refine hz i hi e _ _ ((h.own i hi).kept (fun x hx => (far x (fun c => h.ag i hi (c ▸ hx))).trans (hg.block x (vlt i hi x hx) (fun c => h.ap i j hi hj e x hx c.symm))))
  · intro a b ha hb' hab x hx
    unfold upd at hx ⊢
    by_cases e : a = j
    · subst e
      rw [if_pos rfl] at hx
      rw [if_neg (Ne.symm hab)]
      exact vap b hb' (Ne.symm hab) x hx
    · rw [if_neg e] at hx
      by_cases e2 : b = j
      · subst e2
        rw [if_pos rfl]
        intro he
        exact vap a ha e x he hx
      · rw [if_neg e2]; exact h.ap a b ha hb' hab x hx
  · intro i hi
    unfold upd
    by_cases e : i = j
    · rw [if_pos e]; exact vg
    · rw [if_neg e]; exact h.ag i hi
  · refine ⟨hg.os, hg.tape, hg.output, by simpa using hg.size, fun k hk no => ?_, fun k hk c => ?_⟩
    · exact (far k (fun e => no (.inl e))).trans (hg.block k hk (fun e => no (.inr ⟨j, hj, e.symm⟩)))
    · rcases c with e | ⟨i, hi, hx⟩
      · exact .inl e
      · unfold upd at hx
        by_cases e : i = j
        · rw [if_pos e] at hx
          rcases hat with a | a
          · exact .inr ⟨j, hj, a ▸ hx⟩
          · exact absurd (a k hx) (by omega)
        · rw [if_neg e] at hx; exact .inr ⟨i, hi, hx⟩
theorem grown_al {w w2 : World} {ob : Obj} {row : Option Nat} (h : (w.alloc ob).drew.grownBy w2 row) : w.grownBy w2 row :=
  ⟨h.os, h.tape, h.output, by have := h.size; have e : (w.alloc ob).drew.heap.size = w.heap.size + 1 := by show (w.alloc ob).heap.size = _; simp
                              omega,
    fun k hk hn => (h.block k (by show k < (w.alloc ob).heap.size; simp; omega) hn).trans (Below.heap_alloc w ob k hk)⟩
theorem grown_same (w : World) (row : Option Nat) : w.grownBy w row := ⟨rfl, rfl, rfl, Nat.le_refl _, fun _ _ _ => rfl⟩
theorem Gt.shape {g : Nat} {V : Nat → Value} {G : Gs} {w : World} (h : Gt g V G w) : (∃ a c, V 0 = .slice a G.parts.length c) ∧ (∃ a c, V 2 = .slice a G.put.length c) ∧ (∃ a c, V 3 = .slice a G.drop.length c) := by
  have key : ∀ {B n sz : Nat} {e : TypeId} {v : Value} {xs : List Value}, w.ownsRow B e sz v n xs → ∃ a c, v = .slice a n c := by
    intro B n sz e v xs h
    rcases h.2 with ⟨hv, h0⟩ | ⟨g, cap, cur, hv, _⟩
    · exact ⟨none, 0, by rw [h0, hv]⟩
    · exact ⟨_, cap, hv⟩
  exact ⟨key (h.own 0 (by omega)), key (h.own 2 (by omega)), key (h.own 3 (by omega))⟩
theorem Gt.k1 {g : Nat} {V : Nat → Value} {G : Gs} {w : World} (h : Gt g V G w) : w.cell? ⟨g, 1, none⟩ = some (.int .i64 (G.keep : Int)) := by
  have e : V 1 = .int .i64 (G.keep : Int) := h.own 1 (by omega)
  rw [← e]; exact h.c 1 (by omega)

theorem encP_snoc (l : List Pt) (p : Pt) : encP (l ++ [p]) = encP l ++ [.int .i64 p.keep, .string p.put, .string p.drop] := by simp [encP, ptC]
/-- A part more. -/
theorem gt_part {g : Nat} {V : Nat → Value} {G : Gs} {w w2 : World} {ob : Obj} {gg cap : Nat} (h : Gt g V G w) (p : Pt) (ho : w2.ownsRow 0 67 3 (.slice (some ⟨gg, 0, none⟩) (G.parts.length + 1) cap) (G.parts.length + 1) (encP G.parts ++ [.int .i64 p.keep, .string p.put, .string p.drop]))
    (hg : (w.alloc ob).drew.grownBy w2 (V 0).ownBlock) (hat : (V 0).ownBlock = some gg ∨ gg = w.heap.size + 1) :
    Gt g (upd V 0 (.slice (some ⟨gg, 0, none⟩) (G.parts.length + 1) cap)) ⟨G.parts ++ [p], G.keep, G.put, G.drop⟩ (w2.setCell ⟨g, 0, none⟩ (.slice (some ⟨gg, 0, none⟩) (G.parts.length + 1) cap)) ∧
      Moves (OB g V) w (OB g (upd V 0 (.slice (some ⟨gg, 0, none⟩) (G.parts.length + 1) cap))) (w2.setCell ⟨g, 0, none⟩ (.slice (some ⟨gg, 0, none⟩) (G.parts.length + 1) cap)) := by
  refine h.put (G' := ⟨G.parts ++ [p], G.keep, G.put, G.drop⟩) 0 (by omega) _ (grown_al hg) ?_ ?_ ?_
  · show w2.ownsRow 0 67 3 _ (G.parts ++ [p]).length (encP (G.parts ++ [p]))
    rw [encP_snoc, List.length_append]; exact ho
  · intro i hi hne v w' hr
    unfold RW at hr ⊢
    rw [if_neg hne] at hr ⊢
    exact hr
  · rcases hat with e | e
    · exact .inl e.symm
    · refine .inr (fun x hx => ?_)
      have : gg = x := by injection hx
      omega
/-- The count of kept bytes is set. -/
theorem gt_keep {g : Nat} {V : Nat → Value} {G : Gs} {w : World} (h : Gt g V G w) (n : Nat) : Gt g (upd V 1 (.int .i64 (n : Int))) ⟨G.parts, n, G.put, G.drop⟩ (w.setCell ⟨g, 1, none⟩ (.int .i64 (n : Int))) ∧ Moves (OB g V) w (OB g (upd V 1 (.int .i64 (n : Int)))) (w.setCell ⟨g, 1, none⟩ (.int .i64 (n : Int))) := by
  refine h.put (G' := ⟨G.parts, n, G.put, G.drop⟩) 1 (by omega) _ (grown_same _ _) rfl ?_ (.inr (fun x hx => by cases hx))
  intro i hi hne v w' hr
  unfold RW at hr ⊢
  by_cases e : i = 0
  · rw [if_pos e] at hr ⊢; exact hr
  · rw [if_neg e, if_neg hne] at hr ⊢; exact hr

set_option maxRecDepth 100000 in
set_option maxHeartbeats 4000000 in
theorem endKept_any {g : Nat} {V : Nat → Value} {G : Gs} {w : World} (h : Gt g V G w) (hl : G.parts.length ≤ 4000000) (hk : G.keep ≤ 4000000) :
    Calls Tryd.prog 73 #[.pointer (some ⟨g, 0, none⟩)] w fun e w' => e = .returned (.tuple #[]) ∧ ∃ V', Gt g V' G.endK w' ∧ Moves (OB g V) w (OB g V') w' := by
  obtain ⟨i0, hi0, hz0, hz1, hz2⟩ := info_parts Tryd.infoPart
  have k1 := h.k1
  have kf1 := h.fz 1
  by_cases h0 : 0 < G.keep
  · have k0 := h.c 0 (by omega)
    have kf := h.fz 0
    have lg := h.lt
    have own0 : w.ownsRow 0 67 3 (V 0) G.parts.length (encP G.parts) := h.own 0 (by omega)
    have ne0 := h.ag 0 (by omega)
    obtain ⟨v0, hv0⟩ : ∃ v0, v0 = V 0 := ⟨_, rfl⟩
    have H := hide h
    have Hv := hide hv0
    rw [← hv0] at k0 own0 ne0
    clear h hv0
    go_enter Tryd.func73, Tryd.ntmps73
    go_wp2_with fail
    go_region_law
      ((refine step_append_lies _ (by rfl) _ _ _ (by rfl) 0 67 i0 _ 3 40 Tryd.underlying34 hi0 hz0 hz1 hz2 rfl (by omega) v0 G.parts.length (encP G.parts) (by rfl) ((own0.alloc _).drew)
          ⟨w.heap.size, 0, none⟩ 1 1 [.int .i64 (G.keep : Int), .string ⟨#[]⟩, .string ⟨#[]⟩] (by rfl) (by rfl) (World.news_of_block (cs := #[.int .i64 (G.keep : Int), .string ⟨#[]⟩, .string ⟨#[]⟩]) (t := 67) (fr := (0, 0)) (heap_alloc_new w _)) (by simp [Value.oneCell'])
          (by omega) (by unfold maxLen; omega) (by omega) (by omega) (w.heap.size + 1) (by simp) ?_; intro gg cap w2 hown1 hgrow hat hlt; have hfz := (hgrow.frozen_far ⟨g, 0, none⟩ (by simp; omega) (Ne.symm ne0)).trans (fz_al w _ _ lg kf); have hcz := (hgrow.cell_far ⟨g, 0, none⟩ (by simp; omega) (Ne.symm ne0)).trans (cl_al w _ _ k0)))
    all_goals
      rw [Hv.out] at hgrow hat
      obtain ⟨T1, M1⟩ := gt_part H.out (kp G.keep) hown1 hgrow hat
      have q1 := T1.k1
      have qf := T1.fz 1
      have P2 := hide (gt_keep T1 0)
      have HM := hide M1
      clear k1 k0 own0 ne0 kf kf1 lg H Hv hown1 hgrow hat hlt hfz hcz T1 M1
      go_wp2
      go_end0
      refine ⟨rfl, _, ?_, HM.out.trans P2.out.2⟩
      have e : G.endK = ⟨G.parts ++ [kp G.keep], 0, G.put, G.drop⟩ := by unfold Gs.endK; rw [if_pos h0]
      rw [e]; exact P2.out.1
  · have hke : G.keep = 0 := by omega
    have P2 := hide (gt_keep h 0)
    have e : G.endK = ⟨G.parts, 0, G.put, G.drop⟩ := by unfold Gs.endK; rw [if_neg h0, List.append_nil]
    rw [e]
    rw [hke] at k1
    clear h e
    go_enter Tryd.func73, Tryd.ntmps73
    go_wp2
    go_end0
    exact ⟨rfl, _, P2.out.1, P2.out.2⟩
end Go.Proofs.YtbmnciejaknonauDoor
