/- The gathering in memory: a block whose cells name rows of its own, by footprints. The gathering's endChanged. The gathering's add. The gathering's add, of any step, and whole. -/
import Derived.Test.YtkjioadmebkaoaaDoorOpW5
import Derived.Test.YtkjioadmebkaoaaDoorWalks6
import Derived.Deep.RegionHeld3
import Derived.Deep.RegionLaw
import Derived.Deep.AppendLies
import Derived.Maps.AppendAt
import Derived.Test.YtkjioadmebkaoaaDoorKeep1
import Derived.Deep.CutRange
import Derived.Test.YtkjioadmebkaoaaDoorOpW36
import Derived.Test.YtkjioadmebkaoaaDoorOpsM
namespace Go.Proofs.YtkjioadmebkaoaaDoor
open Go.RowKit
open Doc1

def upG (V : Nat → Value) (j : Nat) (v : Value) : Nat → Value := fun i => if i = j then v else V i
theorem Tryd.infoByt : (Tryd.prog.info? 5).map (fun i => (i.zero, i.size, i.bytes)) = some (some (.int .u8 0), 1, 1) := by kernel_rfl

/-- What a cell of the gathering holds. -/
def RW (G : Gs) (j : Nat) (v : Value) (w : World) : Prop :=
  if j = 0 then w.ownsRow 0 136 3 v G.parts.length (encP G.parts)
  else if j = 1 then v = .int .i64 (G.keep : Int)
  else if j = 2 then w.ownsRow 0 5 1 v G.put.length (byt G.put)
  else w.ownsRow 0 5 1 v G.drop.length (byt G.drop)
structure Gt (g : Nat) (V : Nat → Value) (G : Gs) (w : World) : Prop where
  c : ∀ j, j < 4 → w.cell? ⟨g, j, none⟩ = some (V j)
  fz : ∀ j, w.frozen? ⟨g, j, none⟩ = false
  own : ∀ j, j < 4 → RW G j (V j) w
  ap : ∀ i j, i < 4 → j < 4 → i ≠ j → ∀ x, (V i).ownBlock = some x → (V j).ownBlock ≠ some x
  ag : ∀ j, j < 4 → (V j).ownBlock ≠ some g
/-- Its blocks. -/
def OB (g : Nat) (V : Nat → Value) (k : Nat) : Prop := k = g ∨ ∃ j, j < 4 ∧ (V j).ownBlock = some k

theorem own_move {w w2 : World} {B n sz : Nat} {e : TypeId} {v : Value} {xs : List Value} (h : w.ownsRow B e sz v n xs) (hk : ∀ x, v.ownBlock = some x → w2.heap[x]? = w.heap[x]?) : w2.ownsRow B e sz v n xs := by
  refine ⟨h.1, ?_⟩
  rcases h.2 with hn | ⟨g', cap, cur, hv, hb', hh, rest⟩
  · exact .inl hn
  · exact .inr ⟨g', cap, cur, hv, hb', (hk g' (by rw [hv]; rfl)).trans hh, rest⟩
theorem RW.kept {G : Gs} {j : Nat} {v : Value} {w w2 : World} (h : RW G j v w) (hk : ∀ x, v.ownBlock = some x → w2.heap[x]? = w.heap[x]?) : RW G j v w2 := by
  unfold RW at h ⊢
  split
  · rename_i e; rw [if_pos e] at h; exact own_move h hk
  · rename_i e; rw [if_neg e] at h
    split
    · rename_i e1; rw [if_pos e1] at h; exact h
    · rename_i e1; rw [if_neg e1] at h
      split
      · rename_i e2; rw [if_pos e2] at h; exact own_move h hk
      · rename_i e2; rw [if_neg e2] at h; exact own_move h hk
theorem own_lt {w : World} {B n sz : Nat} {e : TypeId} {v : Value} {xs : List Value} (h : w.ownsRow B e sz v n xs) {x : Nat} (hx : v.ownBlock = some x) : x < w.heap.size := (h.lt x hx).2
theorem RW.lt {G : Gs} {j : Nat} {v : Value} {w : World} (h : RW G j v w) {x : Nat} (hx : v.ownBlock = some x) : x < w.heap.size := by
  unfold RW at h
  split at h
  · exact own_lt h hx
  · split at h
    · rw [h] at hx; cases hx
    · split at h
      · exact own_lt h hx
      · exact own_lt h hx
theorem Gt.lt {g : Nat} {V : Nat → Value} {G : Gs} {w : World} (h : Gt g V G w) : g < w.heap.size := World.block_lt_of_cell? w _ (h.c 0 (by omega))
theorem Gt.kept {g : Nat} {V : Nat → Value} {G : Gs} {w w2 : World} (h : Gt g V G w) (hk : ∀ k, OB g V k → w2.heap[k]? = w.heap[k]?) : Gt g V G w2 :=
  ⟨fun j hj => (World.cell?_of_block (hk g (.inl rfl))).trans (h.c j hj), fun j => (World.frozen?_of_block (hk g (.inl rfl))).trans (h.fz j), fun j hj => (h.own j hj).kept (fun x hx => hk x (.inr ⟨j, hj, hx⟩)), h.ap, h.ag⟩
theorem Gt.ltO {g : Nat} {V : Nat → Value} {G : Gs} {w : World} (h : Gt g V G w) {k : Nat} (hk : OB g V k) : k < w.heap.size := by
  rcases hk with rfl | ⟨j, hj, hx⟩
  · exact h.lt
  · exact (h.own j hj).lt hx
theorem Gt.up {g : Nat} {V : Nat → Value} {G : Gs} {w w2 : World} (h : Gt g V G w) (hb : Below w.heap.size w w2) : Gt g V G w2 := h.kept (fun k hk => hb.block k (h.ltO hk))
/-- What a caller owns who gathers. -/
def GR (g : Nat) (G : Gs) (O : Nat → Prop) (w : World) : Prop := ∃ V, Gt g V G w ∧ O = OB g V
theorem gr_held (g : Nat) : Held (GR g) :=
  ⟨fun ⟨V, h, e⟩ k hk => by subst e; exact h.ltO hk, fun ⟨V, h, e⟩ _ hk => by subst e; exact ⟨V, h.kept hk, rfl⟩⟩

/-- One cell is put anew: its row lies in its old block, or in a new one, or in none. -/
theorem Gt.put {g : Nat} {V : Nat → Value} {G G' : Gs} {w w2 : World} (h : Gt g V G w) (j : Nat) (hj : j < 4) (v' : Value) (hg : w.grownBy w2 (V j).ownBlock) (hr : RW G' j v' w2)
    (hz : ∀ i, i < 4 → i ≠ j → ∀ v w, RW G i v w → RW G' i v w) (hat : v'.ownBlock = (V j).ownBlock ∨ ∀ x, v'.ownBlock = some x → w.heap.size ≤ x) :
    Gt g (upG V j v') G' (w2.setCell ⟨g, j, none⟩ v') ∧ Moves (OB g V) w (OB g (upG V j v')) (w2.setCell ⟨g, j, none⟩ v') := by
  have hgl := h.lt
  have hgb : w2.heap[g]? = w.heap[g]? := hg.block g hgl (Ne.symm (h.ag j hj))
  have hc : ∀ i, i < 4 → w2.cell? ⟨g, i, none⟩ = some (V i) := fun i hi => (World.cell?_of_block hgb).trans (h.c i hi)
  have vlt : ∀ i, i < 4 → ∀ x, (V i).ownBlock = some x → x < w.heap.size := fun i hi x hx => (h.own i hi).lt hx
  have vg : v'.ownBlock ≠ some g := by
    rcases hat with e | e
    · rw [e]; exact h.ag j hj
    · intro he; have := e g he; omega
  have vap : ∀ i, i < 4 → i ≠ j → ∀ x, v'.ownBlock = some x → (V i).ownBlock ≠ some x := by
    intro i hi hij x hx he
    rcases hat with e | e
    · rw [e] at hx; exact h.ap j i hj hi (Ne.symm hij) x hx he
    · have := e x hx; have := vlt i hi x he; omega
  have far : ∀ k, k ≠ g → (w2.setCell ⟨g, j, none⟩ v').heap[k]? = w2.heap[k]? := fun k hk => Below.heap_setCell _ _ _ _ hk
  refine ⟨⟨?_, fun i => by rw [World.frozen?_setCell]; exact (World.frozen?_of_block hgb).trans (h.fz i), ?_, ?_, ?_⟩, ?_⟩
  · intro i hi
    unfold upG
    by_cases e : i = j
    · subst e; rw [if_pos rfl]; exact World.cell?_setCell_same _ _ _ (hc i hi)
    · rw [if_neg e, World.cell?_setCell_other _ _ _ _ (off_neP (Ne.symm e))]; exact hc i hi
  · intro i hi
    unfold upG
    by_cases e : i = j
    · subst e; rw [if_pos rfl]; exact hr.kept (fun x hx => far x (fun c => vg (c ▸ hx)))
    · rw [if_neg e]
      refine hz i hi e _ _ ((h.own i hi).kept (fun x hx => (far x (fun c => h.ag i hi (c ▸ hx))).trans (hg.block x (vlt i hi x hx) (fun c => h.ap i j hi hj e x hx c.symm))))
  · intro a b ha hb' hab x hx
    unfold upG at hx ⊢
    by_cases e : a = j
    · subst e
      rw [if_pos rfl] at hx
      rw [if_neg (Ne.symm hab)]
      exact vap b hb' (Ne.symm hab) x hx
    · rw [if_neg e] at hx
      by_cases e2 : b = j
      · subst e2
        rw [if_pos rfl]
        intro he
        exact vap a ha e x he hx
      · rw [if_neg e2]; exact h.ap a b ha hb' hab x hx
  · intro i hi
    unfold upG
    by_cases e : i = j
    · rw [if_pos e]; exact vg
    · rw [if_neg e]; exact h.ag i hi
  · refine ⟨hg.os, hg.tape, hg.output, by simpa using hg.size, fun k hk no => ?_, fun k hk c => ?_⟩
    · exact (far k (fun e => no (.inl e))).trans (hg.block k hk (fun e => no (.inr ⟨j, hj, e.symm⟩)))
    · rcases c with e | ⟨i, hi, hx⟩
      · exact .inl e
      · unfold upG at hx
        by_cases e : i = j
        · rw [if_pos e] at hx
          rcases hat with a | a
          · exact .inr ⟨j, hj, a ▸ hx⟩
          · exact absurd (a k hx) (by omega)
        · rw [if_neg e] at hx; exact .inr ⟨i, hi, hx⟩
theorem grown_al {w w2 : World} {ob : Obj} {row : Option Nat} (h : (w.alloc ob).drew.grownBy w2 row) : w.grownBy w2 row :=
  ⟨h.os, h.tape, h.output, by have := h.size; have e : (w.alloc ob).drew.heap.size = w.heap.size + 1 := by show (w.alloc ob).heap.size = _; simp
                              omega,
    fun k hk hn => (h.block k (by show k < (w.alloc ob).heap.size; simp; omega) hn).trans (Below.heap_alloc w ob k hk)⟩
theorem grown_same (w : World) (row : Option Nat) : w.grownBy w row := ⟨rfl, rfl, rfl, Nat.le_refl _, fun _ _ _ => rfl⟩
theorem Gt.shape {g : Nat} {V : Nat → Value} {G : Gs} {w : World} (h : Gt g V G w) : (∃ a c, V 0 = .slice a G.parts.length c) ∧ (∃ a c, V 2 = .slice a G.put.length c) ∧ (∃ a c, V 3 = .slice a G.drop.length c) := by
  have key : ∀ {B n sz : Nat} {e : TypeId} {v : Value} {xs : List Value}, w.ownsRow B e sz v n xs → ∃ a c, v = .slice a n c := by
    intro B n sz e v xs h
    rcases h.2 with ⟨hv, h0⟩ | ⟨g, cap, cur, hv, _⟩
    · exact ⟨none, 0, by rw [h0, hv]⟩
    · exact ⟨_, cap, hv⟩
  exact ⟨key (h.own 0 (by omega)), key (h.own 2 (by omega)), key (h.own 3 (by omega))⟩
theorem Gt.k1 {g : Nat} {V : Nat → Value} {G : Gs} {w : World} (h : Gt g V G w) : w.cell? ⟨g, 1, none⟩ = some (.int .i64 (G.keep : Int)) := by
  have e : V 1 = .int .i64 (G.keep : Int) := h.own 1 (by omega)
  rw [← e]; exact h.c 1 (by omega)

theorem encP_snoc (l : List Pt) (p : Pt) : encP (l ++ [p]) = encP l ++ [.int .i64 p.keep, .string p.put, .string p.drop] := by simp [encP, ptC]
/-- A part more. -/
theorem gt_part {g : Nat} {V : Nat → Value} {G : Gs} {w w2 : World} {ob : Obj} {gg cap : Nat} (h : Gt g V G w) (p : Pt) (ho : w2.ownsRow 0 136 3 (.slice (some ⟨gg, 0, none⟩) (G.parts.length + 1) cap) (G.parts.length + 1) (encP G.parts ++ [.int .i64 p.keep, .string p.put, .string p.drop]))
    (hg : (w.alloc ob).drew.grownBy w2 (V 0).ownBlock) (hat : (V 0).ownBlock = some gg ∨ gg = w.heap.size + 1) :
    Gt g (upG V 0 (.slice (some ⟨gg, 0, none⟩) (G.parts.length + 1) cap)) ⟨G.parts ++ [p], G.keep, G.put, G.drop⟩ (w2.setCell ⟨g, 0, none⟩ (.slice (some ⟨gg, 0, none⟩) (G.parts.length + 1) cap)) ∧
      Moves (OB g V) w (OB g (upG V 0 (.slice (some ⟨gg, 0, none⟩) (G.parts.length + 1) cap))) (w2.setCell ⟨g, 0, none⟩ (.slice (some ⟨gg, 0, none⟩) (G.parts.length + 1) cap)) := by
  refine h.put (G' := ⟨G.parts ++ [p], G.keep, G.put, G.drop⟩) 0 (by omega) _ (grown_al hg) ?_ ?_ ?_
  · show w2.ownsRow 0 136 3 _ (G.parts ++ [p]).length (encP (G.parts ++ [p]))
    rw [encP_snoc, List.length_append]; exact ho
  · intro i hi hne v w' hr
    unfold RW at hr ⊢
    rw [if_neg hne] at hr ⊢
    exact hr
  · rcases hat with e | e
    · exact .inl e.symm
    · refine .inr (fun x hx => ?_)
      have : gg = x := by injection hx
      omega
/-- The count of kept bytes is set. -/
theorem gt_keep {g : Nat} {V : Nat → Value} {G : Gs} {w : World} (h : Gt g V G w) (n : Nat) : Gt g (upG V 1 (.int .i64 (n : Int))) ⟨G.parts, n, G.put, G.drop⟩ (w.setCell ⟨g, 1, none⟩ (.int .i64 (n : Int))) ∧ Moves (OB g V) w (OB g (upG V 1 (.int .i64 (n : Int)))) (w.setCell ⟨g, 1, none⟩ (.int .i64 (n : Int))) := by
  refine h.put (G' := ⟨G.parts, n, G.put, G.drop⟩) 1 (by omega) _ (grown_same _ _) rfl ?_ (.inr (fun x hx => by cases hx))
  intro i hi hne v w' hr
  unfold RW at hr ⊢
  by_cases e : i = 0
  · rw [if_pos e] at hr ⊢; exact hr
  · rw [if_neg e, if_neg hne] at hr ⊢; exact hr

set_option maxRecDepth 100000 in
set_option maxHeartbeats 4000000 in
theorem endKept_any {g : Nat} {V : Nat → Value} {G : Gs} {w : World} (h : Gt g V G w) (hl : G.parts.length ≤ 4000000) (hk : G.keep ≤ 4000000) :
    Calls Tryd.prog 205 #[.pointer (some ⟨g, 0, none⟩)] w fun e w' => e = .returned (.tuple #[]) ∧ ∃ V', Gt g V' G.endK w' ∧ Moves (OB g V) w (OB g V') w' := by
  obtain ⟨i0, hi0, hz0, hz1, hz2⟩ := info_parts Tryd.infoPart
  have k1 := h.k1
  have kf1 := h.fz 1
  by_cases h0 : 0 < G.keep
  · have k0 := h.c 0 (by omega)
    have kf := h.fz 0
    have lg := h.lt
    have own0 : w.ownsRow 0 136 3 (V 0) G.parts.length (encP G.parts) := h.own 0 (by omega)
    have ne0 := h.ag 0 (by omega)
    obtain ⟨v0, hv0⟩ : ∃ v0, v0 = V 0 := ⟨_, rfl⟩
    have H := hide h
    have Hv := hide hv0
    rw [← hv0] at k0 own0 ne0
    clear h hv0
    go_enter Tryd.func205, Tryd.ntmps205
    go_wp2_with fail
    go_region_law
      ((refine step_append_lies _ (by rfl) _ _ _ (by rfl) 0 136 i0 _ 3 40 Tryd.underlying45 hi0 hz0 hz1 hz2 rfl (by omega) v0 G.parts.length (encP G.parts) (by rfl) ((own0.alloc _).drew)
          ⟨w.heap.size, 0, none⟩ 1 1 [.int .i64 (G.keep : Int), .string ⟨#[]⟩, .string ⟨#[]⟩] (by rfl) (by rfl) (World.news_of_block (cs := #[.int .i64 (G.keep : Int), .string ⟨#[]⟩, .string ⟨#[]⟩]) (t := 136) (fr := (0, 0)) (heap_alloc_new w _)) (by simp [Value.oneCell'])
          (by omega) (by unfold maxLen; omega) (by omega) (by omega) (w.heap.size + 1) (by simp) ?_; intro gg cap w2 hown1 hgrow hat hlt; have hfz := (hgrow.frozen_far ⟨g, 0, none⟩ (by simp; omega) (Ne.symm ne0)).trans (fz_al w _ _ lg kf); have hcz := (hgrow.cell_far ⟨g, 0, none⟩ (by simp; omega) (Ne.symm ne0)).trans (cl_al w _ _ k0)))
    all_goals
      rw [Hv.out] at hgrow hat
      obtain ⟨T1, M1⟩ := gt_part H.out (kp G.keep) hown1 hgrow hat
      have q1 := T1.k1
      have qf := T1.fz 1
      have P2 := hide (gt_keep T1 0)
      have HM := hide M1
      clear k1 k0 own0 ne0 kf kf1 lg H Hv hown1 hgrow hat hlt hfz hcz T1 M1
      go_wp2
      go_end0
      refine ⟨rfl, _, ?_, HM.out.trans P2.out.2⟩
      have e : G.endK = ⟨G.parts ++ [kp G.keep], 0, G.put, G.drop⟩ := by unfold Gs.endK; rw [if_pos h0]
      rw [e]; exact P2.out.1
  · have hke : G.keep = 0 := by omega
    have P2 := hide (gt_keep h 0)
    have e : G.endK = ⟨G.parts, 0, G.put, G.drop⟩ := by unfold Gs.endK; rw [if_neg h0, List.append_nil]
    rw [e]
    rw [hke] at k1
    clear h e
    go_enter Tryd.func205, Tryd.ntmps205
    go_wp2
    go_end0
    exact ⟨rfl, _, P2.out.1, P2.out.2⟩
end Go.Proofs.YtkjioadmebkaoaaDoor

namespace Go.Proofs.YtkjioadmebkaoaaDoor
open Go.RowKit
open Doc1

/-- Nothing is pending any more. -/
theorem gt_clear {g : Nat} {V : Nat → Value} {G : Gs} {w : World} (h : Gt g V G w) :
    Gt g (upG (upG V 2 (.slice none 0 0)) 3 (.slice none 0 0)) ⟨G.parts, G.keep, [], []⟩ ((w.setCell ⟨g, 2, none⟩ (.slice none 0 0)).setCell ⟨g, 3, none⟩ (.slice none 0 0)) ∧
      Moves (OB g V) w (OB g (upG (upG V 2 (.slice none 0 0)) 3 (.slice none 0 0))) ((w.setCell ⟨g, 2, none⟩ (.slice none 0 0)).setCell ⟨g, 3, none⟩ (.slice none 0 0)) := by
  have nil : ∀ w' : World, w'.ownsRow 0 5 1 (.slice none 0 0) 0 [] := fun w' => World.ownsRow_nil _ _ _ _
  obtain ⟨T1, M1⟩ := h.put (G' := ⟨G.parts, G.keep, [], G.drop⟩) 2 (by omega) (.slice none 0 0) (grown_same _ _) (nil _) (by
    intro i hi hne v w' hr
    unfold RW at hr ⊢
    by_cases e : i = 0
    · rw [if_pos e] at hr ⊢; exact hr
    · rw [if_neg e] at hr ⊢
      by_cases e1 : i = 1
      · rw [if_pos e1] at hr ⊢; exact hr
      · rw [if_neg e1, if_neg hne] at hr ⊢; exact hr) (.inr (fun x hx => by cases hx))
  obtain ⟨T2, M2⟩ := T1.put (G' := ⟨G.parts, G.keep, [], []⟩) 3 (by omega) (.slice none 0 0) (grown_same _ _) (nil _) (by
    intro i hi hne v w' hr
    unfold RW at hr ⊢
    by_cases e : i = 0
    · rw [if_pos e] at hr ⊢; exact hr
    · rw [if_neg e] at hr ⊢
      by_cases e1 : i = 1
      · rw [if_pos e1] at hr ⊢; exact hr
      · rw [if_neg e1] at hr ⊢
        rw [if_pos (by omega)] at hr ⊢; exact hr) (.inr (fun x hx => by cases hx))
  exact ⟨T2, M1.trans M2⟩

/-- The parts that are ended, one after the other. -/
def Doc1.Gs.endP (G : Gs) : Gs := ⟨G.parts ++ (if G.put = [] then [] else [pp G.put]), G.keep, G.put, G.drop⟩
def Doc1.Gs.endD (G : Gs) : Gs := ⟨G.parts ++ (if G.drop = [] then [] else [dp G.drop]), G.keep, G.put, G.drop⟩
theorem endC_eq (G : Gs) : G.endC = ⟨G.endP.endD.parts, G.keep, [], []⟩ := by unfold Doc1.Gs.endC Doc1.Gs.endP Doc1.Gs.endD; rw [List.append_assoc]

set_option maxRecDepth 100000 in
set_option maxHeartbeats 4000000 in
theorem endChanged_any {g : Nat} {V : Nat → Value} {G : Gs} {w : World} (h : Gt g V G w) (hl : G.parts.length ≤ 4000000) (_hp : G.put.length ≤ 4000000) (hd : G.drop.length ≤ 4000000) :
    Calls Tryd.prog 204 #[.pointer (some ⟨g, 0, none⟩)] w fun e w' => e = .returned (.tuple #[]) ∧ ∃ V', Gt g V' G.endC w' ∧ Moves (OB g V) w (OB g V') w' := by
  obtain ⟨i0, hi0, hz0, hz1, hz2⟩ := info_parts Tryd.infoPart
  obtain ⟨-, ⟨ab, cb, hVb⟩, -⟩ := h.shape
  have kb := h.c 2 (by omega)
  rw [hVb] at kb
  have H := hide h
  have HVb := hide hVb
  clear h hVb
  go_enter Tryd.func204, Tryd.ntmps204
  go_upto_if 7 with fail
  go_cut [8] from 5 to 22 (fun _ wx => ∃ V', Gt g V' G.endP wx ∧ Moves (OB g V) w (OB g V') wx)
  case first =>
    have k0 := H.out.c 0 (by omega)
    have kf := H.out.fz 0
    have lg := H.out.lt
    have own0 : w.ownsRow 0 136 3 (V 0) G.parts.length (encP G.parts) := H.out.own 0 (by omega)
    have ownb : w.ownsRow 0 5 1 (V 2) G.put.length (byt G.put) := H.out.own 2 (by omega)
    have hcv : (convert 22 9 (.slice ab G.put.length cb)).run Tryd.prog w.drew = .ok (.string (ba G.put)) w.drew := by
      rw [← HVb.out]; exact conv_own (w := w.drew) (own_move ownb (fun _ _ => rfl))
    have ne0 := H.out.ag 0 (by omega)
    by_cases he : G.put = []
    · have hln : G.put.length = 0 := by rw [he]; rfl
      have hG : G.endP = G := by unfold Doc1.Gs.endP; rw [if_pos he, List.append_nil]
      rw [hln] at kb
      clear k0 kf own0 ownb hcv ne0
      go_wp2_with fail
      go_meet
      case rel => rw [hG]; exact ⟨_, H.out, Moves.refl _ _⟩
    · have hln : 0 < G.put.length := List.length_pos_iff.2 he
      have hG : G.endP = ⟨G.parts ++ [pp G.put], G.keep, G.put, G.drop⟩ := by unfold Doc1.Gs.endP; rw [if_neg he]
      have HG := hide hG
      obtain ⟨v0, hv0⟩ : ∃ v0, v0 = V 0 := ⟨_, rfl⟩
      have Hv := hide hv0
      rw [← hv0] at k0 own0 ne0
      clear hv0 hG ownb
      go_wp2_with fail
      go_region_law
        ((refine step_append_lies _ (by rfl) _ _ _ (by rfl) 0 136 i0 _ 3 40 Tryd.underlying45 hi0 hz0 hz1 hz2 rfl (by omega) v0 G.parts.length (encP G.parts) (by rfl) ((own0.alloc _).drew)
            ⟨w.heap.size, 0, none⟩ 1 1 [.int .i64 0, .string (ba G.put), .string ⟨#[]⟩] (by rfl) (by rfl) (World.news_of_block (cs := #[.int .i64 0, .string (ba G.put), .string ⟨#[]⟩]) (t := 136) (fr := (0, 0)) (heap_alloc_new w _)) (by simp [Value.oneCell'])
            (by omega) (by unfold maxLen; omega) (by omega) (by omega) (w.heap.size + 1) (by simp) ?_; intro gg cap w2 hown1 hgrow hat hlt; have hfz := (hgrow.frozen_far ⟨g, 0, none⟩ (by simp; omega) (Ne.symm ne0)).trans (fz_al w _ _ lg kf); have hcz := (hgrow.cell_far ⟨g, 0, none⟩ (by simp; omega) (Ne.symm ne0)).trans (cl_al w _ _ k0)))
      all_goals
        rw [Hv.out] at hgrow hat
        have T1 := hide (gt_part H.out (pp G.put) hown1 hgrow hat)
        clear k0 own0 ne0 kf lg hown1 hgrow hat hlt
        go_wp2_with fail
        go_meet
        case rel => rw [HG.out]; exact ⟨_, T1.out.1, T1.out.2⟩
  case rest =>
    obtain ⟨V1, h1, M1⟩ := hcut
    have HM := hide M1
    have hl1 : G.endP.parts.length ≤ 4000001 := by unfold Doc1.Gs.endP; simp only [List.length_append]; split <;> simp <;> omega
    have hd1 : G.endP.drop.length ≤ 4000000 := hd
    have hfin := hide (endC_eq G)
    have hkp : G.endP.keep = G.keep := rfl
    clear H HVb kb M1 ab cb
    obtain ⟨G1, hG1⟩ : ∃ G1, G1 = G.endP := ⟨_, rfl⟩
    rw [← hG1] at h1 hl1 hd1 hfin hkp
    clear hG1
    obtain ⟨-, -, ⟨ab, cb, hVb⟩⟩ := h1.shape
    have kb := h1.c 3 (by omega)
    rw [hVb] at kb
    have H1 := hide h1
    have HVb := hide hVb
    clear h1 hVb
    go_upto_if 28 with fail
    go_cut [29] from 26 to 43 (fun _ wx => ∃ V', Gt g V' G1.endD wx ∧ Moves (OB g V) w (OB g V') wx)
    case first =>
      have k0 := H1.out.c 0 (by omega)
      have kf := H1.out.fz 0
      have lg := H1.out.lt
      have own0 : wc.ownsRow 0 136 3 (V1 0) G1.parts.length (encP G1.parts) := H1.out.own 0 (by omega)
      have ownb : wc.ownsRow 0 5 1 (V1 3) G1.drop.length (byt G1.drop) := H1.out.own 3 (by omega)
      have hcv : (convert 22 9 (.slice ab G1.drop.length cb)).run Tryd.prog wc.drew = .ok (.string (ba G1.drop)) wc.drew := by
        rw [← HVb.out]; exact conv_own (w := wc.drew) (own_move ownb (fun _ _ => rfl))
      have ne0 := H1.out.ag 0 (by omega)
      by_cases he : G1.drop = []
      · have hln : G1.drop.length = 0 := by rw [he]; rfl
        have hG : G1.endD = G1 := by unfold Doc1.Gs.endD; rw [if_pos he, List.append_nil]
        rw [hln] at kb
        clear k0 kf own0 ownb hcv ne0
        go_wp2_with fail
        go_meet
        case rel => rw [hG]; exact ⟨_, H1.out, HM.out⟩
      · have hln : 0 < G1.drop.length := List.length_pos_iff.2 he
        have hG : G1.endD = ⟨G1.parts ++ [dp G1.drop], G1.keep, G1.put, G1.drop⟩ := by unfold Doc1.Gs.endD; rw [if_neg he]
        have HG := hide hG
        obtain ⟨v0, hv0⟩ : ∃ v0, v0 = V1 0 := ⟨_, rfl⟩
        have Hv := hide hv0
        rw [← hv0] at k0 own0 ne0
        clear hv0 hG ownb
        go_wp2_with fail
        go_region_law
          ((refine step_append_lies _ (by rfl) _ _ _ (by rfl) 0 136 i0 _ 3 40 Tryd.underlying45 hi0 hz0 hz1 hz2 rfl (by omega) v0 G1.parts.length (encP G1.parts) (by rfl) ((own0.alloc _).drew)
              ⟨wc.heap.size, 0, none⟩ 1 1 [.int .i64 0, .string ⟨#[]⟩, .string (ba G1.drop)] (by rfl) (by rfl) (World.news_of_block (cs := #[.int .i64 0, .string ⟨#[]⟩, .string (ba G1.drop)]) (t := 136) (fr := (0, 0)) (heap_alloc_new wc _)) (by simp [Value.oneCell'])
              (by omega) (by unfold maxLen; omega) (by omega) (by omega) (wc.heap.size + 1) (by simp) ?_; intro gg cap w2 hown1 hgrow hat hlt; have hfz := (hgrow.frozen_far ⟨g, 0, none⟩ (by simp; omega) (Ne.symm ne0)).trans (fz_al wc _ _ lg kf); have hcz := (hgrow.cell_far ⟨g, 0, none⟩ (by simp; omega) (Ne.symm ne0)).trans (cl_al wc _ _ k0)))
        all_goals
          rw [Hv.out] at hgrow hat
          have T1 := hide (gt_part H1.out (dp G1.drop) hown1 hgrow hat)
          clear k0 own0 ne0 kf lg hown1 hgrow hat hlt
          go_wp2_with fail
          go_meet
          case rel => rw [HG.out]; exact ⟨_, T1.out.1, HM.out.trans T1.out.2⟩
    case rest =>
      obtain ⟨V2, h2, M2⟩ := hcut
      have j2 := h2.c 2 (by omega)
      have j3 := h2.c 3 (by omega)
      have f2 := h2.fz 2
      have f3 : (wc.setCell ⟨g, 2, none⟩ (.slice none 0 0)).frozen? ⟨g, 3, none⟩ = false := by rw [World.frozen?_setCell]; exact h2.fz 3
      have P := hide (gt_clear h2)
      have HM2 := hide M2
      clear h2 M2 H1 HVb kb
      go_wp2
      go_end0
      refine ⟨rfl, _, ?_, HM2.out.trans P.out.2⟩
      rw [hfin.out, ← hkp]; exact P.out.1
end Go.Proofs.YtkjioadmebkaoaaDoor

namespace Go.Proofs.YtkjioadmebkaoaaDoor
open Go.RowKit
open Doc1

/-- A byte more that is put, or dropped. -/
theorem gt_put {g : Nat} {V : Nat → Value} {G : Gs} {w w2 : World} {ob : Obj} {gg cap : Nat} (h : Gt g V G w) (c : UInt8) (ho : w2.ownsRow 0 5 1 (.slice (some ⟨gg, 0, none⟩) (G.put.length + 1) cap) (G.put.length + 1) (byt G.put ++ [.int .u8 (c.toNat : Int)]))
    (hg : (w.alloc ob).drew.grownBy w2 (V 2).ownBlock) (hat : (V 2).ownBlock = some gg ∨ gg = w.heap.size + 1) :
    Gt g (upG V 2 (.slice (some ⟨gg, 0, none⟩) (G.put.length + 1) cap)) ⟨G.parts, G.keep, G.put ++ [c], G.drop⟩ (w2.setCell ⟨g, 2, none⟩ (.slice (some ⟨gg, 0, none⟩) (G.put.length + 1) cap)) ∧
      Moves (OB g V) w (OB g (upG V 2 (.slice (some ⟨gg, 0, none⟩) (G.put.length + 1) cap))) (w2.setCell ⟨g, 2, none⟩ (.slice (some ⟨gg, 0, none⟩) (G.put.length + 1) cap)) := by
  refine h.put (G' := ⟨G.parts, G.keep, G.put ++ [c], G.drop⟩) 2 (by omega) _ (grown_al hg) ?_ ?_ ?_
  · show w2.ownsRow 0 5 1 _ (G.put ++ [c]).length (byt (G.put ++ [c]))
    rw [byt_snoc, List.length_append]; exact ho
  · intro i hi hne v w' hr
    unfold RW at hr ⊢
    by_cases e : i = 0
    · rw [if_pos e] at hr ⊢; exact hr
    · rw [if_neg e] at hr ⊢
      by_cases e1 : i = 1
      · rw [if_pos e1] at hr ⊢; exact hr
      · rw [if_neg e1, if_neg hne] at hr ⊢; exact hr
  · rcases hat with e | e
    · exact .inl e.symm
    · refine .inr (fun x hx => ?_)
      have : gg = x := by injection hx
      omega
theorem gt_drop {g : Nat} {V : Nat → Value} {G : Gs} {w w2 : World} {ob : Obj} {gg cap : Nat} (h : Gt g V G w) (c : UInt8) (ho : w2.ownsRow 0 5 1 (.slice (some ⟨gg, 0, none⟩) (G.drop.length + 1) cap) (G.drop.length + 1) (byt G.drop ++ [.int .u8 (c.toNat : Int)]))
    (hg : (w.alloc ob).drew.grownBy w2 (V 3).ownBlock) (hat : (V 3).ownBlock = some gg ∨ gg = w.heap.size + 1) :
    Gt g (upG V 3 (.slice (some ⟨gg, 0, none⟩) (G.drop.length + 1) cap)) ⟨G.parts, G.keep, G.put, G.drop ++ [c]⟩ (w2.setCell ⟨g, 3, none⟩ (.slice (some ⟨gg, 0, none⟩) (G.drop.length + 1) cap)) ∧
      Moves (OB g V) w (OB g (upG V 3 (.slice (some ⟨gg, 0, none⟩) (G.drop.length + 1) cap))) (w2.setCell ⟨g, 3, none⟩ (.slice (some ⟨gg, 0, none⟩) (G.drop.length + 1) cap)) := by
  refine h.put (G' := ⟨G.parts, G.keep, G.put, G.drop ++ [c]⟩) 3 (by omega) _ (grown_al hg) ?_ ?_ ?_
  · show w2.ownsRow 0 5 1 _ (G.drop ++ [c]).length (byt (G.drop ++ [c]))
    rw [byt_snoc, List.length_append]; exact ho
  · intro i hi hne v w' hr
    unfold RW at hr ⊢
    by_cases e : i = 0
    · rw [if_pos e] at hr ⊢; exact hr
    · rw [if_neg e] at hr ⊢
      by_cases e1 : i = 1
      · rw [if_pos e1] at hr ⊢; exact hr
      · rw [if_neg e1, if_pos (by omega)] at hr ⊢; exact hr
  · rcases hat with e | e
    · exact .inl e.symm
    · refine .inr (fun x hx => ?_)
      have : gg = x := by injection hx
      omega
theorem cells2_new (w : World) (a b : Value) : (∀ t, (w.alloc (.cells #[a, b] t)).cell? ⟨w.heap.size, 0, none⟩ = some a) ∧ (∀ t, (w.alloc (.cells #[a, b] t)).cell? ⟨w.heap.size, 1, none⟩ = some b) := by
  refine ⟨fun t => ?_, fun t => ?_⟩
  all_goals
    unfold World.cell?
    rw [heap_alloc_new]; rfl

/-- Bounds that serve a step. -/
structure GB (G : Gs) (n : Nat) : Prop where
  p : G.parts.length ≤ 2 * n
  k : G.keep ≤ n
  a : G.put.length ≤ n
  d : G.drop.length ≤ n

set_option maxRecDepth 100000 in
set_option maxHeartbeats 4000000 in
theorem add_keepI {g : Nat} {V : Nat → Value} {G : Gs} {w : World} (c : UInt8) (h : Gt g V G w) {n : Nat} (hb : GB G n) (hn : n ≤ 1000000) :
    Calls Tryd.prog 189 #[.pointer (some ⟨g, 0, none⟩), stV ⟨1, c⟩] w fun e w' => e = .returned (.tuple #[]) ∧ ∃ V', Gt g V' (G.add ⟨1, c⟩) w' ∧ Moves (OB g V) w (OB g V') w' := by
  obtain ⟨y0, y1⟩ := cells2_new w (.int .i64 1) (.int .u8 (c.toNat : Int))
  have E := hide (fun o => endChanged_any (h.up ((Below.refl _ w).alloc (Nat.le_refl _) o)) (by have := hb.p; omega) (by have := hb.a; omega) (by have := hb.d; omega))
  have M0 := hide (fun o => moves_up (O := OB g V) ((Below.refl _ w).alloc (Nat.le_refl _) o))
  have hG : G.add ⟨1, c⟩ = ⟨G.endC.parts, G.keep + 1, [], []⟩ := by unfold Doc1.Gs.add; rw [if_pos rfl]
  have hk := hb.k
  rw [hG]
  clear h hG hb
  unfold stV
  go_enter Tryd.func189, Tryd.ntmps189
  go_wp2_with fail
  refine (E.out _).mono ?_
  rintro e w2 ⟨rfl, V2, h2, M2⟩
  have k1 := h2.k1
  have hkk : G.endC.keep = G.keep := rfl
  rw [hkk] at k1
  have f1 := h2.fz 1
  have P := hide (gt_keep h2 (G.keep + 1))
  have HM := hide ((M0.out _).trans M2)
  rw [show ((G.keep + 1 : Nat) : Int) = (G.keep : Int) + 1 by omega] at P
  clear h2 M2 hkk y0 y1
  go_wp2
  go_end0
  exact ⟨rfl, _, P.out.1, HM.out.trans P.out.2⟩

set_option maxRecDepth 100000 in
set_option maxHeartbeats 4000000 in
theorem add_putI {g : Nat} {V : Nat → Value} {G : Gs} {w : World} (c : UInt8) (h : Gt g V G w) {n : Nat} (hb : GB G n) (hn : n ≤ 1000000) :
    Calls Tryd.prog 189 #[.pointer (some ⟨g, 0, none⟩), stV ⟨2, c⟩] w fun e w' => e = .returned (.tuple #[]) ∧ ∃ V', Gt g V' (G.add ⟨2, c⟩) w' ∧ Moves (OB g V) w (OB g V') w' := by
  obtain ⟨u0, hu0, hz0, hz1, hz2⟩ := info_parts Tryd.infoByt
  obtain ⟨y0, y1⟩ := cells2_new w (.int .i64 2) (.int .u8 (c.toNat : Int))
  have E := hide (fun o => endKept_any (h.up ((Below.refl _ w).alloc (Nat.le_refl _) o)) (by have := hb.p; omega) (by have := hb.k; omega))
  have M0 := hide (fun o => moves_up (O := OB g V) ((Below.refl _ w).alloc (Nat.le_refl _) o))
  have hG : G.add ⟨2, c⟩ = ⟨G.endK.parts, 0, G.put ++ [c], G.drop⟩ := by unfold Doc1.Gs.add; simp
  have hnb : ¬ OB g V w.heap.size := fun c => absurd (h.ltO c) (by omega)
  have ha := hb.a
  rw [hG]
  clear h hG hb
  unfold stV
  go_enter Tryd.func189, Tryd.ntmps189
  go_wp2_with fail
  refine (E.out _).mono ?_
  rintro e w2 ⟨rfl, V2, h2, M2⟩
  have b1 := (World.cell?_of_block (a := ⟨w.heap.size, 1, none⟩) (M2.same _ (by simp) hnb)).trans (y1 _)
  have k2 := h2.c 2 (by omega)
  have kf := h2.fz 2
  have lg := h2.lt
  have own2 : w2.ownsRow 0 5 1 (V2 2) G.put.length (byt G.put) := h2.own 2 (by omega)
  have ne2 := h2.ag 2 (by omega)
  obtain ⟨v2, hv2⟩ : ∃ v2, v2 = V2 2 := ⟨_, rfl⟩
  have H2 := hide h2
  have Hv := hide hv2
  have HM := hide ((M0.out _).trans M2)
  rw [← hv2] at k2 own2 ne2
  have nb := World.new_ne w2 _ b1
  clear h2 M2 hv2 y0 y1
  go_wp2_with fail
  go_region_law
    ((refine step_append_lies _ (by rfl) _ _ _ (by rfl) 0 5 u0 _ 1 1 Tryd.underlying22 hu0 hz0 hz1 hz2 rfl (by omega) v2 G.put.length (byt G.put) (by rfl) ((own2.alloc _).drew)
        ⟨w2.heap.size, 0, none⟩ 1 1 [.int .u8 (c.toNat : Int)] (by rfl) (by rfl) (World.news_of_block (cs := #[.int .u8 (c.toNat : Int)]) (t := 5) (fr := (0, 0)) (heap_alloc_new w2 _)) (by simp [Value.oneCell'])
        (by omega) (by unfold maxLen; omega) (by omega) (by omega) (w2.heap.size + 1) (by simp) ?_; intro gg cap w3 hown1 hgrow hat hlt; have hfz := (hgrow.frozen_far ⟨g, 2, none⟩ (by simp; omega) (Ne.symm ne2)).trans (fz_al w2 _ _ lg kf); have hcz := (hgrow.cell_far ⟨g, 2, none⟩ (by simp; omega) (Ne.symm ne2)).trans (cl_al w2 _ _ k2)))
  all_goals
    rw [Hv.out] at hgrow hat
    have P := hide (gt_put H2.out c hown1 hgrow hat)
    clear k2 kf lg own2 ne2 hown1 hgrow hat hlt b1 nb
    go_wp2
    go_end0
    exact ⟨rfl, _, P.out.1, HM.out.trans P.out.2⟩

set_option maxRecDepth 100000 in
set_option maxHeartbeats 4000000 in
theorem add_dropI {g : Nat} {V : Nat → Value} {G : Gs} {w : World} (c : UInt8) (h : Gt g V G w) {n : Nat} (hb : GB G n) (hn : n ≤ 1000000) :
    Calls Tryd.prog 189 #[.pointer (some ⟨g, 0, none⟩), stV ⟨3, c⟩] w fun e w' => e = .returned (.tuple #[]) ∧ ∃ V', Gt g V' (G.add ⟨3, c⟩) w' ∧ Moves (OB g V) w (OB g V') w' := by
  obtain ⟨u0, hu0, hz0, hz1, hz2⟩ := info_parts Tryd.infoByt
  obtain ⟨y0, y1⟩ := cells2_new w (.int .i64 3) (.int .u8 (c.toNat : Int))
  have E := hide (fun o => endKept_any (h.up ((Below.refl _ w).alloc (Nat.le_refl _) o)) (by have := hb.p; omega) (by have := hb.k; omega))
  have M0 := hide (fun o => moves_up (O := OB g V) ((Below.refl _ w).alloc (Nat.le_refl _) o))
  have hG : G.add ⟨3, c⟩ = ⟨G.endK.parts, 0, G.put, G.drop ++ [c]⟩ := by unfold Doc1.Gs.add; simp
  have hnb : ¬ OB g V w.heap.size := fun c => absurd (h.ltO c) (by omega)
  have ha := hb.d
  rw [hG]
  clear h hG hb
  unfold stV
  go_enter Tryd.func189, Tryd.ntmps189
  go_wp2_with fail
  refine (E.out _).mono ?_
  rintro e w2 ⟨rfl, V2, h2, M2⟩
  have b1 := (World.cell?_of_block (a := ⟨w.heap.size, 1, none⟩) (M2.same _ (by simp) hnb)).trans (y1 _)
  have k2 := h2.c 3 (by omega)
  have kf := h2.fz 3
  have lg := h2.lt
  have own2 : w2.ownsRow 0 5 1 (V2 3) G.drop.length (byt G.drop) := h2.own 3 (by omega)
  have ne2 := h2.ag 3 (by omega)
  obtain ⟨v2, hv2⟩ : ∃ v2, v2 = V2 3 := ⟨_, rfl⟩
  have H2 := hide h2
  have Hv := hide hv2
  have HM := hide ((M0.out _).trans M2)
  rw [← hv2] at k2 own2 ne2
  have nb := World.new_ne w2 _ b1
  clear h2 M2 hv2 y0 y1
  go_wp2_with fail
  go_region_law
    ((refine step_append_lies _ (by rfl) _ _ _ (by rfl) 0 5 u0 _ 1 1 Tryd.underlying22 hu0 hz0 hz1 hz2 rfl (by omega) v2 G.drop.length (byt G.drop) (by rfl) ((own2.alloc _).drew)
        ⟨w2.heap.size, 0, none⟩ 1 1 [.int .u8 (c.toNat : Int)] (by rfl) (by rfl) (World.news_of_block (cs := #[.int .u8 (c.toNat : Int)]) (t := 5) (fr := (0, 0)) (heap_alloc_new w2 _)) (by simp [Value.oneCell'])
        (by omega) (by unfold maxLen; omega) (by omega) (by omega) (w2.heap.size + 1) (by simp) ?_; intro gg cap w3 hown1 hgrow hat hlt; have hfz := (hgrow.frozen_far ⟨g, 3, none⟩ (by simp; omega) (Ne.symm ne2)).trans (fz_al w2 _ _ lg kf); have hcz := (hgrow.cell_far ⟨g, 3, none⟩ (by simp; omega) (Ne.symm ne2)).trans (cl_al w2 _ _ k2)))
  all_goals
    rw [Hv.out] at hgrow hat
    have P := hide (gt_drop H2.out c hown1 hgrow hat)
    clear k2 kf lg own2 ne2 hown1 hgrow hat hlt b1 nb
    go_wp2
    go_end0
    exact ⟨rfl, _, P.out.1, HM.out.trans P.out.2⟩
end Go.Proofs.YtkjioadmebkaoaaDoor

namespace Go.Proofs.YtkjioadmebkaoaaDoor
open Go.RowKit
open Doc1

theorem add_any {g : Nat} {V : Nat → Value} {G : Gs} {w : World} (x : St) (hx : sk x) (h : Gt g V G w) {n : Nat} (hb : GB G n) (hn : n ≤ 1000000) :
    Calls Tryd.prog 189 #[.pointer (some ⟨g, 0, none⟩), stV x] w fun e w' => e = .returned (.tuple #[]) ∧ ∃ V', Gt g V' (G.add x) w' ∧ Moves (OB g V) w (OB g V') w' := by
  obtain ⟨k, c⟩ := x
  rcases hx with e | e | e <;> (simp only at e; subst e)
  · exact add_keepI c h hb hn
  · exact add_putI c h hb hn
  · exact add_dropI c h hb hn
theorem gb0 : GB g0 0 := ⟨by simp [g0], by simp [g0], by simp [g0], by simp [g0]⟩
theorem endC_len (G : Gs) : G.endC.parts.length ≤ G.parts.length + 2 := by
  unfold Doc1.Gs.endC
  simp only [List.length_append]
  split <;> split <;> simp
theorem endK_len (G : Gs) : G.endK.parts.length ≤ G.parts.length + 1 := by
  unfold Doc1.Gs.endK
  simp only [List.length_append]
  split <;> simp
theorem gb_add {G : Gs} {n : Nat} (h : GB G n) (x : St) : GB (G.add x) (n + 1) := by
  have h1 := endC_len G
  have h2 := endK_len G
  obtain ⟨p, k, a, d⟩ := h
  unfold Doc1.Gs.add
  split
  · exact ⟨by show G.endC.parts.length ≤ _; omega, by show G.keep + 1 ≤ _; omega, by simp, by simp⟩
  · split
    · exact ⟨by show G.endK.parts.length ≤ _; omega, by simp, by simp; omega, by show G.drop.length ≤ _; omega⟩
    · split
      · exact ⟨by show G.endK.parts.length ≤ _; omega, by simp, by show G.put.length ≤ _; omega, by simp; omega⟩
      · exact ⟨by omega, by omega, by omega, by omega⟩
theorem gb_gath : ∀ (l : List St) (G : Gs) (n : Nat), GB G n → GB (gath G l) (n + l.length)
  | [], _, _, h => h
  | x :: l, G, n, h => by
    have := gb_gath l (G.add x) (n + 1) (gb_add h x)
    rw [show n + 1 + l.length = n + (x :: l).length by simp; omega] at this
    exact this
/-- No part is longer than so many bytes. -/
def GS (n : Nat) (l : List Pt) : Prop := ∀ p ∈ l, p.put.size ≤ n ∧ p.drop.size ≤ n
theorem gs_endC {G : Gs} {n : Nat} (h : GB G n) (hs : GS n G.parts) : GS n G.endC.parts := by
  intro p hp
  unfold Doc1.Gs.endC at hp
  rcases List.mem_append.1 hp with c | c
  · exact hs p c
  · have ha := h.a
    have hd := h.d
    rcases List.mem_append.1 c with c | c
    · split at c
      · cases c
      · simp at c; subst c; simp [pp, ba_sz]; omega
    · split at c
      · cases c
      · simp at c; subst c; simp [dp, ba_sz]; omega
theorem gs_endK {G : Gs} {n : Nat} (hs : GS n G.parts) : GS n G.endK.parts := by
  intro p hp
  unfold Doc1.Gs.endK at hp
  rcases List.mem_append.1 hp with c | c
  · exact hs p c
  · split at c
    · simp at c; subst c; simp [kp, ba_sz]
    · cases c
theorem GS.mono {n m : Nat} {l : List Pt} (h : GS n l) (hm : n ≤ m) : GS m l := fun p hp => ⟨Nat.le_trans (h p hp).1 hm, Nat.le_trans (h p hp).2 hm⟩
theorem gs_add {G : Gs} {n : Nat} (h : GB G n) (hs : GS n G.parts) (x : St) : GS (n + 1) (G.add x).parts := by
  unfold Doc1.Gs.add
  split
  · exact (gs_endC h hs).mono (by omega)
  · split
    · exact (gs_endK hs).mono (by omega)
    · split
      · exact (gs_endK hs).mono (by omega)
      · exact hs.mono (by omega)
theorem gs_gath : ∀ (l : List St) (G : Gs) (n : Nat), GB G n → GS n G.parts → GS (n + l.length) (gath G l).parts
  | [], _, _, _, h => h
  | x :: l, G, n, hb, h => by
    have := gs_gath l (G.add x) (n + 1) (gb_add hb x) (gs_add hb h x)
    rw [show n + 1 + l.length = n + (x :: l).length by simp; omega] at this
    exact this
theorem gs_endC' {G : Gs} {n : Nat} (ha : G.put.length ≤ n) (hd : G.drop.length ≤ n) (hs : GS n G.parts) : GS n G.endC.parts := by
  intro p hp
  unfold Doc1.Gs.endC at hp
  rcases List.mem_append.1 hp with c | c
  · exact hs p c
  · rcases List.mem_append.1 c with c | c
    · split at c
      · cases c
      · simp at c; subst c; simp [pp, ba_sz]; omega
    · split at c
      · cases c
      · simp at c; subst c; simp [dp, ba_sz]; omega
theorem gs_out {G : Gs} {n : Nat} (h : GB G n) (hs : GS n G.parts) : GS n G.out := gs_endC' (G := G.endK) h.a h.d (gs_endK hs)

set_option maxRecDepth 100000 in
set_option maxHeartbeats 4000000 in
theorem whole_any {g : Nat} {V : Nat → Value} {G : Gs} {w : World} (h : Gt g V G w) {n : Nat} (hb : GB G n) (hs : GS n G.parts) (hn : n ≤ 100000) (hT : Tab w) (nT : ¬ OB g V 0) :
    Calls Tryd.prog 190 #[.pointer (some ⟨g, 0, none⟩)] w fun e w' => ∃ v, e = .returned (.tuple #[v, .bool (goodO G.out)]) ∧ (∃ O', Moves (OB g V) w O' w') ∧
      w'.ownsRow 0 136 3 v (if goodO G.out then G.out else []).length (encP (if goodO G.out then G.out else [])) ∧ (∀ x, v.ownBlock = some x → x < w.heap.size → OB g V x) := by
  have E1 := hide (endKept_any h (by have := hb.p; omega) (by have := hb.k; omega))
  have ltT := hT.lt
  have hgs := hide (gs_out hb hs)
  have h1 := endK_len G
  have h2 := endC_len G.endK
  have hpp := hb.p
  have haa := hb.a
  have hdd := hb.d
  have hHT := hide hT
  clear h hb hs hT
  go_enter Tryd.func190, Tryd.ntmps190
  go_wp2_with fail
  refine E1.out.mono ?_
  rintro e w1 ⟨rfl, V1, g1, M1⟩
  have E2 := hide (endChanged_any g1 (by omega) (by show G.put.length ≤ _; omega) (by show G.drop.length ≤ _; omega))
  clear E1
  go_wp2_with fail
  refine E2.out.mono ?_
  rintro e w2 ⟨rfl, V2, g2, M2⟩
  have M := M1.trans M2
  have hT2 : Tab w2 := hHT.out.block (M.same _ ltT nT)
  have k0 := g2.c 0 (by omega)
  have own0 : POwn w2 0 (V2 0) G.out := g2.own 0 (by omega)
  have hol : G.out.length ≤ 1048576 := by show G.endK.endC.parts.length ≤ _; omega
  have E3 := hide (goodOpI_own own0 hT2 (fun i hi => by have := hgs.out _ (List.getElem_mem hi); omega) hol)
  obtain ⟨v0, hv0⟩ : ∃ v0, v0 = V2 0 := ⟨_, rfl⟩
  have lg := g2.lt
  have hin : ∀ x, v0.ownBlock = some x → x < w.heap.size → OB g V x := fun x hx hlt => M.own x hlt (.inr ⟨0, by omega, hv0 ▸ hx⟩)
  have hlt0 : ∀ x, v0.ownBlock = some x → x < w2.heap.size := fun x hx => own_lt own0 (hv0 ▸ hx)
  rw [← hv0] at k0 own0 E3
  have HI := hide hin
  have HM := hide M
  clear E2 g1 M1 g2 M2 M hT2 hgs hHT hv0 hin
  go_wp2_with fail
  refine E3.out.mono ?_
  rintro e w3 ⟨rfl, hb3⟩
  have k3 := (World.cell?_of_block (a := ⟨g, 0, none⟩) (hb3.block g lg)).trans k0
  have hmv : Hid (∃ O', Moves (OB g V) w O' w3) := hide ⟨_, HM.out.trans (moves_up hb3)⟩
  have own3 := hide (own_below own0 hb3)
  clear E3 HM k0 own0 hb3
  cases hg : goodO G.out with
  | true =>
    go_wp2
    all_goals
      go_ret2
      exact ⟨_, rfl, hmv.out, own3.out, HI.out⟩
  | false =>
    go_wp2
    all_goals
      first
        | (rename_i hh; exact absurd (hh.symm.trans hg) (by simp))
        | (go_ret2; exact ⟨_, rfl, hmv.out, World.ownsRow_nil _ _ _ _, fun x hx => by cases hx⟩)
end Go.Proofs.YtkjioadmebkaoaaDoor
