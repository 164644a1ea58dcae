/- The gathering's add, of any step, and whole. -/
import Derived.Test.YtbmnciejaknonauDoorGat3
import Derived.Test.YtbmnciejaknonauDoorOpW6
import Derived.Test.YtbmnciejaknonauDoorOps4
namespace Go.Proofs.YtbmnciejaknonauDoor
open Go.RowKit
open Doc1

theorem add_any {g : Nat} {V : Nat → Value} {G : Gs} {w : World} (x : St) (hx : sk x) (h : Gt g V G w) {n : Nat} (hb : GB G n) (hn : n ≤ 1000000) :
    Calls Tryd.prog 50 #[.pointer (some ⟨g, 0, none⟩), stV x] w fun e w' => e = .returned (.tuple #[]) ∧ ∃ V', Gt g V' (G.add x) w' ∧ Moves (OB g V) w (OB g V') w' := by
  obtain ⟨k, c⟩ := x
  rcases hx with e | e | e <;> (simp only at e; subst e)
  · exact add_keepI c h hb hn
  · exact add_putI c h hb hn
  · exact add_dropI c h hb hn
theorem gb0 : GB g0 0 := ⟨by simp [g0], by simp [g0], by simp [g0], by simp [g0]⟩
theorem endC_len (G : Gs) : G.endC.parts.length ≤ G.parts.length + 2 := by
  unfold Doc1.Gs.endC
  simp only [List.length_append]
  split <;> split <;> simp
theorem endK_len (G : Gs) : G.endK.parts.length ≤ G.parts.length + 1 := by
  unfold Doc1.Gs.endK
  simp only [List.length_append]
  split <;> simp
theorem gb_add {G : Gs} {n : Nat} (h : GB G n) (x : St) : GB (G.add x) (n + 1) := by
  have h1 := endC_len G
  have h2 := endK_len G
  obtain ⟨p, k, a, d⟩ := h
  unfold Doc1.Gs.add
  split
  · exact ⟨by show G.endC.parts.length ≤ _; omega, by show G.keep + 1 ≤ _; omega, by simp, by simp⟩
  · split
    · exact ⟨by show G.endK.parts.length ≤ _; omega, by simp, by simp; omega, by show G.drop.length ≤ _; omega⟩
    · split
      · exact ⟨by show G.endK.parts.length ≤ _; omega, by simp, by show G.put.length ≤ _; omega, by simp; omega⟩
      · exact ⟨by omega, by omega, by omega, by omega⟩
theorem gb_gath : ∀ (l : List St) (G : Gs) (n : Nat), GB G n → GB (gath G l) (n + l.length)
  | [], _, _, h => h
  | x :: l, G, n, h => by
    have := gb_gath l (G.add x) (n + 1) (gb_add h x)
    rw [show n + 1 + l.length = n + (x :: l).length by simp; omega] at this
    exact this
/-- No part is longer than so many bytes. -/
def GS (n : Nat) (l : List Pt) : Prop := ∀ p ∈ l, p.put.size ≤ n ∧ p.drop.size ≤ n
theorem gs_endC {G : Gs} {n : Nat} (h : GB G n) (hs : GS n G.parts) : GS n G.endC.parts := by
  intro p hp
  unfold Doc1.Gs.endC at hp
  rcases List.mem_append.1 hp with c | c
  · exact hs p c
  · have ha := h.a
    have hd := h.d
    rcases List.mem_append.1 c with c | c
    · split at c
      · cases c
      · simp at c; subst c; simp [pp, ba_sz]; omega
    · split at c
      · cases c
      · simp at c; subst c; simp [dp, ba_sz]; omega
theorem gs_endK {G : Gs} {n : Nat} (hs : GS n G.parts) : GS n G.endK.parts := by
  intro p hp
  unfold Doc1.Gs.endK at hp
  rcases List.mem_append.1 hp with c | c
  · exact hs p c
  · split at c
    · simp at c; subst c; simp [kp, ba_sz]
    · cases c
theorem GS.mono {n m : Nat} {l : List Pt} (h : GS n l) (hm : n ≤ m) : GS m l := fun p hp => ⟨Nat.le_trans (h p hp).1 hm, Nat.le_trans (h p hp).2 hm⟩
theorem gs_add {G : Gs} {n : Nat} (h : GB G n) (hs : GS n G.parts) (x : St) : GS (n + 1) (G.add x).parts := by
  unfold Doc1.Gs.add
  split
  · exact (gs_endC h hs).mono (by omega)
  · split
    · exact (gs_endK hs).mono (by omega)
    · split
      · exact (gs_endK hs).mono (by omega)
      · exact hs.mono (by omega)
theorem gs_gath : ∀ (l : List St) (G : Gs) (n : Nat), GB G n → GS n G.parts → GS (n + l.length) (gath G l).parts
  | [], _, _, _, h => h
  | x :: l, G, n, hb, h => by
    have := gs_gath l (G.add x) (n + 1) (gb_add hb x) (gs_add hb h x)
    rw [show n + 1 + l.length = n + (x :: l).length by simp; omega] at this
    exact this
theorem gs_endC' {G : Gs} {n : Nat} (ha : G.put.length ≤ n) (hd : G.drop.length ≤ n) (hs : GS n G.parts) : GS n G.endC.parts := by
  intro p hp
  unfold Doc1.Gs.endC at hp
  rcases List.mem_append.1 hp with c | c
  · exact hs p c
  · rcases List.mem_append.1 c with c | c
    · split at c
      · cases c
      · simp at c; subst c; simp [pp, ba_sz]; omega
    · split at c
      · cases c
      · simp at c; subst c; simp [dp, ba_sz]; omega
theorem gs_out {G : Gs} {n : Nat} (h : GB G n) (hs : GS n G.parts) : GS n G.out := gs_endC' (G := G.endK) h.a h.d (gs_endK hs)

set_option maxRecDepth 100000 in
set_option maxHeartbeats 4000000 in
theorem whole_any {g : Nat} {V : Nat → Value} {G : Gs} {w : World} (h : Gt g V G w) {n : Nat} (hb : GB G n) (hs : GS n G.parts) (hn : n ≤ 100000) (hT : Tab w) (nT : ¬ OB g V 0) :
    Calls Tryd.prog 51 #[.pointer (some ⟨g, 0, none⟩)] w fun e w' => ∃ v, e = .returned (.tuple #[v, .bool (goodO G.out)]) ∧ (∃ O', Moves (OB g V) w O' w') ∧
      w'.ownsRow 0 67 3 v (if goodO G.out then G.out else []).length (encP (if goodO G.out then G.out else [])) ∧ (∀ x, v.ownBlock = some x → x < w.heap.size → OB g V x) := by
  have E1 := hide (endKept_any h (by have := hb.p; omega) (by have := hb.k; omega))
  have ltT := hT.lt
  have hgs := hide (gs_out hb hs)
  have h1 := endK_len G
  have h2 := endC_len G.endK
  have hpp := hb.p
  have haa := hb.a
  have hdd := hb.d
  have hHT := hide hT
  clear h hb hs hT
  go_enter Tryd.func51, Tryd.ntmps51
  go_wp2_with fail
  refine E1.out.mono ?_
  rintro e w1 ⟨rfl, V1, g1, M1⟩
  have E2 := hide (endChanged_any g1 (by omega) (by show G.put.length ≤ _; omega) (by show G.drop.length ≤ _; omega))
  clear E1
  go_wp2_with fail
  refine E2.out.mono ?_
  rintro e w2 ⟨rfl, V2, g2, M2⟩
  have M := M1.trans M2
  have hT2 : Tab w2 := hHT.out.block (M.same _ ltT nT)
  have k0 := g2.c 0 (by omega)
  have own0 : POwn w2 0 (V2 0) G.out := g2.own 0 (by omega)
  have hol : G.out.length ≤ 1048576 := by show G.endK.endC.parts.length ≤ _; omega
  have E3 := hide (goodOpI_own own0 hT2 (fun i hi => by have := hgs.out _ (List.getElem_mem hi); omega) hol)
  obtain ⟨v0, hv0⟩ : ∃ v0, v0 = V2 0 := ⟨_, rfl⟩
  have lg := g2.lt
  have hin : ∀ x, v0.ownBlock = some x → x < w.heap.size → OB g V x := fun x hx hlt => M.own x hlt (.inr ⟨0, by omega, hv0 ▸ hx⟩)
  have hlt0 : ∀ x, v0.ownBlock = some x → x < w2.heap.size := fun x hx => own_lt own0 (hv0 ▸ hx)
  rw [← hv0] at k0 own0 E3
  have HI := hide hin
  have HM := hide M
  clear E2 g1 M1 g2 M2 M hT2 hgs hHT hv0 hin
  go_wp2_with fail
  refine E3.out.mono ?_
  rintro e w3 ⟨rfl, hb3⟩
  have k3 := (World.cell?_of_block (a := ⟨g, 0, none⟩) (hb3.block g lg)).trans k0
  have hmv : Hid (∃ O', Moves (OB g V) w O' w3) := hide ⟨_, HM.out.trans (moves_up hb3)⟩
  have own3 := hide (own_below own0 hb3)
  clear E3 HM k0 own0 hb3
  cases hg : goodO G.out with
  | true =>
    go_wp2
    all_goals
      go_ret2
      exact ⟨_, rfl, hmv.out, own3.out, HI.out⟩
  | false =>
    go_wp2
    all_goals
      first
        | (rename_i hh; exact absurd (hh.symm.trans hg) (by simp))
        | (go_ret2; exact ⟨_, rfl, hmv.out, World.ownsRow_nil _ _ _ _, fun x hx => by cases hx⟩)
end Go.Proofs.YtbmnciejaknonauDoor
