/- The program's inOrder. -/
import Derived.Test.YtnhooalibadeeaaDoorInsA
import Derived.Test.YtnhooalibadeeaaDoorSeq3
import Derived.Test.YtnhooalibadeeaaDoorSqW5
import Derived.Test.YtnhooalibadeeaaDoorIntsQ
set_option linter.unusedVariables false
namespace Go.Proofs.YtnhooalibadeeaaDoor
open Go.RowKit
open Doc1

/-- Numbers, as they lie in a row. -/
def oI (o : List Nat) : List Int := o.map (fun (x : Nat) => (x : Int))
theorem oI_len (o : List Nat) : (oI o).length = o.length := by simp [oI]
theorem oI_at (o : List Nat) {i : Nat} (h : i < (oI o).length) : (oI o)[i] = ((o[i]'(by simpa [oI] using h) : Nat) : Int) := by simp [oI]

set_option maxRecDepth 100000 in
set_option maxHeartbeats 2000000 in
theorem inOrder1_any {w : World} {g cap : Nat} {l : List Am} (hc : CLs w g (encAm l)) (hg : g < w.heap.size) (hln : l.length ≤ 1048576) (x : Am) (bl ba : Nat) (hl : w.heap[bl]? = some (.cells #[.slice (some ⟨g, 0, none⟩) l.length cap] 23)) (ha : BxA w ba x) (k : Nat) (hk : k < l.length) :
    Calls Tryd.prog 78 #[.int .i64 (k : Int), .pointer (some ⟨bl, 0, none⟩), .pointer (some ⟨ba, 0, none⟩)] w fun e w' => e = .returned (.bool (atN l x.above x.maker k)) ∧ Below w.heap.size w w' := by
  obtain ⟨y, hy⟩ : ∃ y, y = l[k] := ⟨_, rfl⟩
  rw [atN_at hk, ← hy]
  have hbl : bl < w.heap.size := (Array.getElem?_eq_some_iff.1 hl).1
  have N := hide (fun w => id_any y w)
  have M := hide (fun w => above_any x w)
  have KS : Hid (∀ w', Below w.heap.size w w' → w'.cell? ⟨bl, 0, none⟩ = some (.slice (some ⟨g, 0, none⟩) l.length cap) ∧ w'.cell? ⟨g, k * 6, none⟩ = some (.int .i64 y.time) ∧ w'.cell? ⟨g, k * 6 + 1, none⟩ = some (.int .i64 y.actor) ∧ w'.cell? ⟨g, k * 6 + 2, none⟩ = some (.int .i64 y.above) ∧ w'.cell? ⟨g, k * 6 + 3, none⟩ = some (.int .i64 y.maker) ∧ w'.cell? ⟨g, k * 6 + 4, none⟩ = some (.string y.byte) ∧ w'.cell? ⟨g, k * 6 + 5, none⟩ = some (.bool y.gone) ∧ w'.cell? ⟨ba, 0, none⟩ = some (.int .i64 x.time) ∧ w'.cell? ⟨ba, 1, none⟩ = some (.int .i64 x.actor) ∧ w'.cell? ⟨ba, 2, none⟩ = some (.int .i64 x.above) ∧ w'.cell? ⟨ba, 3, none⟩ = some (.int .i64 x.maker) ∧ w'.cell? ⟨ba, 4, none⟩ = some (.string x.byte) ∧ w'.cell? ⟨ba, 5, none⟩ = some (.bool x.gone)) := hide (fun w' hb => by
    have p := (hc.later hb hg).amat k hk
    rw [← hy] at p
    have q := (ha.later hb).cells
    refine ⟨?_, p.1, p.2.1, p.2.2.1, p.2.2.2.1, p.2.2.2.2.1, p.2.2.2.2.2, q⟩
    rw [cell_of_row _ bl 0 _ _ (0, 0) ((hb.block bl hbl).trans hl)]; rfl)
  unfold amV at N M
  have EQ := eq_id
  have qk1 : (0 : Int) ≤ (k : Int) := by omega
  have qk2 : (k : Int) < (l.length : Int) := by omega
  obtain ⟨R, hR⟩ : ∃ R, R = at2 x.above x.maker y := ⟨_, rfl⟩
  rw [← hR]
  have HR := hide hR
  unfold at2 at HR
  clear hR hy hc ha hl
  go_enter Tryd.func78, Tryd.ntmps78
  go_wp2_with fail
  refine wp_region_held_drew (S := fun w' => w'.cell? ⟨bl, 0, none⟩ = some (.slice (some ⟨g, 0, none⟩) l.length cap) ∧ w'.cell? ⟨g, k * 6, none⟩ = some (.int .i64 y.time) ∧ w'.cell? ⟨g, k * 6 + 1, none⟩ = some (.int .i64 y.actor) ∧ w'.cell? ⟨g, k * 6 + 2, none⟩ = some (.int .i64 y.above) ∧ w'.cell? ⟨g, k * 6 + 3, none⟩ = some (.int .i64 y.maker) ∧ w'.cell? ⟨g, k * 6 + 4, none⟩ = some (.string y.byte) ∧ w'.cell? ⟨g, k * 6 + 5, none⟩ = some (.bool y.gone) ∧ w'.cell? ⟨ba, 0, none⟩ = some (.int .i64 x.time) ∧ w'.cell? ⟨ba, 1, none⟩ = some (.int .i64 x.actor) ∧ w'.cell? ⟨ba, 2, none⟩ = some (.int .i64 x.above) ∧ w'.cell? ⟨ba, 3, none⟩ = some (.int .i64 x.maker) ∧ w'.cell? ⟨ba, 4, none⟩ = some (.string x.byte) ∧ w'.cell? ⟨ba, 5, none⟩ = some (.bool x.gone)) (by kernel_rfl) (KS.out _ (Below.refl _ _).drew) (fun hS => ?_)
  refine wpAnyH_take (i := 0) (v := .slice (some ⟨g, 0, none⟩) l.length cap) (List.getElem?_toArray.trans rfl) (by kernel_rfl) (by kernel_rfl) (by kernel_rfl) (fun _ _ _ h => h) (Or.inl ⟨by rfl, fun w' hw => by obtain ⟨s0, s1, s2, s3, s4, s5, s6, s7, s8, s9, s10, s11, s12⟩ := hw; go_simp⟩) hS ?_
  try simp only [Act.put, List.setIfInBounds_toArray, List.set_cons_zero, List.set_cons_succ]
  refine wpAnyH_take (i := 1) (v := .int .i64 (k : Int)) (List.getElem?_toArray.trans rfl) (by kernel_rfl) (by kernel_rfl) (by kernel_rfl) (fun _ _ _ h => h) (Or.inl ⟨by rfl, fun w' hw => by go_simp⟩) hS ?_
  try simp only [Act.put, List.setIfInBounds_toArray, List.set_cons_zero, List.set_cons_succ]
  refine wpAnyH_take (i := 2) (v := .pointer (some ⟨g, k * 6, none⟩)) (List.getElem?_toArray.trans rfl) (by kernel_rfl) (by kernel_rfl) (by kernel_rfl) (fun _ _ _ h => h) (Or.inl ⟨by rfl, fun w' hw => by go_simp⟩) hS ?_
  try simp only [Act.put, List.setIfInBounds_toArray, List.set_cons_zero, List.set_cons_succ]
  refine wpAnyH_take (i := 3) (v := .agg #[.int .i64 y.time, .int .i64 y.actor, .int .i64 y.above, .int .i64 y.maker, .string y.byte, .bool y.gone]) (List.getElem?_toArray.trans rfl) (by kernel_rfl) (by kernel_rfl) (by kernel_rfl) (fun _ _ _ h => h) (Or.inl ⟨by rfl, fun w' hw => by obtain ⟨s0, s1, s2, s3, s4, s5, s6, s7, s8, s9, s10, s11, s12⟩ := hw; go_simp⟩) hS ?_
  try simp only [Act.put, List.setIfInBounds_toArray, List.set_cons_zero, List.set_cons_succ]
  refine wpAnyH_take (i := 5) (v := .agg #[.int .i64 x.time, .int .i64 x.actor, .int .i64 x.above, .int .i64 x.maker, .string x.byte, .bool x.gone]) (List.getElem?_toArray.trans rfl) (by kernel_rfl) (by kernel_rfl) (by kernel_rfl) (fun _ _ _ h => h) (Or.inl ⟨by rfl, fun w' hw => by obtain ⟨s0, s1, s2, s3, s4, s5, s6, s7, s8, s9, s10, s11, s12⟩ := hw; go_simp⟩) hS ?_
  try simp only [Act.put, List.setIfInBounds_toArray, List.set_cons_zero, List.set_cons_succ]
  refine wpAnyH_ready (rs := [4]) (by kernel_rfl) (by simp) ?_
  refine AllReadyH.cons rfl (fun K hK => ?_) AllReadyH.nil
  go_simp
  go_at_call 37
  refine (N.out _).mono ?_
  rintro e v1 ⟨rfl, hv1⟩; have hb1 : Below w.heap.size w v1 := (Below.refl _ _).drew.trans hv1
  have hS1 := KS.out v1 hb1
  go_simp
  refine hK.out _ _ hS1 (fun _ => ?_)
  clear hK K
  refine wpAnyH_ready (rs := [6]) (by kernel_rfl) (by simp) ?_
  refine AllReadyH.cons rfl (fun K hK => ?_) AllReadyH.nil
  go_simp
  go_at_call 79
  refine (M.out _).mono ?_
  rintro e v2 ⟨rfl, hv2⟩; have hb2 : Below w.heap.size w v2 := hb1.trans (hv2.mono hb1.size)
  have hS2 := KS.out v2 hb2
  go_simp
  refine hK.out _ _ hS2 (fun _ => ?_)
  clear hK K
  refine wpAnyH_take (i := 7) (v := .bool (y.time == x.above && y.actor == x.maker)) (List.getElem?_toArray.trans rfl) (by kernel_rfl) (by kernel_rfl) (by kernel_rfl) (fun _ _ _ h => h) (Or.inl ⟨by rfl, fun w' hw => by go_simp⟩) hS2 ?_
  try simp only [Act.put, List.setIfInBounds_toArray, List.set_cons_zero, List.set_cons_succ]
  refine wpAnyH_take (i := 8) (v := .bool (y.time == x.above && y.actor == x.maker)) (List.getElem?_toArray.trans rfl) (by kernel_rfl) (by kernel_rfl) (by kernel_rfl) (fun _ _ _ h => h) (Or.inl ⟨by rfl, fun w' hw => by go_simp⟩) hS2 ?_
  try simp only [Act.put, List.setIfInBounds_toArray, List.set_cons_zero, List.set_cons_succ]
  refine wpAnyH_done (by kernel_rfl) ?_ _
  go_wp2
  go_ret
  exact ⟨ret_bool (by rw [HR.out]), hb2⟩
end Go.Proofs.YtnhooalibadeeaaDoor
