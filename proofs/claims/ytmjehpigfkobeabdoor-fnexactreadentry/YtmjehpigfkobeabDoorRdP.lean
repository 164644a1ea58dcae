/- The program's readPart. -/
import Derived.Test.YtmjehpigfkobeabDoorRdM
import Derived.Test.YtmjehpigfkobeabDoorCutS
import Derived.Test.YtmjehpigfkobeabDoorRow1c
import Derived.Test.YtmjehpigfkobeabDoorOpWA
set_option linter.unusedVariables false
namespace Go.Proofs.YtmjehpigfkobeabDoor
open Go.RowKit Go.Shelf
open Doc1

attribute [local go_sem] Oper.semAt_some

theorem strCl_any (x : ByteArray) (w : World) (hx : x.size ≤ 1048576) : Calls Tryd.prog 85 #[.string x] w fun e w' => e = .returned (.string x) ∧ Below w.heap.size w w' := by
  have CL := fun w' => Tryd.stringslite_Clone x w' (by omega)
  go_enter Tryd.func85, Tryd.ntmps85
  go_wp2_with (go_at_call 106; refine (CL _).mono ?_; rintro e w' ⟨rfl, hb⟩)
  go_ret
  exact ⟨rfl, hb⟩
theorem sizePartI : (Tryd.prog.info? 83).map (·.size) = some 3 := by kernel_rfl
theorem rbox3 {w2 : World} {g : Nat} {a b c : Value} {T : TypeId} (h : w2.heap[g]? = some (.cells #[a, b, c] T (0, 0))) :
    w2.cell? ⟨g, 0, none⟩ = some a ∧ w2.cell? ⟨g, 1, none⟩ = some b ∧ w2.cell? ⟨g, 2, none⟩ = some c ∧ w2.frozen? ⟨g, 0, none⟩ = false ∧ w2.frozen? ⟨g, 1, none⟩ = false ∧ w2.frozen? ⟨g, 2, none⟩ = false :=
  ⟨(Lib.cell_of_heap h 0).trans rfl, (Lib.cell_of_heap h 1).trans rfl, (Lib.cell_of_heap h 2).trans rfl, Lib.frozen_of_heap h 0, Lib.frozen_of_heap h 1, Lib.frozen_of_heap h 2⟩
theorem rput3 {w2 : World} {g : Nat} {a b c : Value} {T : TypeId} (h : w2.heap[g]? = some (.cells #[a, b, c] T (0, 0))) (x y z : Value) :
    (((w2.setCell ⟨g, 0, none⟩ x).setCell ⟨g, 1, none⟩ y).setCell ⟨g, 2, none⟩ z).heap[g]? = some (.cells #[x, y, z] T (0, 0)) := by
  have h1 := cell_put h 0 x
  have h2 := cell_put h1 1 y
  have h3 := cell_put h2 2 z
  simpa using h3
theorem rbelow3 {B g : Nat} {w w2 : World} (h : Below B w w2) (hg : B ≤ g) (x y z : Value) : Below B w (((w2.setCell ⟨g, 0, none⟩ x).setCell ⟨g, 1, none⟩ y).setCell ⟨g, 2, none⟩ z) :=
  ((h.setCell (p := ⟨g, 0, none⟩) hg _).setCell (p := ⟨g, 1, none⟩) hg _).setCell (p := ⟨g, 2, none⟩) hg _
def PrPost (x : List UInt8) (w : World) (e : Ending) (w' : World) : Prop := e = .returned (.tuple #[ptV (pQ x), .bool (pP x).isSome]) ∧ Below w.heap.size w w'

set_option maxRecDepth 100000 in
set_option maxHeartbeats 4000000 in
theorem readPart_any (s : ByteArray) (w : World) (hs : s.size ≤ 1048576) :
    Calls Tryd.prog 58 #[.string s] w (PrPost s.data.toList w) := by
  unfold PrPost
  by_cases h0 : s.size = 0
  · have hz : s.toList.isEmpty = true := bsz0 h0
    have he : s.data.toList = [] := List.eq_nil_of_length_eq_zero (by rw [← szB]; exact h0)
    rw [he]
    go_enter Tryd.func58, Tryd.ntmps58
    go_wp2
    refine bodyPost_ret (results_cell_tmp rfl _ _ w.heap.size 83 _ (0, 0) _ (.bool false) rfl rfl (heap_alloc_new w _) Tryd.underlying83 rfl sizePartI) rfl ?_
    exact ⟨rfl, (Below.refl _ w).alloc (Nat.le_refl _) _⟩
  · have hz : s.toList.isEmpty = false := bszn h0
    have hp : 0 < s.size := Nat.pos_of_ne_zero h0
    have hc := u8_lt256 s[0]
    have hcons := drop_cons s 0 hp
    rw [List.drop_zero] at hcons
    rw [hcons]
    have he := ext_drop s 1
    have hsz : (s.extract 1 s.size).size ≤ 1048576 := by rw [he, lB_size, List.length_drop, ← szB]; omega
    obtain ⟨X, hX⟩ : ∃ X, s.extract 1 s.size = X := ⟨_, rfl⟩
    have hXl : s.data.toList.drop 1 = X.data.toList := by rw [← hX, he]; rfl
    rw [Nat.zero_add, hXl]
    rw [hX] at hsz
    have RN := fun w' => readNumber_any X 300 w' hsz (by decide)
    have SC := hide (fun w' => strCl_any X w' hsz)
    have hq : pQ (s[0] :: X.data.toList) = (pP (s[0] :: X.data.toList)).getD ⟨0, ba [], ba []⟩ := rfl
    rw [hq, pP_cons]
    have hN0 : (numI 300 X.data.toList).2 = false → (numI 300 X.data.toList).1 = 0 := by
      unfold numI
      split
      · intro e; cases e
      · intro _; rfl
    obtain ⟨N, hN⟩ : ∃ N, (numI 300 X.data.toList).1 = N := ⟨_, rfl⟩
    obtain ⟨b, hb⟩ : ∃ b, (numI 300 X.data.toList).2 = b := ⟨_, rfl⟩
    rw [hN, hb] at hN0 RN
    rw [hN, hb]
    replace RN := hide RN
    have hXX : lB X.data.toList = X := rfl
    clear hcons he hXl hq hN hb h0
    by_cases c1 : s[0] = 61
    · rw [if_pos c1]
      have f0 : s[0].toNat = 61 := by rw [c1]; rfl
      have f1 : ((s[0].toNat : Int) == 61) = true := by rw [f0]; rfl
      clear c1
      go_enter Tryd.func58, Tryd.ntmps58
      go_wp2_with (go_at_call 27; refine (RN.out _).mono ?_; rintro e w2 ⟨rfl, hb2⟩; have hk := (hb2.block w.heap.size (by simp)).trans (heap_alloc_new w _); obtain ⟨d0, d1, d2, e0, e1, e2⟩ := rbox3 hk; have HB2 := hide hb2; have HK := hide hk; clear hb2 hk)
      all_goals
        refine bodyPost_ret (results_cell_tmp rfl _ _ w.heap.size 83 _ (0, 0) _ (.bool _) rfl rfl (rput3 HK.out _ _ _) Tryd.underlying83 rfl sizePartI) rfl ?_
        refine ⟨?_, rbelow3 (((Below.refl _ w).alloc (Nat.le_refl _) _).trans (HB2.out.mono (by simp))) (Nat.le_refl _) _ _ _⟩
        first
        | rfl
        | (have := hN0 rfl
           subst this
           rfl)
    · rw [if_neg c1]
      have f1 : ((s[0].toNat : Int) == 61) = false := by rw [beq_eq_false_iff_ne]; intro e; exact c1 (UInt8.toNat_inj.1 (show s[0].toNat = 61 by omega))
      by_cases c2 : s[0] = 43
      · rw [if_pos c2]
        have f0 : s[0].toNat = 43 := by rw [c2]; rfl
        have f2 : ((s[0].toNat : Int) == 43) = true := by rw [f0]; rfl
        clear c1 c2 RN hN0
        go_enter Tryd.func58, Tryd.ntmps58
        go_wp2_with (go_at_call 85; refine (SC.out _).mono ?_; rintro e w2 ⟨rfl, hb2⟩; have hk := (hb2.block w.heap.size (by simp)).trans (heap_alloc_new w _); obtain ⟨d0, d1, d2, e0, e1, e2⟩ := rbox3 hk; have HB2 := hide hb2; have HK := hide hk; clear hb2 hk)
        refine bodyPost_ret (results_cell_tmp rfl _ _ w.heap.size 83 _ (0, 0) _ (.bool true) rfl rfl (rput3 HK.out _ _ _) Tryd.underlying83 rfl sizePartI) rfl ?_
        exact ⟨rfl, rbelow3 (((Below.refl _ w).alloc (Nat.le_refl _) _).trans (HB2.out.mono (by simp))) (Nat.le_refl _) _ _ _⟩
      · rw [if_neg c2]
        have f2 : ((s[0].toNat : Int) == 43) = false := by rw [beq_eq_false_iff_ne]; intro e; exact c2 (UInt8.toNat_inj.1 (show s[0].toNat = 43 by omega))
        by_cases c3 : s[0] = 45
        · rw [if_pos c3]
          have f0 : s[0].toNat = 45 := by rw [c3]; rfl
          have f3 : ((s[0].toNat : Int) == 45) = true := by rw [f0]; rfl
          clear c1 c2 c3 RN hN0
          go_enter Tryd.func58, Tryd.ntmps58
          go_wp2_with (go_at_call 85; refine (SC.out _).mono ?_; rintro e w2 ⟨rfl, hb2⟩; have hk := (hb2.block w.heap.size (by simp)).trans (heap_alloc_new w _); obtain ⟨d0, d1, d2, e0, e1, e2⟩ := rbox3 hk; have HB2 := hide hb2; have HK := hide hk; clear hb2 hk)
          refine bodyPost_ret (results_cell_tmp rfl _ _ w.heap.size 83 _ (0, 0) _ (.bool true) rfl rfl (rput3 HK.out _ _ _) Tryd.underlying83 rfl sizePartI) rfl ?_
          exact ⟨rfl, rbelow3 (((Below.refl _ w).alloc (Nat.le_refl _) _).trans (HB2.out.mono (by simp))) (Nat.le_refl _) _ _ _⟩
        · rw [if_neg c3]
          have f3 : ((s[0].toNat : Int) == 45) = false := by rw [beq_eq_false_iff_ne]; intro e; exact c3 (UInt8.toNat_inj.1 (show s[0].toNat = 45 by omega))
          clear c1 c2 c3 RN hN0 SC
          go_enter Tryd.func58, Tryd.ntmps58
          go_wp2
          refine bodyPost_ret (results_cell_tmp rfl _ _ w.heap.size 83 _ (0, 0) _ (.bool false) rfl rfl (heap_alloc_new w _) Tryd.underlying83 rfl sizePartI) rfl ?_
          exact ⟨rfl, (Below.refl _ w).alloc (Nat.le_refl _) _⟩

end Go.Proofs.YtmjehpigfkobeabDoor
