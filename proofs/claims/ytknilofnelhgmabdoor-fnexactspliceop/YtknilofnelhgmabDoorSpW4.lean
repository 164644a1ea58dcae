/- The contract of impl.SpliceOp. -/
import Derived.Test.YtknilofnelhgmabDoorSpWA
namespace Go.Proofs.YtknilofnelhgmabDoor
open Go.RowKit
open Doc1

theorem keepL_good {n : Nat} (h : n ≤ 300) : goodO (keepL (n : Int)) = true := by
  unfold keepL
  split
  · rename_i h1
    have hp : ∀ p ∈ [(⟨(n : Int), ⟨#[]⟩, ⟨#[]⟩⟩ : Pt)], pk p ≠ 0 := fun p hm => by
      rw [List.mem_singleton] at hm
      subst hm
      unfold pk
      rw [if_pos ⟨rfl, rfl, h1⟩]
      omega
    unfold goodO
    rw [all_gpS hp]
    have e0 : (⟨#[]⟩ : ByteArray).size = 0 := rfl
    simp [tkL, mkL, tk1, mk1, e0]
    omega
  · rfl

set_option maxRecDepth 100000 in
set_option maxHeartbeats 4000000 in
theorem spliceI {w : World} (s put : ByteArray) (a b : Int) (hls : s.size ≤ 1048576) (hlp : put.size ≤ 1048576) (hT : Tab w) :
    Calls Tryd.prog 6 #[.string s, .int .i64 a, .int .i64 b, .string put] w fun e w' => ∃ v, e = .returned (.tuple #[v, .bool (spO s put a b).2]) ∧ POwn w' w.heap.size v (spO s put a b).1 ∧ Below w.heap.size w w' := by
  have T1 := hide (goodTextI_any s w hls hT)
  have T2 := hide (goodTextI_any put w hlp hT)
  have no : ¬ spOk s put a b → spO s put a b = ([], false) := fun h => by unfold spO; rw [if_neg (fun c => h c.1)]
  cases h1 : good s.data.toList with
  | false =>
    rw [no (fun c => by have := c.1; rw [h1] at this; cases this)]
    rw [h1] at T1
    go_enter Tryd.func6, Tryd.ntmps6
    go_wp2_with (go_at_call 18; refine T1.out.mono ?_; rintro e w' ⟨rfl, hw⟩; replace hw := hw.symm; subst hw)
    go_ret2
    exact ⟨_, rfl, World.ownsRow_nil _ _ _ _, Below.refl _ _⟩
  | true =>
    rw [h1] at T1
    have walk : ∀ {x : Bool}, good put.data.toList = x → True := fun _ => trivial
    cases h2 : good put.data.toList with
    | false =>
      rw [no (fun c => by have := c.2.1; rw [h2] at this; cases this)]
      rw [h2] at T2
      go_enter Tryd.func6, Tryd.ntmps6
      go_wp2_with fail
      refine T1.out.mono ?_
      rintro e w' ⟨rfl, hw⟩
      replace hw := hw.symm; subst hw
      go_wp2_with fail
      refine T2.out.mono ?_
      rintro e w' ⟨rfl, hw⟩
      replace hw := hw.symm; subst hw
      go_wp2
      go_ret2
      exact ⟨_, rfl, World.ownsRow_nil _ _ _ _, Below.refl _ _⟩
    | true =>
      rw [h2] at T2
      by_cases hok : 0 ≤ a ∧ a ≤ b ∧ b ≤ (s.size : Int)
      · obtain ⟨m, rfl⟩ : ∃ m : Nat, a = m := ⟨a.toNat, by omega⟩
        obtain ⟨n, rfl⟩ : ∃ n : Nat, b = n := ⟨b.toNat, by omega⟩
        have hmn : m ≤ n := by omega
        have hns : n ≤ s.size := by omega
        have hs3 := good_len h1
        rw [← sz_list] at hs3
        have hso : spOk s put m n := ⟨h1, h2, hok⟩
        have mi : (m : Int) ≤ (n : Int) := by omega
        have ni : (n : Int) ≤ (s.size : Int) := by omega
        have m0 : (0 : Int) ≤ (m : Int) := by omega
        by_cases he : s.extract m n = put
        · have hk : Hid (spO s put m n = (keepL (s.size : Int), keepOk (s.size : Int))) := hide (by
            unfold spO spT
            simp only [Int.toNat_natCast, if_pos he]
            rw [if_pos ⟨hso, keepL_good hs3⟩]
            unfold keepOk
            rw [decide_eq_true (by omega)])
          rw [hk.out]
          have K := hide (fun w => keepI (s.size : Int) w)
          have el : (s.extract m n).toList == put.toList := by rw [he]; simp
          clear no h1 h2 hok hso he walk hk
          go_enter Tryd.func6, Tryd.ntmps6
          go_wp2_with fail
          refine T1.out.mono ?_
          rintro e w' ⟨rfl, hw⟩
          replace hw := hw.symm; subst hw
          go_wp2_with fail
          refine T2.out.mono ?_
          rintro e w' ⟨rfl, hw⟩
          replace hw := hw.symm; subst hw
          go_wp2_with fail
          refine (K.out _).mono ?_
          rintro e w1 ⟨v1, rfl, o1, hb1⟩
          go_wp2
          go_ret2
          exact ⟨_, rfl, o1, hb1⟩
        · have hp := spN_pk h1 h2 hmn hns
          have hl4 : (spN s put m n).length ≤ 60 := by
            have := List.length_filter_le (fun p => decide (¬ nth p)) (spL s put m n)
            unfold spN
            simp [spL] at this ⊢
            omega
          have hk : Hid (spO s put m n = (norO (spN s put m n), goodO (spN s put m n))) := hide (by
            unfold spO spT norO
            simp only [Int.toNat_natCast, if_neg he]
            rw [goodO_norm hp hl4]
            cases goodO (spN s put m n) <;> simp [hso])
          rw [hk.out]
          have el : ((s.extract m n).toList == put.toList) = false := by
            cases h : (s.extract m n).toList == put.toList with
            | false => rfl
            | true =>
              have := eq_of_beq h
              rw [ByteArray.toList_eq, ByteArray.toList_eq] at this
              exact absurd (ByteArray.ext (Array.ext' this)) he
          obtain ⟨y0, y1, y2⟩ := cells3_new' w (.int .i64 (m : Int)) (.int .i64 (n : Int)) (.string put)
          have hbA := fun o => (Below.refl w.heap.size w).alloc (Nat.le_refl _) o
          have D := hide (spliceAll_one (w := w.alloc (.cells #[.int .i64 (m : Int), .int .i64 (n : Int), .string put] 41)) (gs := w.heap.size) s put m n hmn hns hls hlp (y0 _) (y1 _) (y2 _) (hT.below (hbA _)))
          have HBA := hide (hbA (.cells #[.int .i64 (m : Int), .int .i64 (n : Int), .string put] 41))
          clear hbA y0 y1 y2
          clear no h1 h2 hok hso he walk hk hp hl4
          go_enter Tryd.func6, Tryd.ntmps6
          go_wp2_with fail
          refine T1.out.mono ?_
          rintro e w' ⟨rfl, hw⟩
          replace hw := hw.symm; subst hw
          go_wp2_with fail
          refine T2.out.mono ?_
          rintro e w' ⟨rfl, hw⟩
          replace hw := hw.symm; subst hw
          go_wp2_with fail
          refine D.out.mono ?_
          rintro e w2 ⟨v2, rfl, o2, hb2⟩
          have hb1 := HBA.out
          go_wp2
          go_ret2
          exact ⟨_, rfl, POwn.mono o2 hb1.size, hb1.trans (hb2.mono hb1.size)⟩
      · rw [no (fun c => hok c.2.2)]
        clear no h1 h2 walk
        by_cases g1 : a < 0
        · go_enter Tryd.func6, Tryd.ntmps6
          go_wp2_with fail
          refine T1.out.mono ?_
          rintro e w' ⟨rfl, hw⟩
          replace hw := hw.symm; subst hw
          go_wp2_with fail
          refine T2.out.mono ?_
          rintro e w' ⟨rfl, hw⟩
          replace hw := hw.symm; subst hw
          go_wp2
          go_ret2
          exact ⟨_, rfl, World.ownsRow_nil _ _ _ _, Below.refl _ _⟩
        · by_cases g2 : b < a
          · go_enter Tryd.func6, Tryd.ntmps6
            go_wp2_with fail
            refine T1.out.mono ?_
            rintro e w' ⟨rfl, hw⟩
            replace hw := hw.symm; subst hw
            go_wp2_with fail
            refine T2.out.mono ?_
            rintro e w' ⟨rfl, hw⟩
            replace hw := hw.symm; subst hw
            go_wp2
            go_ret2
            exact ⟨_, rfl, World.ownsRow_nil _ _ _ _, Below.refl _ _⟩
          · have g3 : (s.size : Int) < b := by omega
            go_enter Tryd.func6, Tryd.ntmps6
            go_wp2_with fail
            refine T1.out.mono ?_
            rintro e w' ⟨rfl, hw⟩
            replace hw := hw.symm; subst hw
            go_wp2_with fail
            refine T2.out.mono ?_
            rintro e w' ⟨rfl, hw⟩
            replace hw := hw.symm; subst hw
            go_wp2
            go_ret2
            exact ⟨_, rfl, World.ownsRow_nil _ _ _ _, Below.refl _ _⟩
end Go.Proofs.YtknilofnelhgmabDoor
