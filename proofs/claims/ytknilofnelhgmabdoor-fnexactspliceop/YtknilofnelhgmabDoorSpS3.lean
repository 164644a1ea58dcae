/- The contract of the model's SpliceOp. -/
import Derived.Test.YtknilofnelhgmabDoorSpS2
namespace Go.Proofs.YtknilofnelhgmabDoor
open Go.RowKit
open Doc1

set_option maxHeartbeats 2000000 in
theorem l3Sizes_nil (w : World) : Calls Tryd.prog 36 #[.slice none 0 0] w fun e w' => e = .returned (.tuple #[.int .i64 0, .int .i64 0]) ∧ Below w.heap.size w w' := by
  go_enter Tryd.func36, Tryd.ntmps36
  go_wp2
  go_loopw [4, 5, 10] (fun a b i wr => i = .int .i64 0 ∧ a = .int .i64 0 ∧ b = .int .i64 0 ∧ Below w.heap.size w wr) (fun _ _ _ _ => 0)
  case atStart => exact ⟨rfl, rfl, rfl, Below.refl _ _⟩
  case round =>
    obtain ⟨rfl, rfl, rfl, hbel⟩ := hrel
    go_wp2
    go_ret2
    exact ⟨rfl, hbel⟩
set_option maxRecDepth 100000 in
set_option maxHeartbeats 2000000 in
theorem goodOpS_nil (w : World) : Calls Tryd.prog 17 #[.slice none 0 0] w fun e w' => e = .returned (.bool true) ∧ Below w.heap.size w w' := by
  have S := hide l3Sizes_nil
  go_enter Tryd.func17, Tryd.ntmps17
  go_wp2
  go_loopw [12] (fun i wr => i = .int .i64 0 ∧ Below w.heap.size w wr) (fun _ _ => 0)
  case atStart => exact ⟨rfl, Below.refl _ _⟩
  case round =>
    obtain ⟨rfl, hbel⟩ := hrel
    go_wp2_with fail
    refine (S.out _).mono ?_
    rintro e w2 ⟨rfl, hb2⟩
    go_wp2
    go_ret
    exact ⟨rfl, hbel.trans (hb2.mono hbel.size)⟩
/-- GoodOp of a row of one's own, by the model. -/
theorem goodOpS_own {w : World} {B : Nat} {v : Value} {l : List Pt} (h : POwn w B v l) (hs : ∀ i (hi : i < l.length), l[i].put.size ≤ 1048576 ∧ l[i].drop.size ≤ 1048576) (hl : l.length ≤ 1048576) :
    Calls Tryd.prog 17 #[v] w fun e w' => e = .returned (.bool (goodO l)) ∧ Below w.heap.size w w' := by
  rcases Nat.eq_zero_or_pos l.length with h0 | h0
  · obtain rfl := List.eq_nil_of_length_eq_zero h0
    rcases h.2 with ⟨rfl, -⟩ | ⟨g, cap, cur, rfl, hb, hh, hle, hm, hz, ht⟩
    · exact goodOpS_nil w
    · exact goodOpS (l := []) ⟨⟨by simp, hm⟩, fun i hi => by simp at hi, by simp, (fun j u hu => by simp [encP] at hu), (Array.getElem?_eq_some_iff.1 hh).1, fun _ => rfl⟩
  · obtain ⟨g, cap, rfl, hle, hm, hB, hlt, hc, hbk⟩ := own_cat h h0
    exact goodOpS ⟨⟨hle, hm⟩, hs, hl, hc, hlt, fun _ => rfl⟩

/-- What SpliceOp answers. -/
def spOk (s put : ByteArray) (a b : Int) : Prop := good s.data.toList = true ∧ good put.data.toList = true ∧ 0 ≤ a ∧ a ≤ b ∧ b ≤ (s.size : Int)
instance (s put : ByteArray) (a b : Int) : Decidable (spOk s put a b) := by unfold spOk; infer_instance
def spO (s put : ByteArray) (a b : Int) : List Pt × Bool := if spOk s put a b ∧ goodO (spT s put a.toNat b.toNat) = true then (spT s put a.toNat b.toNat, true) else ([], false)
theorem spT_small {s put : ByteArray} {a b : Nat} (hs : good s.data.toList = true) (hp : good put.data.toList = true) (ha : a ≤ b) (hb : b ≤ s.size) : (spT s put a b).length ≤ 4 ∧ ∀ q ∈ spT s put a b, q.put.size ≤ 1048576 ∧ q.drop.size ≤ 1048576 := by
  unfold spT
  split
  · refine ⟨by have := keepL_len (s.size : Int); omega, fun q hq => ?_⟩
    unfold keepL at hq
    split at hq
    · simp at hq; subst hq; exact ⟨by show (0 : Nat) ≤ 1048576; omega, by show (0 : Nat) ≤ 1048576; omega⟩
    · cases hq
  · have h4 : (spN s put a b).length ≤ 4 := List.length_filter_le _ _
    have hn := norm_bd (spN s put a b) (spN_pk hs hp ha hb) (spN s put a b).length (Nat.le_refl _)
    rw [List.take_length] at hn
    refine ⟨by omega, fun q hq => ?_⟩
    have := hn.2 q hq
    exact ⟨by have := this.2.1; omega, by have := this.2.2; omega⟩

set_option maxRecDepth 100000 in
set_option maxHeartbeats 4000000 in
theorem spliceS {w : World} (s put : ByteArray) (a b : Int) (hls : s.size ≤ 1048576) (hlp : put.size ≤ 1048576) :
    Calls Tryd.prog 5 #[.string s, .int .i64 a, .int .i64 b, .string put] w fun e w' => ∃ v, e = .returned (.tuple #[v, .bool (spO s put a b).2]) ∧ POwn w' w.heap.size v (spO s put a b).1 ∧ Below w.heap.size w w' := by
  have T1 := hide (fun w' => goodTextS_any s w' hls)
  have T2 := hide (fun w' => goodTextS_any put w' hlp)
  have I1 := hide (fun w' => l1In_any a 0 (s.size : Int) w')
  have I2 := hide (fun w' => l1In_any b a (s.size : Int) w')
  have no : ¬ spOk s put a b → spO s put a b = ([], false) := fun h => by unfold spO; rw [if_neg (fun c => h c.1)]
  cases h1 : good s.data.toList with
  | false =>
    rw [no (fun c => by have := c.1; rw [h1] at this; cases this)]
    rw [h1] at T1
    go_enter Tryd.func5, Tryd.ntmps5
    go_wp2_with (first
      | (go_at_call 14; refine (T1.out _).mono ?_; rintro e w' ⟨rfl, hw⟩; replace hw := hw.symm; subst hw))
    go_ret2
    exact ⟨_, rfl, World.ownsRow_nil _ _ _ _, Below.refl _ _⟩
  | true =>
    rw [h1] at T1
    cases h2 : good put.data.toList with
    | false =>
      rw [no (fun c => by have := c.2.1; rw [h2] at this; cases this)]
      rw [h2] at T2
      go_enter Tryd.func5, Tryd.ntmps5
      go_wp2_with fail
      refine (T1.out _).mono ?_
      rintro e w' ⟨rfl, hw⟩
      replace hw := hw.symm; subst hw
      go_wp2_with fail
      refine (T2.out _).mono ?_
      rintro e w' ⟨rfl, hw⟩
      replace hw := hw.symm; subst hw
      go_wp2
      go_ret2
      exact ⟨_, rfl, World.ownsRow_nil _ _ _ _, Below.refl _ _⟩
    | true =>
      rw [h2] at T2
      by_cases h3 : 0 ≤ a ∧ a ≤ (s.size : Int)
      · rw [decide_eq_true h3] at I1
        by_cases h4 : a ≤ b ∧ b ≤ (s.size : Int)
        · rw [decide_eq_true h4] at I2
          have hok : spOk s put a b := ⟨h1, h2, h3.1, h4.1, h4.2⟩
          obtain ⟨m, rfl⟩ : ∃ m : Nat, a = m := ⟨a.toNat, by omega⟩
          obtain ⟨n, rfl⟩ : ∃ n : Nat, b = n := ⟨b.toNat, by omega⟩
          have hmn : m ≤ n := by omega
          have hns : n ≤ s.size := by omega
          have S := hide (fun w' => l3Splice_any (w := w') h1 h2 hmn hns)
          obtain ⟨hq1, hq2⟩ := spT_small h1 h2 hmn hns
          have G := hide (fun w' v (h : POwn w' w.heap.size v (spT s put m n)) => goodOpS_own h (fun i hi => hq2 _ (List.getElem_mem hi)) (by omega))
          unfold spO
          simp only [hok, true_and, Int.toNat_natCast]
          clear no hq1 hq2 hok h1 h2 h3 h4
          have body : ∀ x : Bool, goodO (spT s put m n) = x → Calls Tryd.prog 5 #[.string s, .int .i64 (m : Int), .int .i64 (n : Int), .string put] w fun e w' => ∃ v, e = .returned (.tuple #[v, .bool (if x = true then (spT s put m n, true) else (([] : List Pt), false)).2]) ∧ POwn w' w.heap.size v (if x = true then (spT s put m n, true) else (([] : List Pt), false)).1 ∧ Below w.heap.size w w' := by
            intro x hx
            rw [hx] at G
            clear hx
            go_enter Tryd.func5, Tryd.ntmps5
            go_wp2_with fail
            refine (T1.out _).mono ?_
            rintro e w' ⟨rfl, hw⟩
            replace hw := hw.symm; subst hw
            go_wp2_with fail
            refine (T2.out _).mono ?_
            rintro e w' ⟨rfl, hw⟩
            replace hw := hw.symm; subst hw
            go_wp2_with fail
            refine (I1.out _).mono ?_
            rintro e w' ⟨rfl, hw⟩
            replace hw := hw.symm; subst hw
            go_wp2_with fail
            refine (I2.out _).mono ?_
            rintro e w' ⟨rfl, hw⟩
            replace hw := hw.symm; subst hw
            go_wp2_with fail
            refine (S.out _).mono ?_
            rintro e w1 ⟨v1, rfl, o1, hb1⟩
            go_wp2_with fail
            refine (G.out _ _ o1).mono ?_
            rintro e w2 ⟨rfl, hb2⟩
            replace o1 := own_below o1 hb2
            replace hb2 := hb1.trans (hb2.mono hb1.size)
            cases x with
            | true =>
              go_wp2
              all_goals
                go_ret2
                exact ⟨_, rfl, o1, hb2⟩
            | false =>
              go_wp2
              all_goals
                go_ret2
                exact ⟨_, rfl, World.ownsRow_nil _ _ _ _, hb2⟩
          exact body _ rfl
        · rw [no (fun c => h4 ⟨c.2.2.2.1, c.2.2.2.2⟩)]
          rw [decide_eq_false h4] at I2
          clear no h4
          go_enter Tryd.func5, Tryd.ntmps5
          go_wp2_with fail
          refine (T1.out _).mono ?_
          rintro e w' ⟨rfl, hw⟩
          replace hw := hw.symm; subst hw
          go_wp2_with fail
          refine (T2.out _).mono ?_
          rintro e w' ⟨rfl, hw⟩
          replace hw := hw.symm; subst hw
          go_wp2_with fail
          refine (I1.out _).mono ?_
          rintro e w' ⟨rfl, hw⟩
          replace hw := hw.symm; subst hw
          go_wp2_with fail
          refine (I2.out _).mono ?_
          rintro e w' ⟨rfl, hw⟩
          replace hw := hw.symm; subst hw
          go_wp2
          go_ret2
          exact ⟨_, rfl, World.ownsRow_nil _ _ _ _, Below.refl _ _⟩
      · rw [no (fun c => h3 ⟨c.2.2.1, by have := c.2.2.2; omega⟩)]
        rw [decide_eq_false h3] at I1
        clear no h3
        go_enter Tryd.func5, Tryd.ntmps5
        go_wp2_with fail
        refine (T1.out _).mono ?_
        rintro e w' ⟨rfl, hw⟩
        replace hw := hw.symm; subst hw
        go_wp2_with fail
        refine (T2.out _).mono ?_
        rintro e w' ⟨rfl, hw⟩
        replace hw := hw.symm; subst hw
        go_wp2_with fail
        refine (I1.out _).mono ?_
        rintro e w' ⟨rfl, hw⟩
        replace hw := hw.symm; subst hw
        go_wp2
        go_ret2
        exact ⟨_, rfl, World.ownsRow_nil _ _ _ _, Below.refl _ _⟩
end Go.Proofs.YtknilofnelhgmabDoor
