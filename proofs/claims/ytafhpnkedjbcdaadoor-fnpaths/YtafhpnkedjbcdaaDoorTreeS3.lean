/- The contracts of the model's own FlatOf, KidsOf, SizeOf, and of impl.KidsOf. -/
import Derived.Test.YtafhpnkedjbcdaaDoorLyW13
namespace Go.Proofs.YtafhpnkedjbcdaaDoor
open Go.RowKit
open Doc1

theorem flat_any {w : World} {g cap : Nat} {l : List Nd} (h : Nin w g cap l) (hgood : goodT l = true) {k : Nat} (hk : k < l.length) :
    Calls Tryd.prog 89 #[.slice (some ⟨g, 0, none⟩) l.length cap, .int .i64 (k : Int)] w fun e w' => e = .returned (.string (ba (fl l k))) ∧ Below w.heap.size w w' := by
  have hsh : shapeL l = true := by unfold goodT at hgood; simp only [Bool.and_eq_true] at hgood; exact hgood.1
  obtain ⟨hup, -, -⟩ := shape_up hsh
  have hs := h.sum
  have hz := h.sz
  refine l2Flat_any l g cap (by omega) h.cap (fun k hk => ?_) (l.length - k) k (by omega) hk w h.at' h.lt
  have h1 := fl_le l hup k hk
  have h2 := sF_le (ownL l) k (l.length - k)
  rw [show k + (l.length - k) = l.length by omega] at h2
  omega
theorem good_pos {l : List Nd} (h : goodT l = true) : 0 < l.length := by
  unfold goodT at h
  simp only [Bool.and_eq_true] at h
  have := (shape_up h.1).2.1
  omega
theorem good_fl {l : List Nd} (h : goodT l = true) : (fl l 0).length ≤ 300 := by
  unfold goodT doc good at h
  simp only [Bool.and_eq_true, decide_eq_true_eq] at h
  exact h.2.1.1.2

theorem in_eq (k : Int) (n : Nat) (x : Int) : decide (x ≤ k ∧ k ≤ (n : Int) - 1) = decide (x ≤ k ∧ k < (n : Int)) := by
  apply decide_eq_decide.2; omega

/-- What KidsOf answers. -/
def kidsA (l : List Nd) (k : Int) : List Nat := if goodT l = true ∧ 0 ≤ k ∧ k < l.length then kids l k.toNat else []
def KidsPost (l : List Nd) (k : Int) (w : World) (e : Ending) (w' : World) : Prop := ∃ v, e = .returned (.tuple #[v, .bool (inK l k)]) ∧ w'.ownsRow w.heap.size 3 1 v (kidsA l k).length (ints (natI (kidsA l k))) ∧ Below w.heap.size w w'

set_option maxRecDepth 100000 in
set_option maxHeartbeats 2000000 in
theorem kidsS {w : World} {g cap : Nat} {l : List Nd} (k : Int) (h : Nin w g cap l) :
    Calls Tryd.prog 34 #[.slice (some ⟨g, 0, none⟩) l.length cap, .int .i64 k] w (KidsPost l k w) := by
  have G := goodS h
  have hsz := h.sz
  have hcp := h.cap
  unfold KidsPost kidsA inK
  cases hg : goodT l with
  | false =>
    rw [hg] at G
    have HG := hide G
    clear h G
    simp only [Bool.false_eq_true, false_and, if_false, decide_false]
    go_enter Tryd.func34, Tryd.ntmps34
    go_wp2_with fail
    refine HG.out.mono ?_
    rintro e w1 ⟨rfl, hb⟩
    go_wp2
    go_ret2
    exact ⟨_, rfl, World.ownsRow_nil _ _ _ _, hb⟩
  | true =>
    rw [hg] at G
    have HG := hide G
    simp only [true_and]
    have hl0 := good_pos hg
    have I := fun w => l1In_any k 0 ((l.length : Int) - 1) w
    simp only [in_eq] at I
    by_cases hk : 0 ≤ k ∧ k < l.length
    · rw [if_pos hk, decide_eq_true hk]
      simp only [decide_eq_true hk] at I
      have HI := hide I
      obtain ⟨m, rfl⟩ : ∃ m : Nat, k = m := ⟨k.toNat, by omega⟩
      have hm : m < l.length := by omega
      rw [Int.toNat_natCast]
      have F := hide (fun w1 (hb : Below w.heap.size w w1) => l2Kids_any l m g cap w1 hm (by omega) hcp (h.later hb).at' (h.later hb).lt)
      clear h G I
      go_enter Tryd.func34, Tryd.ntmps34
      go_wp2_with fail
      refine HG.out.mono ?_
      rintro e w1 ⟨rfl, hb⟩
      go_wp2_with (go_at_call 62; refine (HI.out _).mono ?_; rintro e w' ⟨rfl, hw⟩; replace hw := hw.symm; subst hw)
      refine (F.out w1 hb).mono ?_
      rintro e w2 ⟨v, rfl, ho, hb2⟩
      go_wp2
      go_ret2
      exact ⟨_, rfl, own_mono (by rw [natI_len] at ho; exact ho) hb.size, hb.trans (hb2.mono hb.size)⟩
    · rw [if_neg hk, decide_eq_false hk]
      simp only [decide_eq_false hk] at I
      have HI := hide I
      clear h G I
      go_enter Tryd.func34, Tryd.ntmps34
      go_wp2_with fail
      refine HG.out.mono ?_
      rintro e w1 ⟨rfl, hb⟩
      go_wp2_with (go_at_call 62; refine (HI.out _).mono ?_; rintro e w' ⟨rfl, hw⟩; replace hw := hw.symm; subst hw)
      go_ret2
      exact ⟨_, rfl, World.ownsRow_nil _ _ _ _, hb⟩
/-- What is known in the rounds of impl.KidsOf. -/
structure KIt (l : List Nd) (k : Nat) (w : World) (v : Value) (i : Nat) (wr : World) : Prop where
  hn : i ≤ l.length
  own : wr.ownsRow w.heap.size 3 1 v (kidsU l k i).length (ints (natI (kidsU l k i)))
  below : Below w.heap.size w wr

set_option maxRecDepth 100000 in
set_option maxHeartbeats 4000000 in
theorem kidsI {w : World} {g cap : Nat} {l : List Nd} (k : Int) (h : Nin w g cap l) (hT : Tab w) :
    Calls Tryd.prog 33 #[.slice (some ⟨g, 0, none⟩) l.length cap, .int .i64 k] w (KidsPost l k w) := by
  have G := goodI h hT
  obtain ⟨i0, hi0, hz0, hz1, hz2⟩ := info_parts Tryd.info3
  have hsz := h.sz
  have hcp := h.cap
  unfold KidsPost kidsA inK
  cases hg : goodT l with
  | false =>
    rw [hg] at G
    have HG := hide G
    clear h G
    simp only [Bool.false_eq_true, false_and, if_false, decide_false]
    go_enter Tryd.func33, Tryd.ntmps33
    go_wp2_with fail
    refine HG.out.mono ?_
    rintro e w1 ⟨rfl, hb⟩
    go_wp2
    go_ret2
    exact ⟨_, rfl, World.ownsRow_nil _ _ _ _, hb⟩
  | true =>
    rw [hg] at G
    have HG := hide G
    simp only [true_and]
    have hl0 := good_pos hg
    have hsh : shapeL l = true := by unfold goodT at hg; simp only [Bool.and_eq_true] at hg; exact hg.1
    have hup := hide (shape_up hsh).1
    by_cases hk : 0 ≤ k ∧ k < l.length
    · rw [if_pos hk, decide_eq_true hk]
      obtain ⟨m, rfl⟩ : ∃ m : Nat, k = m := ⟨k.toNat, by omega⟩
      have hm : m < l.length := by omega
      have hm0 : ¬ ((m : Int) < 0) := by omega
      have hm1 : ¬ (l.length ≤ m) := by omega
      rw [Int.toNat_natCast]
      have H := hide h
      clear h G hg hsh hk
      go_enter Tryd.func33, Tryd.ntmps33
      go_wp2_with fail
      refine HG.out.mono ?_
      rintro e w1 ⟨rfl, hb⟩
      go_wp2
      go_loopw [6, 24] (fun v i wr => ∃ j : Nat, i = .int .i64 j ∧ KIt l m w v j wr) (fun _ i _ => l.length - (intOf i).toNat)
      case atStart => exact ⟨0, rfl, Nat.zero_le _, World.ownsRow_nil _ _ _ _, hb⟩
      case round =>
        obtain ⟨i, rfl, hat⟩ := hrel
        have h2 := hat.hn
        by_cases hlt : i < l.length
        · have nn := (H.out.later hat.below).at'
          have c0 := nn.c0 i hlt
          have c1 := nn.c1 i hlt
          have c2 := nn.c2 i hlt
          have hown := hat.own
          have hbel := hat.below
          have hszz := hat.below.size
          have hkl := kidsU_len l m i
          have Hat := hide hat
          clear hat nn
          by_cases hu : l[i].up = (m : Int)
          · have e1 : (l[i].up == (m : Int)) = true := by rw [hu]; simp
            have HU : Hid (kidsU l m (i + 1) = kidsU l m i ++ [i]) := hide (by
              conv => lhs; unfold kidsU
              have := hup.out i hlt
              rw [ndAt_get hlt, hu] at this
              rw [if_pos ⟨by omega, by rw [ndAt_get hlt]; exact hu⟩])
            clear hu
            go_wp2_with (at_builtin; refine wpList_append_own _ rfl _ _ 47 rfl w.heap.size 3 i0 (.int .i64 0) 1 8 Tryd.underlying47 hi0 hz0 hz1 hz2 rfl (by decide) _ _ _ rfl ((hown.alloc _).alloc _) ⟨wr.heap.size + 1, 0, none⟩ 1 1 [.int .i64 (i : Int)] rfl rfl ?c1 ?c2 ?c3 ?c4 ?c5 ?_)
            all_goals try (first | exact cell_two_new _ _ _ _ | rfl | (intro u hu; simp at hu; subst hu; rfl) | (unfold maxLen; omega) | omega | (simp; omega))
            intro v' w2 hown' hgrow _
            have A : Hid (KIt l m w v' (i + 1) w2) := hide ⟨by omega, by rw [HU.out, natI_snoc, List.length_append]; simpa [ints] using hown', below_append (hbel.alloc hszz _) (hown.alloc _) (by simp; omega) hgrow⟩
            clear hown hown' hgrow
            go_wp2
            go_roundw
            case rel => exact ⟨i + 1, by go_num, A.out⟩
            case measure => simp [intOf]; omega
          · have e1 : (l[i].up == (m : Int)) = false := by simpa using hu
            have HU : Hid (kidsU l m (i + 1) = kidsU l m i) := hide (by conv => lhs; unfold kidsU
                                                                        rw [if_neg (fun hc => hu (by rw [← ndAt_get hlt]; exact hc.2))])
            clear hu
            have A : Hid (KIt l m w _ (i + 1) (wr.alloc (.cells #[.string l[i].name, .string l[i].text, .int .i64 l[i].up] 53))) := hide ⟨by omega, by rw [HU.out]; exact hown.alloc _, hbel.alloc hszz _⟩
            clear hown
            go_wp2
            go_roundw
            case rel => exact ⟨i + 1, by go_num, A.out⟩
            case measure => simp [intOf]; omega
        · obtain rfl : i = l.length := by omega
          have hown := hat.own
          have hbel := hat.below
          clear hat
          go_wp2
          go_ret2
          exact ⟨_, rfl, hown, hbel⟩
    · rw [if_neg hk, decide_eq_false hk]
      clear h G
      by_cases hk0 : k < 0
      · go_enter Tryd.func33, Tryd.ntmps33
        go_wp2_with fail
        refine HG.out.mono ?_
        rintro e w1 ⟨rfl, hb⟩
        go_wp2
        go_ret2
        exact ⟨_, rfl, World.ownsRow_nil _ _ _ _, hb⟩
      · have hk1 : (l.length : Int) ≤ k := by omega
        go_enter Tryd.func33, Tryd.ntmps33
        go_wp2_with fail
        refine HG.out.mono ?_
        rintro e w1 ⟨rfl, hb⟩
        go_wp2
        go_ret2
        exact ⟨_, rfl, World.ownsRow_nil _ _ _ _, hb⟩
end Go.Proofs.YtafhpnkedjbcdaaDoor
