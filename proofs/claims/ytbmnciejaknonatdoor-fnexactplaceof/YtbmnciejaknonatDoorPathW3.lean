/- The contracts of spec.l2Path and spec.PathOf. -/
import Derived.Test.YtbmnciejaknonatDoorPathW2
import Derived.Test.YtbmnciejaknonatDoorWalks5
namespace Go.Proofs.YtbmnciejaknonatDoor
open Go.RowKit
open Doc1

/-- What is known in the rounds of l2Path. -/
structure LPAt (S : ByteArray) (A : Nat) (w : World) (s : ByteArray) (a : Nat) (v : Value) (wr : World) : Prop where
  doc : doc s.data.toList = true
  le : a ≤ s.size
  own : ∃ L : List Int, wr.ownsRow w.heap.size 3 1 v L.length (ints L) ∧ L ++ path s.data.toList a = path S.data.toList A ∧ L.length + s.size ≤ 1000
  below : Below w.heap.size w wr
theorem doc_sz (s : ByteArray) (h : doc s.data.toList = true) : s.size ≤ 300 := by
  unfold doc good at h
  simp only [Bool.and_eq_true, decide_eq_true_eq] at h
  have := h.1.2
  simpa using this
theorem W_zero_dep {s : ByteArray} (hd : doc s.data.toList = true) {i m : Nat} (hi : i ≤ s.size) (h : W s.data.toList i = ⟨[], m⟩) : dep s.data.toList i = 0 := by
  have := W_len s hd i hi
  rw [h] at this
  simpa using this.symm
theorem path_top {s : ByteArray} {a m : Nat} (h : W s.data.toList a = ⟨[], m⟩) : path s.data.toList a = [(a : Int)] := by
  unfold path pathL; rw [h]; simp
theorem ints_snoc (l : List Int) (x : Int) : ints (l ++ [x]) = ints l ++ [.int .i64 x] := by simp [ints]
theorem own_slice {w : World} {B n : Nat} {v : Value} {xs : List Value} (h : w.ownsRow B 3 1 v n xs) : ∃ a cap, v = .slice a n cap ∧ n ≤ cap ∧ cap ≤ maxLen := by
  rcases h.2 with ⟨rfl, h0⟩ | ⟨g, cap, cur, hv, hb, hh, hle, hm, hs, ht⟩
  · exact ⟨none, 0, by rw [h0], by omega, by unfold maxLen; omega⟩
  · exact ⟨_, cap, hv, hle, hm⟩

set_option maxRecDepth 100000 in
set_option maxHeartbeats 4000000 in
theorem l2Path_any (S : ByteArray) (A : Nat) (w : World) (hd : doc S.data.toList = true) (hA : A ≤ S.size) :
    Calls Tryd.prog 39 #[.string S, .int .i64 A] w fun e w' => ∃ v, e = .returned v ∧ w'.ownsRow w.heap.size 3 1 v (path S.data.toList A).length (ints (path S.data.toList A)) ∧ Below w.heap.size w w' := by
  obtain ⟨i0, hi0, hz0, hz1, hz2⟩ := info_parts Tryd.info3
  have hS := doc_sz S hd
  have H0 : Hid (LPAt S A w S A (.slice none 0 0) w) := hide ⟨hd, hA, ⟨[], World.ownsRow_nil _ _ _ _, rfl, by simp; omega⟩, Below.refl _ _⟩
  clear hd
  go_enter Tryd.func39, Tryd.ntmps39
  go_wp2
  go_loopw [0, 1, 5] (fun sv av v wr => ∃ (s : ByteArray) (a : Nat), sv = .string s ∧ av = .int .i64 a ∧ LPAt S A w s a v wr) (fun sv _ _ _ => match sv with | .string s => s.size | _ => 0)
  case atStart => exact ⟨S, A, rfl, rfl, H0.out⟩
  case round =>
    obtain ⟨s, a, rfl, rfl, hat⟩ := hrel
    obtain ⟨L, hown, hL, hLl⟩ := hat.own
    have hle := hat.le
    have hbel := hat.below
    have hsz := hat.below.size
    have Hd := hide hat.doc
    have HL := hide hL
    have hs3 := doc_sz s hat.doc
    clear hat hL H0
    obtain ⟨av, cv, rfl, hcv1, hcv2⟩ := own_slice hown
    go_wp2
    go_loop [6, 7, 8] (fun mv nv iv => ∃ m i : Nat, mv = .int .i64 m ∧ nv = .int .i64 (-1) ∧ iv = .int .i64 i ∧ i ≤ a ∧ m ≤ i ∧ Hid (W s.data.toList i = ⟨[], m⟩)) (fun _ _ iv => a - (intOf iv).toNat)
    case atStart => exact ⟨0, 0, rfl, rfl, rfl, Nat.zero_le _, Nat.le_refl _, rfl⟩
    case round =>
      obtain ⟨m, i, rfl, rfl, rfl, hi, hmi, hW⟩ := hrel
      by_cases hlt : i < a
      · have his : i < s.size := by omega
        have O := l1Open_any s[i] wr
        by_cases hop : opB s[i] = true
        · rw [hop] at O
          replace O := hide O
          obtain ⟨K, hK⟩ := end_ex s Hd.out i his (dl_is_op hop)
          have hlo := hK.lo
          have hhi := hK.hi
          have M := hide (l1Match_end s i K wr (by omega) hK his hop)
          have WA := hide (W_after Hd.out hK hop hW.out)
          have DI := hide (doc_inner3 Hd.out hK hop)
          by_cases hKa : a ≤ K
          · have PI := hide (path_in Hd.out hK hop hW.out hlt hKa)
            have M2 : Hid (∀ wx, Calls Tryd.prog 44 #[.string s, .int .i64 i] wx fun e w' => e = .returned (.int .i64 K) ∧ w' = wx) := hide (fun wx => l1Match_end s i K wx (by omega) hK his hop)
            clear hK hop WA
            go_wp2_with (first | (go_at_call 43; refine O.out.mono ?_; rintro e w' ⟨rfl, hw⟩; replace hw := hw.symm; subst hw) | (go_at_call 44; refine M.out.mono ?_; rintro e w' ⟨rfl, hw⟩; replace hw := hw.symm; subst hw) | (at_builtin; refine wpList_append_own _ rfl _ _ 31 rfl w.heap.size 3 i0 (.int .i64 0) 1 8 Tryd.underlying31 hi0 hz0 hz1 hz2 rfl (by decide) _ _ _ rfl (hown.alloc _) ⟨wr.heap.size, 0, none⟩ 1 1 [.int .i64 (m : Int)] rfl rfl ?c1 ?c2 ?c3 ?c4 ?c5 ?_))
            all_goals try (first | exact cell_one_new _ _ _ | rfl | (intro u hu; simp at hu; subst hu; rfl) | (unfold maxLen; omega) | omega | (simp; omega))
            intro v' w2 hown' hgrow _
            have Q : LPAt S A w (s.extract (i + 1) K) (a - (i + 1)) v' w2 := ⟨DI.out, by rw [ByteArray.size_extract]; omega, ⟨L ++ [(m : Int)], by rw [ints_snoc, List.length_append]; exact hown', by rw [List.append_assoc, ← HL.out, PI.out]; rfl, by rw [ByteArray.size_extract]; simp; omega⟩, below_append hbel hown hsz hgrow⟩
            have HQ := hide Q
            obtain ⟨L', o', -, -⟩ := Q.own
            obtain ⟨av', cv', rfl, hcw1, hcw2⟩ := own_slice o'
            clear hown' hgrow Q o' hown O M
            go_wp2_with (go_at_call 44; refine (M2.out _).mono ?_; rintro e w' ⟨rfl, hw⟩; replace hw := hw.symm; subst hw)
            refine ⟨⟨s.extract (i + 1) K, a - (i + 1), rfl, by rw [show (a : Int) - ((i : Int) + 1) = ((a - (i + 1) : Nat) : Int) by omega], HQ.out⟩, ?_⟩
            show (s.extract (i + 1) K).size < s.size
            rw [ByteArray.size_extract]; omega
          · clear hK hop DI
            go_wp2_with (first | (go_at_call 43; refine O.out.mono ?_; rintro e w' ⟨rfl, hw⟩; replace hw := hw.symm; subst hw) | (go_at_call 44; refine M.out.mono ?_; rintro e w' ⟨rfl, hw⟩; replace hw := hw.symm; subst hw))
            refine ⟨⟨m + 1, K + 1, by go_num, rfl, by go_num, by omega, by omega, WA⟩, by simp [intOf]; omega⟩
        · rw [Bool.eq_false_iff.2 hop] at O
          replace O := hide O
          have hne : enB s[i] = false := by
            cases he : enB s[i] with
            | false => rfl
            | true =>
              have h1 := dep_succ s i his
              have h2 := (dep_bd s Hd.out (i + 1) (by omega)).1
              have h3 := W_zero_dep Hd.out (by omega) hW.out
              rw [show dl s[i] = -1 by simp [dl, op_of_en he, he]] at h1
              omega
          have W2 : Hid (W s.data.toList (i + 1) = ⟨[], m⟩) := hide (by rw [W_succ s i his, wst_pl (Bool.eq_false_iff.2 hop) hne]; exact hW.out)
          clear hop hne
          go_wp2_with (go_at_call 43; refine O.out.mono ?_; rintro e w' ⟨rfl, hw⟩; replace hw := hw.symm; subst hw)
          refine ⟨⟨m, i + 1, rfl, rfl, by go_num, by omega, by omega, W2⟩, by simp [intOf]; omega⟩
      · obtain rfl : i = a := by omega
        have hP := hide (path_top hW.out)
        go_wp2_with (at_builtin; refine wpList_append_own _ rfl _ _ 31 rfl w.heap.size 3 i0 (.int .i64 0) 1 8 Tryd.underlying31 hi0 hz0 hz1 hz2 rfl (by decide) _ _ _ rfl (hown.alloc _) ⟨wr.heap.size, 0, none⟩ 1 1 [.int .i64 (i : Int)] rfl rfl ?k1 ?k2 ?k3 ?k4 ?k5 ?_)
        all_goals try (first | exact cell_one_new _ _ _ | rfl | (intro u hu; simp at hu; subst hu; rfl) | (unfold maxLen; omega) | omega | (simp; omega))
        intro v' w2 hown' hgrow _
        have hb2 := below_append hbel hown hsz hgrow
        have e : path S.data.toList A = L ++ [(i : Int)] := by rw [← HL.out, hP.out]
        have o2 : Hid (w2.ownsRow w.heap.size 3 1 v' (path S.data.toList A).length (ints (path S.data.toList A))) := hide (by rw [e, ints_snoc, List.length_append]; exact hown')
        clear hown hgrow hown' e
        go_wp2
        go_ret
        exact ⟨_, rfl, o2.out, hb2⟩

set_option maxHeartbeats 1000000 in
theorem pathS_yes (s : ByteArray) (n : Nat) (w : World) (hs : s.size ≤ 1048576) (hd : doc s.data.toList = true) (hn : n ≤ s.size) :
    Calls Tryd.prog 16 #[.string s, .int .i64 n] w fun e w' => ∃ v, e = .returned (.tuple #[v, .bool true]) ∧ w'.ownsRow w.heap.size 3 1 v (path s.data.toList n).length (ints (path s.data.toList n)) ∧ Below w.heap.size w w' := by
  have G := goodDocS_any s w hs
  rw [hd] at G
  replace G := hide G
  have I := l1In_any n 0 s.size w
  rw [decide_eq_true (by omega)] at I
  replace I := hide I
  have T := hide (l2Path_any s n w hd hn)
  clear hd
  go_enter Tryd.func16, Tryd.ntmps16
  go_wp2_with (first | (go_at_call 32; refine G.out.mono ?_; rintro e w' ⟨rfl, hw⟩; replace hw := hw.symm; subst hw) | (go_at_call 38; refine I.out.mono ?_; rintro e w' ⟨rfl, hw⟩; replace hw := hw.symm; subst hw) | (go_at_call 39; refine T.out.mono ?_; rintro e w' ⟨v, rfl, hown, hb⟩))
  go_ret2
  exact ⟨_, rfl, hown, hb⟩

set_option maxHeartbeats 1000000 in
theorem pathS_no (s : ByteArray) (a : Int) (w : World) (hs : s.size ≤ 1048576) (h : ¬ (doc s.data.toList = true ∧ 0 ≤ a ∧ a ≤ s.size)) :
    Calls Tryd.prog 16 #[.string s, .int .i64 a] w fun e w' => e = .returned (.tuple #[.slice none 0 0, .bool false]) ∧ w' = w := by
  have G := goodDocS_any s w hs
  by_cases hd : doc s.data.toList = true
  · rw [hd] at G
    replace G := hide G
    have I := l1In_any a 0 s.size w
    rw [decide_eq_false (fun hr => h ⟨hd, hr.1, hr.2⟩)] at I
    replace I := hide I
    clear h hd
    go_enter Tryd.func16, Tryd.ntmps16
    go_wp2_with (first | (go_at_call 32; refine G.out.mono ?_; rintro e w' ⟨rfl, hw⟩; replace hw := hw.symm; subst hw) | (go_at_call 38; refine I.out.mono ?_; rintro e w' ⟨rfl, hw⟩; replace hw := hw.symm; subst hw))
    go_ret2
    exact ⟨rfl, rfl⟩
  · rw [Bool.eq_false_iff.2 hd] at G
    replace G := hide G
    clear h hd
    go_enter Tryd.func16, Tryd.ntmps16
    go_wp2_with (go_at_call 32; refine G.out.mono ?_; rintro e w' ⟨rfl, hw⟩; replace hw := hw.symm; subst hw)
    go_ret2
    exact ⟨rfl, rfl⟩
end Go.Proofs.YtbmnciejaknonatDoor
