/- The least width: the model's; cuts that are as said; lines broken at cuts: the program's and the model's. -/
import Derived.Test.YtgacajnljplmiabDoorLin9
set_option linter.unusedVariables false
namespace Go.Proofs.YtgacajnljplmiabDoor
open Go.RowKit
open Doc1

theorem grL_len {l : List ByteArray} {n : Int} (h : said l n = true) : (grL l n).length ≤ 60 := by
  have hd := said_iff.1 h
  unfold grL
  rw [lnE_len]
  have : ∀ (q x : Nat), l.length - x = q → (gE l n x).length ≤ q := by
    intro q
    induction q using Nat.strongRecOn with
    | ind q ih =>
      intro x ha
      by_cases h : x < l.length
      · rw [gE_on h, List.length_cons]
        have h2 := gx_bd l n x _ (x + 1) rfl (by omega)
        have := ih (l.length - gx l n x (x + 1)) (by omega) _ rfl
        omega
      · rw [gE_end h]; exact Nat.zero_le _
  have h1 := this _ 0 rfl
  have := hd.len
  omega

set_option maxRecDepth 100000 in
set_option maxHeartbeats 2000000 in
theorem leastS_any (l : List ByteArray) (m : Int) (a : Option Addr) (cap : Nat) (w : World) (h : StIn w a cap l) (hs : ∀ s ∈ l, s.size ≤ 1048576) (hl : l.length ≤ 10000000) :
    Calls Tryd.prog 11 #[.slice a l.length cap, .int .i64 m] w (IbPost (lwT l m).1 (lwT l m).2 w) := by
  have E := hide (l13Said_any l 80 a cap w h hs hl)
  have I : Hid (Calls Tryd.prog 55 #[.int .i64 m, .int .i64 1, .int .i64 60] w fun e w' => e = .returned (.bool (decide ((1 : Int) ≤ m ∧ m ≤ 60))) ∧ w' = w) := hide (l1In_any _ _ _ w)
  obtain ⟨R, hR⟩ : ∃ R, R = lwT l m := ⟨_, rfl⟩
  rw [← hR]
  unfold lwT at hR
  by_cases hw : said l 80 = true
  · rw [hw] at E
    by_cases h1 : (1 : Int) ≤ m ∧ m ≤ 60
    · rw [decide_eq_true h1] at I
      rw [if_pos ⟨hw, h1.1, h1.2⟩] at hR
      by_cases h0 : l.length = 0
      · rw [if_pos h0] at hR
        subst hR
        rw [h0] at E ⊢
        clear h hs hw
        go_enter Tryd.func11, Tryd.ntmps11
        go_wp2_with (first | (go_at_call 54; refine E.out.mono ?_; rintro e w1 ⟨rfl, hw'⟩; replace hw' := hw'.symm; subst hw') | (go_at_call 55; refine I.out.mono ?_; rintro e w1 ⟨rfl, hw'⟩; replace hw' := hw'.symm; subst hw'))
        go_ret2
        exact ⟨rfl, Below.refl _ _⟩
      · rw [if_neg h0] at hR
        have HR := hide hR
        have S : Hid (∀ (n : Int) w', Below w.heap.size w w' → Calls Tryd.prog 54 #[.slice a l.length cap, .int .i64 n] w' fun e w'' => e = .returned (.bool (said l n)) ∧ w'' = w') := hide (fun n w' hb => l13Said_any l n a cap w' (h.later hb) hs hl)
        have G : Hid (∀ (n : Int) w', said l n = true → Below w.heap.size w w' → Calls Tryd.prog 56 #[.slice a l.length cap, .int .i64 n] w' (LsPost (grL l n) w')) := hide (fun n w' hn hb => l13Greedy_any l n a cap w' (said_iff.1 hn) (h.later hb))
        have hz : ((l.length : Int) == 0) = false := by simp; intro e; subst e; simp at h0
        clear hR h hs hw
        go_enter Tryd.func11, Tryd.ntmps11
        go_wp2_with (first | (go_at_call 54; refine E.out.mono ?_; rintro e w1 ⟨rfl, hw'⟩; replace hw' := hw'.symm; subst hw') | (go_at_call 55; refine I.out.mono ?_; rintro e w1 ⟨rfl, hw'⟩; replace hw' := hw'.symm; subst hw'))
        clear E I
        go_loopw [6] (fun i wr => ∃ k : Nat, k ≤ 81 ∧ i = .int .i64 (k : Int) ∧ Hid (R = lwx l m k) ∧ Hid (Below w.heap.size w wr)) (fun i _ => 81 - (intOf i).toNat)
        case atStart => exact ⟨1, by omega, rfl, HR, hide (Below.refl _ _)⟩
        case round =>
          obtain ⟨k, hk, rfl, HK, HB⟩ := hrel
          by_cases hlt : k ≤ 80
          · have S1 := hide (S.out (k : Int) wr HB.out)
            have hd8 : decide ((k : Int) ≤ 80) = true := by rw [decide_eq_true_iff]; omega
            by_cases hsd : said l k = true
            · have G1 := hide (G.out (k : Int) wr hsd HB.out)
              have hlen := grL_len hsd
              rw [hsd] at S1
              by_cases hm : ((grL l k).length : Int) ≤ m
              · have HX : Hid (R = ((k : Int), true)) := hide (by rw [HK.out, lwx_yes hlt ⟨hsd, hm⟩])
                obtain ⟨L, hL⟩ : ∃ L, L = grL l k := ⟨_, rfl⟩
                rw [← hL] at hm hlen G1
                have dm : decide ((L.length : Int) ≤ m) = true := decide_eq_true hm
                clear hL hsd
                go_wp2_with (first
                  | (go_at_call 54; refine S1.out.mono ?_; rintro e w1 ⟨rfl, hw'⟩; replace hw' := hw'.symm; subst hw')
                  | (go_at_call 56; refine G1.out.mono ?_; rintro e w2 ⟨v2, rfl, ho2, hb2⟩; obtain ⟨a2, c2, rfl, hs2⟩ := ho2.st; have HB2 := hide (HB.out.trans (hb2.mono HB.out.size)); clear ho2 hs2 hb2))
                go_ret2
                rw [HX.out]
                exact ⟨rfl, HB2.out⟩
              · have HX : Hid (R = lwx l m (k + 1)) := hide (by rw [HK.out, lwx_no hlt (fun e => hm e.2)])
                obtain ⟨L, hL⟩ : ∃ L, L = grL l k := ⟨_, rfl⟩
                rw [← hL] at hm hlen G1
                have dm : decide ((L.length : Int) ≤ m) = false := decide_eq_false hm
                clear hL hsd
                go_wp2_with (first
                  | (go_at_call 54; refine S1.out.mono ?_; rintro e w1 ⟨rfl, hw'⟩; replace hw' := hw'.symm; subst hw')
                  | (go_at_call 56; refine G1.out.mono ?_; rintro e w2 ⟨v2, rfl, ho2, hb2⟩; obtain ⟨a2, c2, rfl, hs2⟩ := ho2.st; have HB2 := hide (HB.out.trans (hb2.mono HB.out.size)); clear ho2 hs2 hb2))
                exact ⟨⟨k + 1, by omega, by go_num, HX, HB2⟩, by simp [intOf]; omega⟩
            · have HX : Hid (R = lwx l m (k + 1)) := hide (by rw [HK.out, lwx_no hlt (fun e => hsd e.1)])
              have hsd2 : said l k = false := by simpa using hsd
              rw [hsd2] at S1
              clear hsd hsd2
              go_wp2_with (go_at_call 54; refine S1.out.mono ?_; rintro e w1 ⟨rfl, hw'⟩; replace hw' := hw'.symm; subst hw')
              exact ⟨⟨k + 1, by omega, by go_num, HX, HB⟩, by simp [intOf]; omega⟩
          · have HX : Hid (R = (0, false)) := hide (by rw [HK.out, lwx_end hlt])
            have hd8 : decide ((k : Int) ≤ 80) = false := by rw [decide_eq_false_iff_not]; omega
            go_wp2
            go_ret2
            rw [HX.out]
            exact ⟨rfl, HB.out⟩
    · rw [decide_eq_false h1] at I
      obtain rfl : R = (0, false) := by rw [hR, if_neg (fun e => h1 e.2)]
      clear hR h hs hw h1
      go_enter Tryd.func11, Tryd.ntmps11
      go_wp2_with (first | (go_at_call 54; refine E.out.mono ?_; rintro e w1 ⟨rfl, hw'⟩; replace hw' := hw'.symm; subst hw') | (go_at_call 55; refine I.out.mono ?_; rintro e w1 ⟨rfl, hw'⟩; replace hw' := hw'.symm; subst hw'))
      go_ret2
      exact ⟨rfl, Below.refl _ _⟩
  · have hw2 : said l 80 = false := by simpa using hw
    rw [hw2] at E
    obtain rfl : R = (0, false) := by rw [hR, if_neg (fun e => hw e.1)]
    clear hR h hs hw hw2 I
    go_enter Tryd.func11, Tryd.ntmps11
    go_wp2_with (go_at_call 54; refine E.out.mono ?_; rintro e w1 ⟨rfl, hw'⟩; replace hw' := hw'.symm; subst hw')
    go_ret2
    exact ⟨rfl, Below.refl _ _⟩
end Go.Proofs.YtgacajnljplmiabDoor
