/- The least width, lines broken at cuts: the program's and the model's. -/
import Derived.Test.YtgacajnljplmiabDoorLin8
set_option linter.unusedVariables false
namespace Go.Proofs.YtgacajnljplmiabDoor
open Go.RowKit
open Doc1

theorem lwx_yes {l : List ByteArray} {m : Int} {k : Nat} (h : k ≤ 80) (h2 : said l k = true ∧ ((grL l k).length : Int) ≤ m) : lwx l m k = ((k : Int), true) := by rw [lwx, if_pos h, if_pos h2]
theorem lwx_no {l : List ByteArray} {m : Int} {k : Nat} (h : k ≤ 80) (h2 : ¬ (said l k = true ∧ ((grL l k).length : Int) ≤ m)) : lwx l m k = lwx l m (k + 1) := by rw [lwx, if_pos h, if_neg h2]
theorem lwx_end {l : List ByteArray} {m : Int} {k : Nat} (h : ¬ k ≤ 80) : lwx l m k = (0, false) := by rw [lwx, if_neg h]
def IbPost (T : Int) (b : Bool) (w : World) (e : Ending) (w' : World) : Prop := e = .returned (.tuple #[.int .i64 T, .bool b]) ∧ Below w.heap.size w w'
theorem grT_len {l : List ByteArray} {n : Int} (h : said l n = true) : (grT l n).1.length = (grL l n).length ∧ (grT l n).2 = true := by unfold grT; rw [if_pos h]; exact ⟨rfl, rfl⟩
theorem grT_no {l : List ByteArray} {n : Int} (h : ¬ said l n = true) : (grT l n).1 = [] ∧ (grT l n).2 = false := by unfold grT; rw [if_neg h]; exact ⟨rfl, rfl⟩

set_option maxRecDepth 100000 in
set_option maxHeartbeats 2000000 in
theorem leastI_any (l : List ByteArray) (m : Int) (a : Option Addr) (cap : Nat) (w : World) (h : StIn w a cap l) (hs : ∀ s ∈ l, s.size ≤ 1048576) (hT : Tab w) :
    Calls Tryd.prog 10 #[.slice a l.length cap, .int .i64 m] w (IbPost (lwT l m).1 (lwT l m).2 w) := by
  have E := hide (areWords_any l a cap w h hs hT)
  obtain ⟨R, hR⟩ : ∃ R, R = lwT l m := ⟨_, rfl⟩
  rw [← hR]
  unfold lwT at hR
  rw [said_80] at hR
  by_cases hw : saidW l = true
  · rw [hw] at E
    by_cases h1 : m < 1
    · obtain rfl : R = (0, false) := by rw [hR, if_neg (by omega)]
      clear hR h hs hT hw
      have d1 : decide (m < 1) = true := decide_eq_true h1
      go_enter Tryd.func10, Tryd.ntmps10
      go_wp2_with (go_at_call 53; refine E.out.mono ?_; rintro e w1 ⟨rfl, hw'⟩; replace hw' := hw'.symm; subst hw')
      go_ret2
      exact ⟨rfl, Below.refl _ _⟩
    · have d1 : decide (m < 1) = false := decide_eq_false h1
      by_cases h2 : 60 < m
      · obtain rfl : R = (0, false) := by rw [hR, if_neg (by omega)]
        clear hR h hs hT hw
        have d2 : decide (60 < m) = true := decide_eq_true h2
        go_enter Tryd.func10, Tryd.ntmps10
        go_wp2_with (go_at_call 53; refine E.out.mono ?_; rintro e w1 ⟨rfl, hw'⟩; replace hw' := hw'.symm; subst hw')
        go_ret2
        exact ⟨rfl, Below.refl _ _⟩
      · have d2 : decide (60 < m) = false := decide_eq_false h2
        rw [if_pos ⟨hw, by omega, by omega⟩] at hR
        by_cases h0 : l.length = 0
        · rw [if_pos h0] at hR
          subst hR
          rw [h0] at E ⊢
          clear h hs hT hw
          go_enter Tryd.func10, Tryd.ntmps10
          go_wp2_with (go_at_call 53; refine E.out.mono ?_; rintro e w1 ⟨rfl, hw'⟩; replace hw' := hw'.symm; subst hw')
          go_ret2
          exact ⟨rfl, Below.refl _ _⟩
        · rw [if_neg h0] at hR
          have HR := hide hR
          have G : Hid (∀ (n : Int) w', Below w.heap.size w w' → Calls Tryd.prog 12 #[.slice a l.length cap, .int .i64 n] w' (LbPost (grT l n).1 (grT l n).2 w')) := hide (fun n w' hb => greedyI_any l n a cap w' (h.later hb) hs (hT.below hb))
          have GL : Hid (∀ n : Int, said l n = true → (grL l n).length ≤ 60) := hide (fun n hn => by
            have hd := said_iff.1 hn
            unfold grL
            rw [lnE_len]
            have : ∀ (q x : Nat), l.length - x = q → (gE l n x).length ≤ q := by
              intro q
              induction q using Nat.strongRecOn with
              | ind q ih =>
                intro x ha
                by_cases h : x < l.length
                · rw [gE_on h, List.length_cons]
                  have h2 := gx_bd l n x _ (x + 1) rfl (by omega)
                  have := ih (l.length - gx l n x (x + 1)) (by omega) _ rfl
                  omega
                · rw [gE_end h]; exact Nat.zero_le _
            have h1 := this _ 0 rfl
            have := hd.len
            omega)
          have hz : ((l.length : Int) == 0) = false := by simp; intro e; subst e; simp at h0
          have hl := (saidW_iff.1 hw).2
          clear hR h hs hT hw
          go_enter Tryd.func10, Tryd.ntmps10
          go_wp2_with (go_at_call 53; refine E.out.mono ?_; rintro e w1 ⟨rfl, hw'⟩; replace hw' := hw'.symm; subst hw')
          go_loopw [6] (fun i wr => ∃ k : Nat, k ≤ 81 ∧ i = .int .i64 (k : Int) ∧ Hid (R = lwx l m k) ∧ Hid (Below w.heap.size w wr)) (fun i _ => 81 - (intOf i).toNat)
          case atStart => exact ⟨1, by omega, rfl, HR, hide (Below.refl _ _)⟩
          case round =>
            obtain ⟨k, hk, rfl, HK, HB⟩ := hrel
            by_cases hlt : k ≤ 80
            · have G1 := hide (G.out (k : Int) wr HB.out)
              have hd8 : decide ((k : Int) ≤ 80) = true := by rw [decide_eq_true_iff]; omega
              by_cases hsd : said l k = true
              · obtain ⟨e1, e2⟩ := grT_len hsd
                have hlen := GL.out _ hsd
                rw [← e1] at hlen
                rw [e2] at G1
                by_cases hm : ((grL l k).length : Int) ≤ m
                · have HX : Hid (R = ((k : Int), true)) := hide (by rw [HK.out, lwx_yes hlt ⟨hsd, hm⟩])
                  rw [← e1] at hm
                  obtain ⟨L, hL⟩ : ∃ L, L = (grT l k).1 := ⟨_, rfl⟩
                  rw [← hL] at hm hlen G1
                  have dm : decide ((L.length : Int) ≤ m) = true := decide_eq_true hm
                  clear e1 e2 hL hsd
                  go_wp2_with fail
                  refine G1.out.mono ?_
                  rintro e w2 ⟨v2, rfl, ho2, hb2⟩
                  obtain ⟨a2, c2, rfl, hs2⟩ := ho2.st
                  clear ho2 hs2
                  go_wp2
                  go_ret2
                  rw [HX.out]
                  exact ⟨rfl, HB.out.trans (hb2.mono HB.out.size)⟩
                · have HX : Hid (R = lwx l m (k + 1)) := hide (by rw [HK.out, lwx_no hlt (fun e => hm e.2)])
                  rw [← e1] at hm
                  obtain ⟨L, hL⟩ : ∃ L, L = (grT l k).1 := ⟨_, rfl⟩
                  rw [← hL] at hm hlen G1
                  have dm : decide ((L.length : Int) ≤ m) = false := decide_eq_false hm
                  clear e1 e2 hL hsd
                  go_wp2_with fail
                  refine G1.out.mono ?_
                  rintro e w2 ⟨v2, rfl, ho2, hb2⟩
                  obtain ⟨a2, c2, rfl, hs2⟩ := ho2.st
                  have HB2 := hide (HB.out.trans (hb2.mono HB.out.size))
                  clear ho2 hs2 hb2
                  go_wp2
                  exact ⟨⟨k + 1, by omega, by go_num, HX, HB2⟩, by simp [intOf]; omega⟩
              · have HX : Hid (R = lwx l m (k + 1)) := hide (by rw [HK.out, lwx_no hlt (fun e => hsd e.1)])
                rw [(grT_no hsd).2] at G1
                clear hsd
                go_wp2_with fail
                refine G1.out.mono ?_
                rintro e w2 ⟨v2, rfl, ho2, hb2⟩
                obtain ⟨a2, c2, rfl, hs2⟩ := ho2.st
                have HB2 := hide (HB.out.trans (hb2.mono HB.out.size))
                clear ho2 hs2 hb2
                go_wp2
                exact ⟨⟨k + 1, by omega, by go_num, HX, HB2⟩, by simp [intOf]; omega⟩
            · have HX : Hid (R = (0, false)) := hide (by rw [HK.out, lwx_end hlt])
              have hd8 : decide ((k : Int) ≤ 80) = false := by rw [decide_eq_false_iff_not]; omega
              go_wp2
              go_ret2
              rw [HX.out]
              exact ⟨rfl, HB.out⟩
  · have hw2 : saidW l = false := by simpa using hw
    rw [hw2] at E
    obtain rfl : R = (0, false) := by rw [hR, if_neg (fun e => hw e.1)]
    clear hR h hs hT hw hw2
    go_enter Tryd.func10, Tryd.ntmps10
    go_wp2_with (go_at_call 53; refine E.out.mono ?_; rintro e w1 ⟨rfl, hw'⟩; replace hw' := hw'.symm; subst hw')
    go_ret2
    exact ⟨rfl, Below.refl _ _⟩
end Go.Proofs.YtgacajnljplmiabDoor
