/- How wide words are, words that each fit, a line written anew; the model's words and joined words. -/
import Derived.Test.YtgacajnljplmiabDoorLin2
set_option linter.unusedVariables false
namespace Go.Proofs.YtgacajnljplmiabDoor
open Go.RowKit
open Doc1

theorem pl_low (c : UInt8) (h : plB c = true) : c.toNat < 128 := by unfold plB plN at h; simp at h; omega
theorem wrd_asc {s : ByteArray} (h : wrd s = true) : asc s.data.toList := fun c hc => by
  unfold wrd at h
  simp only [Bool.and_eq_true, List.all_eq_true] at h
  have := h.1 c hc
  unfold wdB at this
  simp only [Bool.and_eq_true] at this
  exact pl_low c this.1
theorem tt_take {l : List ByteArray} {k : Nat} (h : k < l.length) : tt (l.take (k + 1)) = tt (l.take k) + l[k].size := by rw [List.take_succ_eq_append_getElem h, tt_snoc]
theorem tt_tk (l : List ByteArray) (k : Nat) : tt (l.take k) ≤ tt l := tt_sub (List.take_sublist _ _)

set_option maxRecDepth 100000 in
set_option maxHeartbeats 2000000 in
theorem widthOf_any (l : List ByteArray) (a : Option Addr) (cap : Nat) (w : World) (h : StIn w a cap l) (hs : ∀ s ∈ l, asc s.data.toList) (ht : tt l ≤ 100000) (hl : l.length ≤ 100000) :
    Calls Tryd.prog 114 #[.slice a l.length cap] w fun e w' => e = .returned (.int .i64 ((tt l + (l.length - 1) : Nat) : Int)) ∧ Below w.heap.size w w' := by
  obtain ⟨n1, hn1⟩ : ∃ n1, n1 = l.length - 1 := ⟨_, rfl⟩
  have e2 : max (0 : Int) ((l.length : Int) - 1) = (n1 : Int) := by omega
  have e3 : IntKind.i64.wrap ((l.length : Int) - 1) = (l.length : Int) - 1 := by rw [IntKind.wrap_i64]; omega
  rw [← hn1]
  have HS := hide h.ce
  have HA := hide hs
  have HT := hide ht
  have hn2 : n1 ≤ 100000 := by omega
  clear h hs ht hn1
  go_enter Tryd.func114, Tryd.ntmps114
  go_wp2
  clear e2 e3
  go_loopw [3, 12] (fun v i wr => ∃ k : Nat, k ≤ l.length ∧ i = .int .i64 k ∧ v = .int .i64 ((n1 + tt (l.take k) : Nat) : Int) ∧ Hid (Below w.heap.size w wr)) (fun _ i _ => l.length - (intOf i).toNat)
  case atStart => exact ⟨0, Nat.zero_le _, rfl, by simp [tt], hide (Below.refl _ _)⟩
  case round =>
    obtain ⟨k, hk, rfl, rfl, HB⟩ := hrel
    by_cases hlt : k < l.length
    · obtain ⟨g, o, rfl, hg, hc⟩ := HS.out k hlt
      have c1 : wr.cell? ⟨g, o + k, none⟩ = some (.string l[k]) := (World.cell?_of_block (HB.out.block g hg)).trans hc
      have hz := tt_take hlt
      have hz2 := tt_tk l (k + 1)
      have ht := HT.out
      obtain ⟨c, cap2, hcv, -⟩ := conv_runes wr l[k] (HA.out _ (List.getElem_mem hlt)) (by omega)
      have hX : Hid ((n1 + tt (l.take (k + 1)) : Nat) = n1 + tt (l.take k) + l[k].size) := hide (by omega)
      have hbd : n1 + tt (l.take k) + l[k].size ≤ 300000 := by omega
      obtain ⟨T, hT⟩ : ∃ T, T = n1 + tt (l.take k) := ⟨_, rfl⟩
      rw [← hT] at hbd hX ⊢
      obtain ⟨s0, hs0⟩ : ∃ s0, l[k] = s0 := ⟨_, rfl⟩
      rw [hs0] at c1 hcv hbd hX
      have HB2 : Hid (Below w.heap.size w (wr.drew.alloc (.cells c 21))) := hide (HB.out.drew.alloc HB.out.size _)
      obtain ⟨W1, hW1⟩ : ∃ W1, W1 = wr.drew.alloc (.cells c 21) := ⟨_, rfl⟩
      rw [← hW1] at hcv HB2
      clear hc hz hz2 ht hT hs0 hW1
      go_wp2
      refine ⟨⟨k + 1, by omega, by go_num, ?_, HB2⟩, by simp [intOf]; omega⟩
      rw [hX.out]
      go_num
    · have hE : Hid ((n1 + tt (l.take k) : Nat) = tt l + n1) := hide (by rw [List.take_of_length_le (by omega)]; omega)
      go_wp2
      go_ret
      refine ⟨?_, HB.out⟩
      show Ending.returned (.int .i64 ((n1 + tt (l.take k) : Nat) : Int)) = _
      rw [hE.out]

def fitW (l : List ByteArray) (n : Int) : Bool := l.all fun s => decide ((s.size : Int) ≤ n)
theorem fitW_step {l : List ByteArray} {n : Int} {k : Nat} (h : k < l.length) : fitW (l.drop k) n = (decide ((l[k].size : Int) ≤ n) && fitW (l.drop (k + 1)) n) := by rw [List.drop_eq_getElem_cons h]; rfl
theorem fitW_end {l : List ByteArray} {n : Int} {k : Nat} (h : l.length ≤ k) : fitW (l.drop k) n = true := by rw [List.drop_eq_nil_of_le h]; rfl
theorem said_split (l : List ByteArray) (n : Int) : said l n = (decide (1 ≤ n ∧ n ≤ 80) && saidW l && fitW l n) := by
  rw [Bool.eq_iff_iff, said_iff]
  unfold saidW fitW
  simp only [Bool.and_eq_true, List.all_eq_true, decide_eq_true_eq]
  exact ⟨fun h => ⟨⟨⟨h.lo, h.hi⟩, h.wr, h.len⟩, h.fit⟩, fun h => ⟨h.1.2.1, h.2, h.1.2.2, h.1.1.1, h.1.1.2⟩⟩
theorem saidW_iff {l : List ByteArray} : saidW l = true ↔ (∀ s ∈ l, wrd s = true) ∧ l.length ≤ 60 := by unfold saidW; simp

set_option maxRecDepth 100000 in
set_option maxHeartbeats 2000000 in
theorem eachFits_any (l : List ByteArray) (n : Int) (a : Option Addr) (cap : Nat) (w : World) (h : StIn w a cap l) (hs : ∀ s ∈ l, s.size ≤ 1048576) (hT : Tab w) :
    Calls Tryd.prog 57 #[.int .i64 n, .slice a l.length cap] w fun e w' => e = .returned (.bool (said l n)) ∧ Below w.heap.size w w' := by
  have K1 := hide (isWidth_any n w)
  have K2 := hide (areWords_any l a cap w h hs hT)
  obtain ⟨Z, hZ⟩ : ∃ Z, Z = said l n := ⟨_, rfl⟩
  rw [← hZ]
  rw [said_split] at hZ
  by_cases h1 : 1 ≤ n ∧ n ≤ 80
  · by_cases h2 : saidW l = true
    · rw [decide_eq_true h1] at K1 hZ
      rw [h2] at K2 hZ
      have HZ : Hid (Z = fitW l n) := hide (by rw [hZ]; simp)
      obtain ⟨hw, hl⟩ := saidW_iff.1 h2
      have HW := hide hw
      have HS := hide h.ce
      have n1 := h1.1
      have n2 := h1.2
      clear hZ h2 hT hs hw h h1
      go_enter Tryd.func57, Tryd.ntmps57
      go_wp2_with (first | (go_at_call 113; refine K1.out.mono ?_; rintro e w' ⟨rfl, hw'⟩; replace hw' := hw'.symm; subst hw') | (go_at_call 53; refine K2.out.mono ?_; rintro e w' ⟨rfl, hw'⟩; replace hw' := hw'.symm; subst hw'))
      clear K1 K2
      go_loopw [17] (fun i wr => ∃ k : Nat, k ≤ l.length ∧ i = .int .i64 k ∧ Hid (Z = fitW (l.drop k) n) ∧ Hid (Below w.heap.size w wr)) (fun i _ => l.length - (intOf i).toNat)
      case atStart => exact ⟨0, Nat.zero_le _, rfl, by simpa using HZ, hide (Below.refl _ _)⟩
      case round =>
        obtain ⟨k, hk, rfl, hr, HB⟩ := hrel
        by_cases hlt : k < l.length
        · obtain ⟨g, o, rfl, hg, hc⟩ := HS.out k hlt
          have c1 : wr.cell? ⟨g, o + k, none⟩ = some (.string l[k]) := (World.cell?_of_block (HB.out.block g hg)).trans hc
          have hst := hide (fitW_step (n := n) hlt)
          have hw := HW.out _ (List.getElem_mem hlt)
          have hz := wrd_size hw
          obtain ⟨s0, hs0⟩ : ∃ s0, l[k] = s0 := ⟨_, rfl⟩
          rw [hs0] at c1 hst hw hz
          have W1 := hide (fun w' (hx : StIn w' (some ⟨wr.heap.size, 0, none⟩) 1 [s0]) => widthOf_any [s0] _ 1 w' hx (fun s hm => by rw [List.mem_singleton.1 hm]; exact wrd_asc hw) (by simp [tt]; omega) (by simp))
          have W2 := hide (W1.out _ (StIn.one wr s0))
          have et : tt [s0] + ([s0].length - 1) = s0.size := by simp [tt]
          rw [et] at W2
          rw [show [s0].length = 1 from rfl] at W2
          have hz1 := hz.2
          clear W1 hc hw hs0 et hz
          by_cases hf : (s0.size : Int) ≤ n
          · have hf2 : Hid (decide ((s0.size : Int) ≤ n) = true) := hide (decide_eq_true hf)
            have hd : decide (n < (s0.size : Int)) = false := by rw [decide_eq_false_iff_not]; omega
            go_wp2_with (go_at_call 114; refine W2.out.mono ?_; rintro e w1 ⟨rfl, hb1⟩; have HB1 : Hid (Below w.heap.size w w1) := hide ((HB.out.alloc HB.out.size _).trans (hb1.mono (HB.out.alloc HB.out.size _).size)); clear hb1)
            refine ⟨⟨k + 1, by omega, by go_num, rel_ok hr.out hst.out hf2.out, HB1⟩, by simp [intOf]; omega⟩
          · have hf2 : Hid (decide ((s0.size : Int) ≤ n) = false) := hide (decide_eq_false hf)
            have hd : decide (n < (s0.size : Int)) = true := by rw [decide_eq_true_iff]; omega
            go_wp2_with (go_at_call 114; refine W2.out.mono ?_; rintro e w1 ⟨rfl, hb1⟩; have HB1 : Hid (Below w.heap.size w w1) := hide ((HB.out.alloc HB.out.size _).trans (hb1.mono (HB.out.alloc HB.out.size _).size)); clear hb1)
            go_ret
            exact ⟨ret_bool (rel_no hr.out hst.out hf2.out), HB1.out⟩
        · go_wp2
          go_ret
          exact ⟨ret_bool (by rw [hr.out, fitW_end (by omega)]), HB.out⟩
    · have h2' : saidW l = false := by simpa using h2
      rw [decide_eq_true h1] at K1
      rw [h2'] at K2 hZ
      obtain rfl : Z = false := by rw [hZ]; simp
      clear hZ h2 h2' hT hs h h1
      go_enter Tryd.func57, Tryd.ntmps57
      go_wp2_with (first | (go_at_call 113; refine K1.out.mono ?_; rintro e w' ⟨rfl, hw'⟩; replace hw' := hw'.symm; subst hw') | (go_at_call 53; refine K2.out.mono ?_; rintro e w' ⟨rfl, hw'⟩; replace hw' := hw'.symm; subst hw'))
      go_ret
      exact ⟨rfl, Below.refl _ _⟩
  · rw [decide_eq_false h1] at K1 hZ
    obtain rfl : Z = false := by rw [hZ]; simp
    clear hZ hT hs h h1 K2
    go_enter Tryd.func57, Tryd.ntmps57
    go_wp2_with (go_at_call 113; refine K1.out.mono ?_; rintro e w' ⟨rfl, hw'⟩; replace hw' := hw'.symm; subst hw')
    go_ret
    exact ⟨rfl, Below.refl _ _⟩
end Go.Proofs.YtgacajnljplmiabDoor
