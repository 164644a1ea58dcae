/- Cuts that are as said; lines broken at cuts: the program's and the model's. -/
import Derived.Test.YtgacajnljplmiaaDoorLina
set_option linter.unusedVariables false
namespace Go.Proofs.YtgacajnljplmiaaDoor
open Go.RowKit
open Doc1

set_option maxRecDepth 100000 in
set_option maxHeartbeats 1000000 in
theorem areCuts_any (cs : List Int) (n : Nat) (a : Option Addr) (cap : Nat) (w : World) (h : NuIn w a cap cs) (hr : ∀ j (hj : j < cs.length), -9223372036854775808 ≤ cs[j] ∧ cs[j] ≤ 9223372036854775807) (hl : cs.length ≤ 10000000) :
    Calls Tryd.prog 45 #[.slice a cs.length cap, .int .i64 (n : Int)] w fun e w' => e = .returned (.bool (vc n 0 cs)) ∧ w' = w := by
  have HS := hide h.ce
  have HR := hide hr
  obtain ⟨Z, hZ⟩ : ∃ Z, Z = vc n 0 cs := ⟨_, rfl⟩
  rw [← hZ]
  have HZ := hide hZ
  clear h hr hZ
  go_enter Tryd.func45, Tryd.ntmps45
  go_wp2
  go_loop [5, 10] (fun va i => ∃ (k : Nat) (x : Int), k ≤ cs.length ∧ i = .int .i64 k ∧ va = .int .i64 x ∧ Hid (Z = vc n x (cs.drop k))) (fun _ i => cs.length - (intOf i).toNat)
  case atStart => exact ⟨0, 0, Nat.zero_le _, rfl, rfl, by simpa using HZ⟩
  case round =>
    obtain ⟨k, x, hk, rfl, rfl, hz⟩ := hrel
    by_cases hlt : k < cs.length
    · obtain ⟨g, o, rfl, hg, hc⟩ := HS.out k hlt
      have hst := hide (vc_at (n := n) (a := x) hlt)
      obtain ⟨c, hcc⟩ : ∃ c, cs[k] = c := ⟨_, rfl⟩
      rw [hcc] at hc hst
      by_cases h1 : x < c
      · have d1 : decide (c ≤ x) = false := by rw [decide_eq_false_iff_not]; omega
        by_cases h2 : c < (n : Int)
        · have d2 : decide ((n : Int) ≤ c) = false := by rw [decide_eq_false_iff_not]; omega
          have HN : Hid (Z = vc n c (cs.drop (k + 1))) := hide (by rw [hz.out, hst.out, decide_eq_true ⟨h1, h2⟩]; rfl)
          clear hcc h1 h2
          go_wp2
          go_round
          case rel => exact ⟨k + 1, c, by omega, by go_num, rfl, HN⟩
          case measure => simp [intOf]; omega
        · have d2 : decide ((n : Int) ≤ c) = true := by rw [decide_eq_true_iff]; omega
          have HN : Hid (false = Z) := hide (by rw [hz.out, hst.out, decide_eq_false (fun e => h2 e.2)]; rfl)
          clear hcc h1 h2
          go_wp2
          go_ret
          exact ⟨ret_bool HN.out, rfl⟩
      · have d1 : decide (c ≤ x) = true := by rw [decide_eq_true_iff]; omega
        have HN : Hid (false = Z) := hide (by rw [hz.out, hst.out, decide_eq_false (fun e => h1 e.1)]; rfl)
        clear hcc h1
        go_wp2
        go_ret
        exact ⟨ret_bool HN.out, rfl⟩
    · have HN : Hid (true = Z) := hide (by rw [hz.out, List.drop_eq_nil_of_le (by omega)]; rfl)
      go_wp2
      go_ret
      exact ⟨ret_bool HN.out, rfl⟩

theorem fits_step {L : List ByteArray} {n : Int} {k : Nat} (h : k < L.length) : fits (L.drop k) n = (decide ((L[k].size : Int) ≤ n) && fits (L.drop (k + 1)) n) := by rw [List.drop_eq_getElem_cons h]; rfl
theorem fits_end {L : List ByteArray} {n : Int} {k : Nat} (h : L.length ≤ k) : fits (L.drop k) n = true := by rw [List.drop_eq_nil_of_le h]; rfl
theorem lnE_mem (l : List ByteArray) : ∀ (c : List Nat) (a : Nat) (s : ByteArray), s ∈ lnE l a c → ∃ x y, s = jn (Doc1.sl l x y)
  | [], a, s, h => by cases h
  | e :: c, a, s, h => by
    rcases List.mem_cons.1 h with rfl | h
    · exact ⟨a, e, rfl⟩
    · exact lnE_mem l c e s h
theorem ln_asc {l : List ByteArray} {n : Int} (hd : Sd l n) {c : List Nat} {a : Nat} {s : ByteArray} (h : s ∈ lnE l a c) : asc s.data.toList ∧ s.size ≤ 5000 := by
  obtain ⟨x, y, rfl⟩ := lnE_mem l c a s h
  refine ⟨jn_asc (fun t ht => wrd_asc (hd.wr t (mem_sl ht))), ?_⟩
  have := wdS_le (a := x) (b := y) hd.tt_le hd.len
  unfold wdS at this
  omega
theorem NuIn.nat {w : World} {a : Option Addr} {cap : Nat} {cs : List Int} (h : NuIn w a cap cs) (hp : ∀ c ∈ cs, 0 ≤ c) : NuIn w a cap (nts (cs.map Int.toNat)) := by
  have e : nts (cs.map Int.toNat) = cs := by
    unfold nts
    rw [List.map_map]
    conv => rhs; rw [← List.map_id cs]
    exact List.map_congr_left (fun c hc => by have := hp c hc; show ((c.toNat : Nat) : Int) = c; omega)
  rw [e]; exact h
theorem cut_len {l : List ByteArray} {n : Int} (hd : Sd l n) {cs : List Int} (h : vc l.length 0 cs = true) : (lnE l 0 (cutE l (cs.map Int.toNat))).length ≤ 61 := by
  rw [lnE_len]
  unfold cutE
  have h1 := (vc_rs (a := 0) h).1
  have h2 := hd.len
  rw [List.length_append]
  have h3 : (cs.map Int.toNat).length ≤ l.length := by
    generalize cs.map Int.toNat = q at h1
    cases q with
    | nil => simp
    | cons x c => have := rs_len h1 (by have := h1.2.1; omega); omega
  split <;> simp only [List.length_nil, List.length_singleton] <;> omega

set_option maxRecDepth 100000 in
set_option maxHeartbeats 2000000 in
theorem breakI_any (l : List ByteArray) (cs : List Int) (n : Int) (a ac : Option Addr) (cap capc : Nat) (w : World) (h : StIn w a cap l) (hs : ∀ s ∈ l, s.size ≤ 1048576) (hn : NuIn w ac capc cs) (hr : ∀ j (hj : j < cs.length), -9223372036854775808 ≤ cs[j] ∧ cs[j] ≤ 9223372036854775807) (hl : cs.length ≤ 10000000) (hT : Tab w) :
    Calls Tryd.prog 22 #[.slice a l.length cap, .slice ac cs.length capc, .int .i64 n] w (LbPost (brL l cs n).1 (brL l cs n).2 w) := by
  have E := hide (eachFits_any l n a cap w h hs hT)
  obtain ⟨R, hR⟩ : ∃ R, R = brL l cs n := ⟨_, rfl⟩
  rw [← hR]
  unfold brL at hR
  have hll := h.c1
  have hlc := h.c2
  unfold maxLen at hlc
  by_cases hd : said l n = true
  · rw [hd] at E
    have AC := hide (fun w' (hb : Below w.heap.size w w') => areCuts_any cs l.length ac capc w' (hn.later hb) hr hl)
    by_cases hv : vc l.length 0 cs = true
    · rw [hv] at AC
      have hsd := said_iff.1 hd
      obtain ⟨hrs, hps⟩ := vc_rs (a := 0) hv
      have LA := hide (fun w' (hb : Below w.heap.size w w') => linesAt_any l (cs.map Int.toNat) n a ac cap capc w' hsd (h.later hb) ((hn.nat hps).later hb) hrs)
      rw [List.length_map] at LA
      have hL61 := cut_len hsd hv
      obtain ⟨L, hL⟩ : ∃ L, L = lnE l 0 (cutE l (cs.map Int.toNat)) := ⟨_, rfl⟩
      rw [← hL] at LA hR hL61
      have HA : Hid (∀ s ∈ L, asc s.data.toList ∧ s.size ≤ 5000) := hide (fun s hs => by rw [hL] at hs; exact ln_asc hsd hs)
      have HRf : Hid (fits L n = true → R = (L, true)) := hide (fun c => by rw [hR, if_pos ⟨hd, hv, c⟩])
      have HRn : Hid (fits L n = false → R = ([], false)) := hide (fun c => by rw [hR, if_neg (fun e => by rw [e.2.2] at c; cases c)])
      have hn1 := hsd.lo
      have hn2 := hsd.hi
      clear hL hR hd hv hsd hrs hps h hs hn hr hT
      go_enter Tryd.func22, Tryd.ntmps22
      go_wp2_with (first | (go_at_call 39; refine E.out.mono ?_; rintro e w1 ⟨rfl, hb1⟩) | (go_at_call 45; refine (AC.out w1 hb1).mono ?_; rintro e w2 ⟨rfl, hw'⟩; replace hw' := hw'.symm; subst hw'))
      have LA1 := hide (LA.out w1 hb1)
      have HB1 := hide hb1
      clear hb1 E AC LA
      go_wp2_with fail
      refine LA1.out.mono ?_
      rintro e w3 ⟨v3, rfl, ho3, hb3⟩
      have HB3 : Hid (Below w.heap.size w w3) := hide (HB1.out.trans (hb3.mono HB1.out.size))
      have HO3 := hide (own_mono ho3 HB1.out.size)
      obtain ⟨a3, c3, rfl, hs3⟩ := ho3.st
      have HS3 := hide hs3.ce
      have hc31 := hs3.c1
      have hc32 := hs3.c2
      unfold maxLen at hc32
      clear ho3 hb3 hs3 LA1
      go_wp2
      go_loopw [27] (fun i wr => ∃ k : Nat, k ≤ L.length ∧ i = .int .i64 k ∧ Hid (fits L n = fits (L.drop k) n) ∧ Hid (Below w3.heap.size w3 wr)) (fun i _ => L.length - (intOf i).toNat)
      case atStart => exact ⟨0, Nat.zero_le _, rfl, hide (by rw [List.drop_zero]), hide (Below.refl _ _)⟩
      case round =>
        obtain ⟨k, hk, rfl, hz, HB⟩ := hrel
        by_cases hlt : k < L.length
        · obtain ⟨g, o, rfl, hg, hc⟩ := HS3.out k hlt
          have c1 : wr.cell? ⟨g, o + k, none⟩ = some (.string L[k]) := (World.cell?_of_block (HB.out.block g hg)).trans hc
          have hst := hide (fits_step (n := n) hlt)
          have hw := HA.out _ (List.getElem_mem hlt)
          obtain ⟨s0, hs0⟩ : ∃ s0, L[k] = s0 := ⟨_, rfl⟩
          rw [hs0] at c1 hst hw
          have W1 := hide (fun w' (hx : StIn w' (some ⟨wr.heap.size, 0, none⟩) 1 [s0]) => widthOf_any [s0] _ 1 w' hx (fun s hm => by rw [List.mem_singleton.1 hm]; exact hw.1) (by simp [tt]; omega) (by simp))
          have W2 := hide (W1.out _ (StIn.one wr s0))
          have et : tt [s0] + ([s0].length - 1) = s0.size := by simp [tt]
          rw [et] at W2
          rw [show [s0].length = 1 from rfl] at W2
          have hz1 := hw.2
          clear W1 hc hw hs0 et
          by_cases hf : (s0.size : Int) ≤ n
          · have HN : Hid (fits L n = fits (L.drop (k + 1)) n) := hide (by rw [hz.out, hst.out, decide_eq_true hf]; rfl)
            have hd : decide (n < (s0.size : Int)) = false := by rw [decide_eq_false_iff_not]; omega
            go_wp2_with (go_at_call 46; refine W2.out.mono ?_; rintro e w5 ⟨rfl, hb5⟩; have HB5 : Hid (Below w3.heap.size w3 w5) := hide ((HB.out.alloc HB.out.size _).trans (hb5.mono (HB.out.alloc HB.out.size _).size)); clear hb5)
            refine ⟨⟨k + 1, by omega, by go_num, HN, HB5⟩, by simp [intOf]; omega⟩
          · have HN : Hid (fits L n = false) := hide (by rw [hz.out, hst.out, decide_eq_false hf]; rfl)
            have hd : decide (n < (s0.size : Int)) = true := by rw [decide_eq_true_iff]; omega
            go_wp2_with (go_at_call 46; refine W2.out.mono ?_; rintro e w5 ⟨rfl, hb5⟩; have HB5 : Hid (Below w3.heap.size w3 w5) := hide ((HB.out.alloc HB.out.size _).trans (hb5.mono (HB.out.alloc HB.out.size _).size)); clear hb5)
            go_ret2
            rw [HRn.out HN.out]
            exact ⟨_, rfl, World.ownsRow_nil _ _ _ _, HB3.out.trans (HB5.out.mono HB3.out.size)⟩
        · have HN : Hid (fits L n = true) := hide (by rw [hz.out, fits_end (by omega)])
          go_wp2
          go_ret2
          rw [HRf.out HN.out]
          exact ⟨_, rfl, own_below HO3.out HB.out, HB3.out.trans (HB.out.mono HB3.out.size)⟩
    · have hv2 : vc l.length 0 cs = false := by simpa using hv
      rw [hv2] at AC
      obtain rfl : R = ([], false) := by rw [hR, if_neg (fun e => hv e.2.1)]
      clear hR hd hv hv2 h hs hn hr hT
      go_enter Tryd.func22, Tryd.ntmps22
      go_wp2_with (first | (go_at_call 39; refine E.out.mono ?_; rintro e w1 ⟨rfl, hb1⟩) | (go_at_call 45; refine (AC.out w1 hb1).mono ?_; rintro e w2 ⟨rfl, hw'⟩; replace hw' := hw'.symm; subst hw'))
      go_ret2
      exact ⟨_, rfl, World.ownsRow_nil _ _ _ _, hb1⟩
  · have hd2 : said l n = false := by simpa using hd
    rw [hd2] at E
    obtain rfl : R = ([], false) := by rw [hR, if_neg (fun e => hd e.1)]
    clear hR hd hd2 h hs hn hr hT
    go_enter Tryd.func22, Tryd.ntmps22
    go_wp2_with (go_at_call 39; refine E.out.mono ?_; rintro e w1 ⟨rfl, hb1⟩)
    go_ret2
    exact ⟨_, rfl, World.ownsRow_nil _ _ _ _, hb1⟩
end Go.Proofs.YtgacajnljplmiaaDoor
