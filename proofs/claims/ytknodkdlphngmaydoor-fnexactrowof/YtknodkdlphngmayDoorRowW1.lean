/- The program's rowAt and RowOf. -/
import Derived.Test.YtknodkdlphngmayDoorBld1
import Derived.Test.YtknodkdlphngmayDoorWalks6
import Derived.Test.YtknodkdlphngmayDoorRow1
import Derived.Test.YtknodkdlphngmayDoorShelf
namespace Go.Proofs.YtknodkdlphngmayDoor
open Go.RowKit
open Doc1

/-- Whether a plain byte is just ahead of a place. -/
def prv (s : ByteArray) (i : Nat) : Bool := if h : 0 < i ∧ i ≤ s.size then plB (s[i - 1]'(by omega)) else false
theorem prv_zero (s : ByteArray) : prv s 0 = false := by unfold prv; rw [dif_neg (by omega)]
theorem prv_succ (s : ByteArray) (i : Nat) (h : i < s.size) : prv s (i + 1) = plB s[i] := by unfold prv; rw [dif_pos (by omega)]; rfl
/-- The row of a stretch, from a place on. -/
def rowR (s : ByteArray) (n E i : Nat) : List UInt8 := rowF ((s.data.toList.drop i).take (E - i)) (dep s.data.toList i - dep s.data.toList n) (prv s i)
theorem rowR_step (s : ByteArray) {n E i : Nat} (h : i < E) (hE : E ≤ s.size) : rowR s n E i = (if dep s.data.toList i = dep s.data.toList n then (if opB (s[i]'(by omega)) then [s[i]'(by omega)] else if plB (s[i]'(by omega)) && !prv s i then [116] else []) else []) ++ rowR s n E (i + 1) := by
  have hi : i < s.size := by omega
  unfold rowR
  rw [sub_cons s i E h hE, rowF_cons, prv_succ s i hi, dep_succ s i hi]
  rw [show dep s.data.toList i - dep s.data.toList n + dl s[i] = dep s.data.toList i + dl s[i] - dep s.data.toList n by omega]
  congr 1
  by_cases c : dep s.data.toList i = dep s.data.toList n
  · rw [if_pos c, if_pos (by omega)]
  · rw [if_neg c, if_neg (by omega)]
theorem rowR_end (s : ByteArray) (n E : Nat) : rowR s n E E = [] := by unfold rowR; rw [Nat.sub_self, List.take_zero]; rfl
theorem rowR_len (s : ByteArray) (n E i : Nat) : (rowR s n E i).length ≤ s.size := by
  unfold rowR
  have h1 := rowF_len ((s.data.toList.drop i).take (E - i)) (dep s.data.toList i - dep s.data.toList n) (prv s i)
  have h2 := List.length_take_le (E - i) (s.data.toList.drop i)
  have h3 : (s.data.toList.drop i).length ≤ s.size := by rw [List.length_drop, Array.length_toList]; exact Nat.sub_le _ _
  have h4 : ((s.data.toList.drop i).take (E - i)).length ≤ (s.data.toList.drop i).length := List.length_take_le' _ _
  omega
/-- Between two rounds: what the builder holds, and what is left. -/
structure RI (s : ByteArray) (n E : Nat) (b : Nat) (w : World) (i : Nat) (out : List UInt8) (wr : World) : Prop where
  lo : n ≤ i
  hi : i ≤ E
  bd : ∃ p, (p = .pointer none ∨ p = BdSelf b) ∧ Bd b b p (byt out) wr
  eq : rowR s n E n = out ++ rowR s n E i
  bel : Below b w wr

set_option maxRecDepth 100000 in
set_option maxHeartbeats 8000000 in
theorem rowAt_any (s : ByteArray) {w : World} {g cap n E : Nat} {a : Int} (hs : s.size ≤ 300) (hT : Tab w) (_hcap : s.size + 1 ≤ cap ∧ cap ≤ maxLen) (hg : g < w.heap.size)
    (hc : ∀ j, j ≤ s.size → w.cell? ⟨g, j, none⟩ = some (.int .i64 (dep s.data.toList j))) (ha : a + 1 = n) (hnE : n ≤ E) (hE : E ≤ s.size)
    (hin : ∀ j, n ≤ j → j ≤ E → dep s.data.toList n ≤ dep s.data.toList j) (hend : E = s.size ∨ (E < s.size ∧ dep s.data.toList (E + 1) < dep s.data.toList n)) :
    Calls Tryd.prog 33 #[.string s, .slice (some ⟨g, 0, none⟩) (s.size + 1) cap, .int .i64 a] w fun e w' => e = .returned (.string ⟨(rowR s n E n).toArray⟩) ∧ Below w.heap.size w w' := by
  have HC := hide hc
  have HTb := hide (fun w' (hb : Below w.heap.size w w') => hT.below hb)
  have HIN := hide hin
  have KD := hide (fun c w' (hb : Below w.heap.size w w') => kindOf_any c w' (hT.below hb))
  have hrl := rowR_len s n E n
  have cn := hc n (by omega)
  have hb0 : Below w.heap.size w (w.alloc (.cells #[.pointer none, .slice none 0 0] 90)) := (Below.refl _ _).alloc (Nat.le_refl _) _
  have cA : (w.alloc (.cells #[.pointer none, .slice none 0 0] 90)).cell? ⟨g, n, none⟩ = some (.int .i64 (dep s.data.toList n)) := (World.cell?_of_block (Below.heap_alloc _ _ _ hg)).trans cn
  have hat : (w.alloc (.cells #[.pointer none, .slice none 0 0] 90)).heap[w.heap.size]? = some (.cells #[.pointer none, .slice none 0 0] 90 (0, 0)) := heap_alloc_new w _
  have R0 : Hid (RI s n E w.heap.size w n [] (w.alloc (.cells #[.pointer none, .slice none 0 0] 90))) := hide ⟨Nat.le_refl _, hnE, ⟨_, .inl rfl, Nat.le_refl _, _, hat, World.ownsRow_nil _ _ _ _, by simp [Value.ownBlock]⟩, rfl, hb0⟩
  clear hc hT hin hat cn hb0
  obtain ⟨D, hD⟩ : ∃ D, D = dep s.data.toList n := ⟨_, rfl⟩
  rw [← hD] at cA hend
  have HD := hide hD
  clear hD
  go_enter Tryd.func33, Tryd.ntmps33
  go_wp2_with fail
  clear cA
  go_loopw [9] (fun i wr => ∃ k : Nat, i = .int .i64 k ∧ ∃ out, Hid (RI s n E w.heap.size w k out wr)) (fun i _ => E - (intOf i).toNat)
  case atStart => exact ⟨n, by go_num, [], R0⟩
  case round =>
    obtain ⟨k, rfl, out, HI⟩ := hrel
    clear R0
    have hlo := HI.out.lo
    have hhi := HI.out.hi
    have hbel := HI.out.bel
    have hsz := hbel.size
    have hoL : out.length ≤ 300 := by have h1 := HI.out.eq; have h2 := congrArg List.length h1; rw [List.length_append] at h2; omega
    by_cases hlt : k < E
    · have hks : k < s.size := by omega
      have hE0 := HIN.out k hlo hhi
      have hE1 := HIN.out (k + 1) (by omega) (by omega)
      have ck := (World.cell?_of_block (hbel.block g hg)).trans (HC.out k (by omega))
      have ck1 := (World.cell?_of_block (hbel.block g hg)).trans (HC.out (k + 1) (by omega))
      have HST := hide (rowR_step s (n := n) hlt hE)
      rw [← HD.out] at hE0 hE1 HST
      obtain ⟨d0, hd0⟩ : ∃ d, d = dep s.data.toList k := ⟨_, rfl⟩
      obtain ⟨d1, hd1⟩ : ∃ d, d = dep s.data.toList (k + 1) := ⟨_, rfl⟩
      rw [← hd0] at ck hE0 HST
      rw [← hd1] at ck1 hE1
      obtain ⟨c, hcc⟩ : ∃ c, c = s[k] := ⟨_, rfl⟩
      rw [← hcc] at HST
      have NX := hide (fun (out' : List UInt8) wr' (h1 : rowR s n E k = out' ++ rowR s n E (k + 1)) h2 h3 => (⟨by omega, by omega, h2, by rw [HI.out.eq, h1, List.append_assoc], h3⟩ : RI s n E w.heap.size w (k + 1) (out ++ out') wr'))
      have KC := hide (fun w' hb => KD.out c w' hb)
      rw [hcc] at KC
      clear hd0 hd1
      by_cases hd : d0 = D
      · rw [if_pos hd] at HST
        have hdb : ¬ d0 > D := by omega
        obtain ⟨p, hp, hbd⟩ := HI.out.bd
        cases ho : opB c with
        | true =>
          rw [if_pos ho] at HST
          have k2 : (kd s[k] == 2) = true := by rw [kd_op, ← hcc]; exact ho
          have P := hide (bld_put (s[k].toNat : Int) hbd hp (by rw [byt_len]; omega) hsz)
          clear ho hbd
          go_wp2_with (first | (go_at_call 32; refine (KC.out _ hbel).mono ?_; rintro e w2 ⟨rfl, hw2⟩; replace hw2 := hw2.symm; subst hw2) | (go_at_call 48; refine P.out.mono ?_; rintro e w3 ⟨rfl, hb3, hw3⟩; have HB3 := hide hb3; have HW3 := hide hw3; clear hb3 hw3))
          have A := hide (NX.out [c] w3 HST.out ⟨_, .inr rfl, by rw [byt_snoc, hcc]; exact HB3.out⟩ (hbel.trans HW3.out))
          refine ⟨⟨k + 1, by go_num, _, A⟩, by simp [intOf]; omega⟩
        | false =>
          rw [if_neg (by rw [ho]; simp)] at HST
          have k2 : (kd s[k] == 2) = false := by rw [kd_op, ← hcc]; exact ho
          cases hpb : plB c with
          | false =>
            rw [hpb, Bool.false_and, if_neg (by simp)] at HST
            have k1 : (kd s[k] == 1) = false := by rw [kd_pl, ← hcc]; exact hpb
            have A := hide (NX.out [] wr HST.out ⟨p, hp, by rw [List.append_nil]; exact hbd⟩ hbel)
            clear ho hpb hbd
            go_wp2_with (go_at_call 32; refine (KC.out _ hbel).mono ?_; rintro e w2 ⟨rfl, hw2⟩; replace hw2 := hw2.symm; subst hw2)
            exact ⟨⟨k + 1, by go_num, _, A⟩, by simp [intOf]; omega⟩
          | true =>
            rw [hpb, Bool.true_and] at HST
            have k1 : (kd s[k] == 1) = true := by rw [kd_pl, ← hcc]; exact hpb
            rcases Nat.eq_zero_or_pos k with hk0 | hk0
            · subst hk0
              rw [prv_zero, if_pos (by simp)] at HST
              have P := hide (bld_put 116 hbd hp (by rw [byt_len]; omega) hsz)
              clear ho hpb hbd
              go_wp2_with (first | (go_at_call 32; refine (KC.out _ hbel).mono ?_; rintro e w2 ⟨rfl, hw2⟩; replace hw2 := hw2.symm; subst hw2) | (go_at_call 48; refine P.out.mono ?_; rintro e w3 ⟨rfl, hb3, hw3⟩; have HB3 := hide hb3; have HW3 := hide hw3; clear hb3 hw3))
              have A := hide (NX.out [116] w3 HST.out ⟨_, .inr rfl, by rw [byt_snoc]; exact HB3.out⟩ (hbel.trans HW3.out))
              exact ⟨⟨0 + 1, by go_num, _, A⟩, by simp [intOf]; omega⟩
            · obtain ⟨m, rfl⟩ : ∃ m, k = m + 1 := ⟨k - 1, by omega⟩
              have hm : m < s.size := by omega
              rw [prv_succ s m hm] at HST
              have KM := hide (fun w' hb => KD.out s[m] w' hb)
              cases hpm : plB s[m] with
              | false =>
                rw [hpm, if_pos (by simp)] at HST
                have k0 : (kd s[m] == 1) = false := by rw [kd_pl]; exact hpm
                have k0' : (kd s[m] != 1) = true := by unfold bne; rw [k0]; rfl
                have P := hide (bld_put 116 hbd hp (by rw [byt_len]; omega) hsz)
                clear ho hpb hbd hpm
                go_wp2_with (first | (go_at_call 32; refine (KC.out _ hbel).mono ?_; rintro e w2 ⟨rfl, hw2⟩; replace hw2 := hw2.symm; subst hw2) | (go_at_call 32; refine (KM.out _ hbel).mono ?_; rintro e w2 ⟨rfl, hw2⟩; replace hw2 := hw2.symm; subst hw2) | (go_at_call 48; refine P.out.mono ?_; rintro e w3 ⟨rfl, hb3, hw3⟩; have HB3 := hide hb3; have HW3 := hide hw3; clear hb3 hw3))
                have A := hide (NX.out [116] w3 HST.out ⟨_, .inr rfl, by rw [byt_snoc]; exact HB3.out⟩ (hbel.trans HW3.out))
                exact ⟨⟨m + 1 + 1, by go_num, _, A⟩, by simp [intOf]; omega⟩
              | true =>
                rw [hpm, if_neg (by simp)] at HST
                have k0 : (kd s[m] == 1) = true := by rw [kd_pl]; exact hpm
                have k0' : (kd s[m] != 1) = false := by unfold bne; rw [k0]; rfl
                have A := hide (NX.out [] wr HST.out ⟨p, hp, by rw [List.append_nil]; exact hbd⟩ hbel)
                clear ho hpb hbd hpm
                go_wp2_with (first | (go_at_call 32; refine (KC.out _ hbel).mono ?_; rintro e w2 ⟨rfl, hw2⟩; replace hw2 := hw2.symm; subst hw2) | (go_at_call 32; refine (KM.out _ hbel).mono ?_; rintro e w2 ⟨rfl, hw2⟩; replace hw2 := hw2.symm; subst hw2))
                exact ⟨⟨m + 1 + 1, by go_num, _, A⟩, by simp [intOf]; omega⟩
      · rw [if_neg hd] at HST
        have hdb : d0 > D := by omega
        obtain ⟨p, hp, hbd⟩ := HI.out.bd
        have A := hide (NX.out [] wr HST.out ⟨p, hp, by rw [List.append_nil]; exact hbd⟩ hbel)
        clear hbd
        go_wp2
        exact ⟨⟨k + 1, by go_num, _, A⟩, by simp [intOf]; omega⟩
    · obtain rfl : k = E := by omega
      obtain ⟨p, hp, hbd⟩ := HI.out.bd
      have hq := HI.out.eq
      rw [rowR_end, List.append_nil] at hq
      have HQ := hide hq
      have P := hide (Tryd.Builder_String_any w.heap.size w.heap.size out wr (by
        rcases hp with rfl | rfl
        · exact .inl hbd
        · exact .inr hbd) hsz)
      clear hbd hq
      rcases hend with he | ⟨he, hl⟩
      · subst he
        go_wp2_with (go_at_call 49; refine P.out.mono ?_; rintro e w3 ⟨rfl, hw3⟩; have HW3 := hide hw3; clear hw3)
        go_ret
        exact ⟨by rw [HQ.out] <;> rfl, hbel.trans HW3.out⟩
      · have ck1 := (World.cell?_of_block (hbel.block g hg)).trans (HC.out (k + 1) (by omega))
        obtain ⟨d1, hd1⟩ : ∃ d, d = dep s.data.toList (k + 1) := ⟨_, rfl⟩
        rw [← hd1] at ck1 hl
        clear hd1
        go_wp2_with (go_at_call 49; refine P.out.mono ?_; rintro e w3 ⟨rfl, hw3⟩; have HW3 := hide hw3; clear hw3)
        go_ret
        exact ⟨by rw [HQ.out] <;> rfl, hbel.trans HW3.out⟩
end Go.Proofs.YtknodkdlphngmayDoor
