/- The contracts of the laws' own helpers over rows of strings that came in: how much they hold, copied, held against one another. -/
import Derived.Test.YtgacajnljplmiaaDoorRwStr
import Derived.Test.YtgacajnljplmiaaDoorWalksQ
set_option linter.unusedVariables false
namespace Go.Proofs.YtgacajnljplmiaaDoor
open Go.RowKit
open Doc1

/-- A slice of strings as it came in. -/
inductive ArgS (W : World) : Value → List ByteArray → Prop
  | nil (a : Option Addr) (cap : Nat) : ArgS W (.slice a 0 cap) []
  | row (b off cap : Nat) (l : List ByteArray) (hb : b < W.heap.size) (hn : 0 < l.length) (hle : l.length ≤ cap) (hm : cap ≤ maxLen) (hc : ∀ i (h : i < l.length), W.cell? ⟨b, off + i, none⟩ = some (.string l[i])) :
      ArgS W (.slice (some ⟨b, off, none⟩) l.length cap) l
theorem ArgS.later {W W1 : World} {v : Value} {l : List ByteArray} (h : ArgS W v l) (hb : Below W.heap.size W W1) : ArgS W1 v l := by
  cases h with
  | nil a cap => exact .nil a cap
  | row b off cap p h1 h2 h3 h4 h5 => exact .row b off cap _ (Nat.lt_of_lt_of_le h1 hb.size) h2 h3 h4 (fun i hi => (World.cell?_of_block (hb.block b h1)).trans (h5 i hi))
theorem argS_len {w : World} {v : Value} {l : List ByteArray} (h : ArgS w v l) : l.length ≤ 9223372036854775807 := by
  cases h with
  | nil a cap => simp
  | row b off cap p h1 h2 h3 h4 h5 => unfold maxLen at h4; omega
/-- What the first have of letters. -/
def szSU (l : List ByteArray) : Nat → Nat
  | 0 => 0
  | i + 1 => szSU l i + (match l[i]? with | some x => x.size | none => 0)
theorem szSU_succ (l : List ByteArray) (i : Nat) (h : i < l.length) : szSU l (i + 1) = szSU l i + l[i].size := by
  show szSU l i + _ = _
  rw [List.getElem?_eq_getElem h]
theorem szSU_mono (l : List ByteArray) : ∀ i j, i ≤ j → szSU l i ≤ szSU l j
  | i, 0, h => by obtain rfl : i = 0 := by omega
                  exact Nat.le_refl _
  | i, j + 1, h => by
    by_cases e : i = j + 1
    · subst e; exact Nat.le_refl _
    · have := szSU_mono l i j (by omega)
      show _ ≤ szSU l j + _
      omega
def szSt (l : List ByteArray) : Nat := l.length + szSU l l.length
theorem szSt_at {l : List ByteArray} {m : Nat} (h : szSt l ≤ m) : ∀ s ∈ l, s.size ≤ m := fun s hs => by
  obtain ⟨i, hi, rfl⟩ := List.getElem_of_mem hs
  have h1 := szSU_succ l i hi
  have h2 := szSU_mono l (i + 1) l.length (by omega)
  unfold szSt at h
  omega

set_option maxHeartbeats 2000000 in
/-- Too many letters are told by -1. -/
theorem szS_from {w : World} {v : Value} {l : List ByteArray} (h : ArgS w v l) (hs : ∀ i (hi : i < l.length), l[i].size ≤ 9223372036854775807) (hm : l.length ≤ 9223372036854775807) (left : Nat) (hlf : left ≤ 1048576) :
    Calls Tryd.prog 14 #[v, .int .i64 (left : Int)] w fun e w' => e = .returned (.int .i64 (if szSt l ≤ left then ((left - szSt l : Nat) : Int) else -1)) ∧ Below w.heap.size w w' := by
  cases h with
  | nil a cap =>
    have e0 : (if szSt ([] : List ByteArray) ≤ left then ((left - szSt ([] : List ByteArray) : Nat) : Int) else -1) = left := by simp [szSt, szSU]
    rw [e0]
    go_enter Tryd.func14, Tryd.ntmps14
    go_wp2
    go_loop [1, 5] (fun k i => k = .int .i64 (left : Int) ∧ i = .int .i64 0) (fun _ _ => 0)
    case atStart => exact ⟨rfl, rfl⟩
    case round =>
      obtain ⟨rfl, rfl⟩ := hrel
      go_wp2
      go_ret
      exact ⟨rfl, Below.refl _ _⟩
  | row b off cap l hb hn hle hmx hc =>
    have Hc := hide hc
    have Hs := hide hs
    clear hc hs
    obtain ⟨R, hR⟩ : ∃ R : Int, R = if szSt l ≤ left then ((left - szSt l : Nat) : Int) else -1 := ⟨_, rfl⟩
    rw [← hR]
    unfold szSt at hR
    have HR := hide hR
    clear hR
    by_cases hbig : l.length ≤ left
    · go_enter Tryd.func14, Tryd.ntmps14
      go_wp2
      go_loop [1, 5] (fun k i => ∃ m : Nat, i = .int .i64 m ∧ m ≤ l.length ∧ Hid (l.length + szSU l m ≤ left) ∧ ∃ q : Nat, q ≤ 1048576 ∧ k = .int .i64 (q : Int) ∧ Hid (q = left - (l.length + szSU l m))) (fun _ i => l.length - (intOf i).toNat)
      case atStart => exact ⟨0, rfl, Nat.zero_le _, hide (by show l.length + 0 ≤ _; omega), left - l.length, by omega, by rw [show ((left - l.length : Nat) : Int) = (left : Int) - (l.length : Int) by omega], hide rfl⟩
      case round =>
        obtain ⟨m, rfl, hm1, HM, q, hq0, rfl, HQ⟩ := hrel
        by_cases hlt : m < l.length
        · have c0 := Hc.out m hlt
          have hsz := Hs.out m hlt
          have hsu := szSU_succ l m hlt
          have hmo := szSU_mono l (m + 1) l.length (by omega)
          have hq := HQ.out
          have hm2 := HM.out
          obtain ⟨s0, hs0⟩ : ∃ s0, l[m] = s0 := ⟨_, rfl⟩
          rw [hs0] at c0 hsz hsu
          by_cases hfit : s0.size ≤ q
          · have HM2 : Hid (l.length + szSU l (m + 1) ≤ left) := hide (by omega)
            have HQ2 : Hid (q - s0.size = left - (l.length + szSU l (m + 1))) := hide (by omega)
            have hd : decide ((q : Int) - (s0.size : Int) < 0) = false := by rw [decide_eq_false_iff_not]; omega
            have hwr : IntKind.i64.wrap ((q : Int) - (s0.size : Int)) = (q : Int) - (s0.size : Int) := by rw [IntKind.wrap_i64]; omega
            clear hs0 hsu hmo hq hm2
            go_wp2
            go_round
            case rel => exact ⟨m + 1, by go_num, by omega, HM2, q - s0.size, by omega, by rw [show ((q - s0.size : Nat) : Int) = (q : Int) - (s0.size : Int) by omega], HQ2⟩
            case measure => simp [intOf]; omega
          · have Hno : Hid (¬ l.length + szSU l l.length ≤ left) := hide (by omega)
            have hd : decide ((q : Int) - (s0.size : Int) < 0) = true := by rw [decide_eq_true_iff]; omega
            have hwr : IntKind.i64.wrap ((q : Int) - (s0.size : Int)) = (q : Int) - (s0.size : Int) := by rw [IntKind.wrap_i64]; omega
            clear hs0 hsu hmo hq hm2
            go_wp2
            go_ret
            refine ⟨?_, Below.refl _ _⟩
            show Ending.returned (.int .i64 (-1)) = _
            rw [HR.out, if_neg Hno.out]
        · have HE : Hid (R = (q : Int)) := hide (by
            have : m = l.length := by omega
            have h1 := HM.out
            have h2 := HQ.out
            rw [this] at h1 h2
            rw [HR.out, if_pos h1, h2])
          go_wp2
          go_ret
          refine ⟨?_, Below.refl _ _⟩
          show Ending.returned (.int .i64 (q : Int)) = _
          rw [HE.out]
    · go_enter Tryd.func14, Tryd.ntmps14
      go_wp2
      go_ret
      refine ⟨?_, Below.refl _ _⟩
      show Ending.returned (.int .i64 (-1)) = _
      rw [HR.out, if_neg (by omega)]

theorem makeS (n : Nat) (hn : n ≤ 2000000) : ∃ C : Array Value, C.size = n ∧ ∀ w : World, (Instr.makeSlice 22 (.int .i64 (n : Int)) (.int .i64 (n : Int))).run Tryd.prog w = .ok (.slice (some ⟨w.heap.size, 0, none⟩) n n) (w.alloc (.cells C 9)) := by
  have hinfo : (Tryd.prog.info? 9).map (fun i => (i.zero, i.size, i.bytes)) = some (some (.string ⟨#[]⟩), 1, 16) := by kernel_rfl
  obtain ⟨i0, hi0, hz0, hz1, hz2⟩ := info_parts hinfo
  refine ⟨madeCells (Value.string ⟨#[]⟩).cells (n * i0.size), by rw [size_madeCells, hz1, Nat.mul_one], fun w => ?_⟩
  have := run_make (P := Tryd.prog) w 22 9 i0 (.string ⟨#[]⟩) Tryd.underlying22 hi0 hz0 .i64 .i64 n n (by omega) (Int.le_refl _) (by rw [hz2]; omega) (by omega)
  simpa only [Int.toNat_natCast] using this

/-- A copy of what came in. -/
structure StCp (w : World) (g : Nat) (l : List ByteArray) : Prop where
  at' : CLs w g (encSt l)
  blk : Blk w g l.length
  lt : g < w.heap.size
theorem StCp.later {w w1 : World} {g : Nat} {l : List ByteArray} (h : StCp w g l) (hb : Below w.heap.size w w1) : StCp w1 g l := ⟨h.at'.later hb h.lt, h.blk.later hb h.lt, Nat.lt_of_lt_of_le h.lt hb.size⟩

set_option maxHeartbeats 2000000 in
theorem toS_cp {w : World} {v : Value} {l : List ByteArray} (h : ArgS w v l) (hm : l.length ≤ 2000000) :
    Calls Tryd.prog 16 #[v] w fun e w' => e = .returned (.slice (some ⟨w.heap.size, 0, none⟩) l.length l.length) ∧ StCp w' w.heap.size l ∧ Below w.heap.size w w' := by
  cases h with
  | nil a cap =>
    obtain ⟨C, hC, hmk⟩ := makeS 0 (by omega)
    have S0 := hide (wc_start (cs := encSt []) (w := w) (C := C) (t := 9) (by rw [encSt_len]; simpa using hC))
    have hmk0 : ∀ w : World, (Instr.makeSlice 22 (.int .i64 0) (.int .i64 0)).run Tryd.prog w = .ok (.slice (some ⟨w.heap.size, 0, none⟩) 0 0) (w.alloc (.cells C 9)) := hmk
    clear hmk hC
    go_enter Tryd.func16, Tryd.ntmps16
    go_wp2
    go_loop [4] (fun i => i = .int .i64 0) (fun _ => 0)
    case atStart => rfl
    case round =>
      subst hrel
      go_wp2
      go_ret
      exact ⟨rfl, ⟨fun j u hu => by simp [encSt] at hu, by simpa [encSt] using S0.out.blk, S0.out.lt⟩, S0.out.below⟩
  | row b off cap l hb hn hle hmx hc =>
    obtain ⟨C, hC, hmk⟩ := makeS l.length hm
    have S0 := hide (wc_start (cs := encSt l) (w := w) (C := C) (t := 9) (by rw [encSt_len]; exact hC))
    have Hc := hide hc
    clear hC hc
    go_enter Tryd.func16, Tryd.ntmps16
    go_wp2
    clear hmk
    go_loopw [4] (fun i wr => ∃ k : Nat, k ≤ l.length ∧ i = .int .i64 k ∧ WC (encSt l) w k wr) (fun i _ => l.length - (intOf i).toNat)
    case atStart => exact ⟨0, by omega, rfl, S0.out⟩
    case round =>
      obtain ⟨k, hk, rfl, hat⟩ := hrel
      by_cases hlt : k < l.length
      · have c0 := Hc.out k hlt
        have d0 := (World.cell?_of_block (a := ⟨b, off + k, none⟩) (hat.below.block b hb)).trans c0
        have hel := encSt_len l
        obtain ⟨x0, y0⟩ := hat.blk.ex k (by omega)
        have f0 := hat.blk.fz k
        have A := hide (hat.put (.string l[k]) (show (encSt l)[k]? = some (.string l[k]) by simp [encSt, hlt]))
        clear hat c0 hel
        go_wp2
        refine ⟨⟨k + 1, by omega, by go_num, A.out⟩, by simp [intOf]; omega⟩
      · obtain rfl : k = l.length := by omega
        go_wp2
        go_ret
        rw [← encSt_len] at hat
        exact ⟨rfl, ⟨hat.all, by rw [← encSt_len]; exact hat.blk, hat.lt⟩, hat.below⟩

theorem eqS_cp {w : World} {ga gb : Nat} {l : List ByteArray} (ha : StCp w ga l) (hb : StCp w gb l) (hm : l.length ≤ 2000000) :
    Calls Tryd.prog 11 #[.slice (some ⟨ga, 0, none⟩) l.length l.length, .slice (some ⟨gb, 0, none⟩) l.length l.length] w fun e w' => e = .returned (.bool true) ∧ Below w.heap.size w w' :=
  eqStringS_at ga gb l.length l.length l w (by omega) ⟨Nat.le_refl _, by unfold maxLen; omega⟩ ⟨Nat.le_refl _, by unfold maxLen; omega⟩ ha.at' hb.at' ha.lt hb.lt

theorem markS_cp {w : World} {g : Nat} {l : List ByteArray} (h : StCp w g l) (hm : l.length ≤ 2000000) :
    Calls Tryd.prog 12 #[.slice (some ⟨g, 0, none⟩) l.length l.length, .int .i64 1] w fun e w' => e = .returned (.int .i64 (1 + l.length : Nat)) ∧ w.grownBy w' (some g) := by
  refine (markStringS_at g l.length l.length w (by omega) ⟨Nat.le_refl _, by unfold maxLen; omega⟩ h.lt h.blk).mono ?_
  rintro e w' ⟨rfl, hg, -⟩
  exact ⟨rfl, hg⟩
end Go.Proofs.YtgacajnljplmiaaDoor
