/- The program's and the model's words: what is one, rows of words, how wide they are. -/
import Derived.Test.YtgacajnljplmiabDoorLin1
import Derived.Test.YtgacajnljplmiabDoorRun1
import Derived.Test.YtgacajnljplmiabDoorRwStr
import Derived.Test.YtgacajnljplmiabDoorFrm
import Derived.Deep.RegionHeld3
set_option linter.unusedVariables false
namespace Go.Proofs.YtgacajnljplmiabDoor
open Go.RowKit
open Doc1

theorem emp_no {s : ByteArray} (h : 0 < s.size) : s.toList.isEmpty = false := by
  rw [ByteArray.toList_eq, List.isEmpty_eq_false_iff]
  intro e
  have : s.data.toList.length = 0 := by rw [e]; rfl
  rw [← szB] at this; omega
theorem emp_yes {s : ByteArray} (h : s.size = 0) : s.toList.isEmpty = true := by
  rw [ByteArray.toList_eq, List.isEmpty_iff]
  exact List.length_eq_zero_iff.1 (by rw [← szB]; exact h)

/-- A row of texts that came in. -/
structure StIn (w : World) (a : Option Addr) (cap : Nat) (l : List ByteArray) : Prop where
  c1 : l.length ≤ cap
  c2 : cap ≤ maxLen
  ce : ∀ i (h : i < l.length), ∃ g o, a = some ⟨g, o, none⟩ ∧ g < w.heap.size ∧ w.cell? ⟨g, o + i, none⟩ = some (.string l[i])
theorem StIn.later {w w1 : World} {a : Option Addr} {cap : Nat} {l : List ByteArray} (h : StIn w a cap l) (hb : Below w.heap.size w w1) : StIn w1 a cap l :=
  ⟨h.c1, h.c2, fun i hi => by
    obtain ⟨g, o, e, hg, hc⟩ := h.ce i hi
    exact ⟨g, o, e, Nat.lt_of_lt_of_le hg hb.size, (World.cell?_of_block (hb.block g hg)).trans hc⟩⟩
theorem StIn.sl {w : World} {g o cap : Nat} {l : List ByteArray} (h : StIn w (some ⟨g, o, none⟩) cap l) (x y : Nat) (h1 : x ≤ y) (h2 : y ≤ l.length) : StIn w (some ⟨g, o + x, none⟩) (cap - x) (Doc1.sl l x y) := by
  have hc := h.c1; have hc2 := h.c2
  refine ⟨by rw [sl_len h2]; omega, by omega, fun i hi => ?_⟩
  rw [sl_len h2] at hi
  obtain ⟨g', o', e, hg, hc⟩ := h.ce (x + i) (by omega)
  have e1 : g' = g := by simpa using (Addr.mk.inj (Option.some.inj e)).1.symm
  have e2 : o' = o := by simpa using (Addr.mk.inj (Option.some.inj e)).2.1.symm
  subst e1 e2
  refine ⟨g', o' + x, rfl, hg, ?_⟩
  rw [Nat.add_assoc, hc]
  congr 2
  simp [Doc1.sl]
theorem StIn.one (w : World) (s : ByteArray) : StIn (w.alloc (.cells #[.string s] 9)) (some ⟨w.heap.size, 0, none⟩) 1 [s] := by
  refine ⟨by simp, by decide, fun i hi => ⟨w.heap.size, 0, rfl, by simp, ?_⟩⟩
  have : i = 0 := by simp at hi; omega
  subst this
  unfold World.cell?
  rw [show (0 : Nat) + 0 = 0 from rfl, heap_alloc_new]
  rfl

theorem wdB_kd (c : UInt8) : wdB c = (!(c.toNat == 32) && (kd c == 1)) := by unfold wdB; rw [kd_pl, Bool.and_comm]
theorem all_step (s : ByteArray) (k : Nat) (h : k < s.size) : (s.data.toList.drop k).all wdB = (wdB s[k] && (s.data.toList.drop (k + 1)).all wdB) := by rw [drop_cons s k h]; rfl

set_option maxRecDepth 100000 in
set_option maxHeartbeats 1000000 in
theorem isPlainWord_any (s : ByteArray) (w : World) (hs : s.size ≤ 1048576) (hT : Tab w) :
    Calls Tryd.prog 111 #[.string s] w fun e w' => e = .returned (.bool (wrd s)) ∧ w' = w := by
  by_cases h0 : s.size = 0
  · have he := emp_yes h0
    have hr : false = wrd s := by unfold wrd; rw [decide_eq_false (by omega)]; simp
    rw [← hr]
    clear hr
    go_enter Tryd.func111, Tryd.ntmps111
    go_wp2
    go_ret
    exact ⟨rfl, rfl⟩
  · have he := emp_no (s := s) (by omega)
    by_cases h8 : s.size ≤ 80
    · have hd : decide ((80 : Int) < (s.size : Int)) = false := by rw [decide_eq_false_iff_not]; omega
      have K : Hid (∀ c : UInt8, Calls Tryd.prog 133 #[.int .u8 (c.toNat : Int)] w fun e w' => e = .returned (.int .u8 (kd c)) ∧ w' = w) := hide (fun c => kindOf_any c w hT)
      obtain ⟨Z, hZ⟩ : ∃ Z, Z = wrd s := ⟨_, rfl⟩
      rw [← hZ]
      have HZ : Hid (Z = s.data.toList.all wdB) := hide (by rw [hZ]; unfold wrd; rw [decide_eq_true (by omega)]; simp)
      clear hT hZ
      go_enter Tryd.func111, Tryd.ntmps111
      go_wp2
      go_loop [13] (fun i => ∃ k : Nat, k ≤ s.size ∧ i = .int .i64 k ∧ Hid (Z = (s.data.toList.drop k).all wdB)) (fun i => s.size - (intOf i).toNat)
      case atStart => exact ⟨0, Nat.zero_le _, rfl, by simpa using HZ⟩
      case round =>
        obtain ⟨k, hk, rfl, hr⟩ := hrel
        by_cases hlt : k < s.size
        · have hst := hide (all_step s k hlt)
          have hkd := hide (wdB_kd s[k])
          by_cases hb : ((s[k].toNat : Int) == 32) = true
          · have hno : Hid (wdB s[k] = false) := hide (by rw [hkd.out]; simp at hb; simp; omega)
            go_wp2
            go_ret
            exact ⟨ret_bool (rel_no hr.out hst.out hno.out), rfl⟩
          · have hb2 : ((s[k].toNat : Int) == 32) = false := by simpa using hb
            clear hb
            by_cases hp : (kd s[k] == 1) = true
            · have hq : (kd s[k] != 1) = false := by simp at hp ⊢; exact hp
              have hyes : Hid (wdB s[k] = true) := hide (by rw [hkd.out, hp]; simp at hb2 ⊢; omega)
              go_wp2_with (go_at_call 133; refine (K.out _).mono ?_; rintro e w' ⟨rfl, rfl⟩)
              go_round
              case rel => exact ⟨k + 1, by omega, by go_num, rel_ok hr.out hst.out hyes.out⟩
              case measure => simp [intOf]; omega
            · have hp2 : (kd s[k] == 1) = false := by simpa using hp
              have hq : (kd s[k] != 1) = true := by simp at hp2 ⊢; exact hp2
              have hno : Hid (wdB s[k] = false) := hide (by rw [hkd.out, hp2]; simp)
              clear hp
              go_wp2_with (go_at_call 133; refine (K.out _).mono ?_; rintro e w' ⟨rfl, rfl⟩)
              go_ret
              exact ⟨ret_bool (rel_no hr.out hst.out hno.out), rfl⟩
        · go_wp2
          go_ret
          exact ⟨ret_bool (by rw [hr.out, drop_end s k (by omega)]; rfl), rfl⟩
    · have hr : false = wrd s := by unfold wrd; rw [decide_eq_false (by omega)]; simp
      have hd : decide ((80 : Int) < (s.size : Int)) = true := by rw [decide_eq_true_iff]; omega
      rw [← hr]
      clear hr
      go_enter Tryd.func111, Tryd.ntmps111
      go_wp2
      go_ret
      exact ⟨rfl, rfl⟩

def allW (l : List ByteArray) : Bool := l.all wrd
theorem allW_step {l : List ByteArray} {k : Nat} (h : k < l.length) : allW (l.drop k) = (wrd l[k] && allW (l.drop (k + 1))) := by rw [List.drop_eq_getElem_cons h]; rfl
theorem allW_end {l : List ByteArray} {k : Nat} (h : l.length ≤ k) : allW (l.drop k) = true := by rw [List.drop_eq_nil_of_le h]; rfl

set_option maxRecDepth 100000 in
set_option maxHeartbeats 1000000 in
theorem areWords_any (l : List ByteArray) (a : Option Addr) (cap : Nat) (w : World) (h : StIn w a cap l) (hs : ∀ s ∈ l, s.size ≤ 1048576) (hT : Tab w) :
    Calls Tryd.prog 53 #[.slice a l.length cap] w fun e w' => e = .returned (.bool (saidW l)) ∧ w' = w := by
  by_cases h6 : l.length ≤ 60
  · have K : Hid (∀ k (hk : k < l.length), Calls Tryd.prog 111 #[.string l[k]] w fun e w' => e = .returned (.bool (wrd l[k])) ∧ w' = w) := hide (fun k hk => isPlainWord_any _ w (hs _ (List.getElem_mem hk)) hT)
    obtain ⟨Z, hZ⟩ : ∃ Z, Z = saidW l := ⟨_, rfl⟩
    rw [← hZ]
    have HZ : Hid (Z = allW l) := hide (by rw [hZ]; unfold saidW allW; rw [decide_eq_true h6]; simp)
    have HS := hide h.ce
    clear hT hZ h hs
    go_enter Tryd.func53, Tryd.ntmps53
    go_wp2
    go_loop [10] (fun i => ∃ k : Nat, k ≤ l.length ∧ i = .int .i64 k ∧ Hid (Z = allW (l.drop k))) (fun i => l.length - (intOf i).toNat)
    case atStart => exact ⟨0, Nat.zero_le _, rfl, by simpa using HZ⟩
    case round =>
      obtain ⟨k, hk, rfl, hr⟩ := hrel
      by_cases hlt : k < l.length
      · have hst := hide (allW_step hlt)
        obtain ⟨g, o, rfl, hg, hc⟩ := HS.out k hlt
        have K1 := hide (K.out k hlt)
        obtain ⟨s0, hs0⟩ : ∃ s0, l[k] = s0 := ⟨_, rfl⟩
        rw [hs0] at hc K1 hst
        by_cases hp : wrd s0 = true
        · have hp1 := hide hp
          rw [hp] at K1
          clear hp
          go_wp2_with (go_at_call 111; refine K1.out.mono ?_; rintro e w' ⟨rfl, rfl⟩)
          go_round
          case rel => exact ⟨k + 1, by omega, by go_num, rel_ok hr.out hst.out hp1.out⟩
          case measure => simp [intOf]; omega
        · have hp1 : Hid (wrd s0 = false) := hide (by simpa using hp)
          rw [hp1.out] at K1
          clear hp
          go_wp2_with (go_at_call 111; refine K1.out.mono ?_; rintro e w' ⟨rfl, rfl⟩)
          go_ret
          exact ⟨ret_bool (rel_no hr.out hst.out hp1.out), rfl⟩
      · go_wp2
        go_ret
        exact ⟨ret_bool (by rw [hr.out, allW_end (by omega)]), rfl⟩
  · have hr : false = saidW l := by unfold saidW; rw [decide_eq_false h6]; simp
    rw [← hr]
    have hl := h.c1
    have hl2 := h.c2
    unfold maxLen at hl2
    clear hr
    go_enter Tryd.func53, Tryd.ntmps53
    go_wp2
    go_ret
    exact ⟨rfl, rfl⟩

set_option maxHeartbeats 400000 in
theorem isWidth_any (n : Int) (w : World) :
    Calls Tryd.prog 113 #[.int .i64 n] w fun e w' => e = .returned (.bool (decide (1 ≤ n ∧ n ≤ 80))) ∧ w' = w := by
  go_enter Tryd.func113, Tryd.ntmps113
  go_wp2
  all_goals (go_ret; refine ⟨ret_bool ?_, rfl⟩; rw [Bool.eq_iff_iff]; simp <;> omega)
end Go.Proofs.YtgacajnljplmiabDoor
