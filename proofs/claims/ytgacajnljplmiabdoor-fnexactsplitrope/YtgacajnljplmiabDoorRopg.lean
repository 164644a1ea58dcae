/- The program's ByteAt. -/
import Derived.Test.YtgacajnljplmiabDoorRopf
set_option linter.unusedVariables false
namespace Go.Proofs.YtgacajnljplmiabDoor
open Go.RowKit
open Doc1

theorem own_new (w : World) (e : TypeId) (cs : Array Value) (n size : Nat) (hn : cs.size = n * size) (hl : n ≤ 1000000) : (w.alloc (.cells cs e)).ownsRow w.heap.size e size (.slice (some ⟨w.heap.size, 0, none⟩) n n) n cs.toList :=
  ⟨by rw [Array.length_toList]; exact hn, .inr ⟨w.heap.size, n, cs, rfl, Nat.le_refl _, heap_alloc_new w _, Nat.le_refl _, by unfold maxLen; omega, hn, List.take_of_length_le (by rw [Array.length_toList]; omega)⟩⟩

noncomputable def byOk (l : List Bg) (n : Int) : Bool := rtB l && (decide (0 ≤ n) && decide (n < (szO (rtO l) : Int)))

def batO : Option Lm → Nat → UInt8 × Nat
  | none, _ => (0, 0)
  | some t, n => bat t n

noncomputable def byS (l : List Bg) (n : Int) : ByteArray := if byOk l n then ⟨#[(batO (rtO l) n.toNat).1]⟩ else ⟨#[]⟩

noncomputable def byN (l : List Bg) (n : Int) : Nat := if byOk l n then (batO (rtO l) n.toNat).2 else 0

set_option maxRecDepth 100000 in
set_option maxHeartbeats 4000000 in
theorem byteAtI {w : World} {a : Option Addr} {cap : Nat} {l : List Bg} (n : Int) (h : RIn w a cap l) (hT : Tab w) :
    Calls Tryd.prog 38 #[.agg #[.slice a l.length cap], .int .i64 n] w fun e w' => e = .returned (.tuple #[.string (byS l n), .int .i64 (byN l n : Int), .bool (byOk l n)]) ∧ Below w.heap.size w w' := by
  have hb1 : Below w.heap.size w (w.alloc (.cells #[.slice a l.length cap] 41)) := (Below.refl _ _).alloc (Nat.le_refl _) _
  have R1 := hide (root_of (h.later hb1) (hT.below hb1))
  have HB1 := hide hb1
  unfold RtPost at R1
  have ok1 := rt_ok l
  have LO := hide (lengthOf_any (rtO l))
  have HN : Hid (byOk l n = false → byS l n = ⟨#[]⟩ ∧ byN l n = 0) := hide (fun c => by unfold byS byN; rw [c]; exact ⟨rfl, rfl⟩)
  have HY : Hid (byOk l n = true → byS l n = ⟨#[(batO (rtO l) n.toNat).1]⟩ ∧ byN l n = (batO (rtO l) n.toNat).2) := hide (fun c => by unfold byS byN; rw [c]; exact ⟨rfl, rfl⟩)
  have HD : Hid (byOk l n = (rtB l && (decide (0 ≤ n) && decide (n < (szO (rtO l) : Int))))) := hide rfl
  obtain ⟨S, hS⟩ : ∃ S, byS l n = S := ⟨_, rfl⟩
  obtain ⟨N, hN⟩ : ∃ N, byN l n = N := ⟨_, rfl⟩
  obtain ⟨bb, hbb⟩ : ∃ bb, byOk l n = bb := ⟨_, rfl⟩
  obtain ⟨o, ho⟩ : ∃ o, rtO l = o := ⟨_, rfl⟩
  obtain ⟨bl, hbl⟩ : ∃ bl, rtB l = bl := ⟨_, rfl⟩
  rw [hS, hN, hbb] at HN HY ⊢
  rw [hbb] at HD
  rw [ho] at R1 LO HY HD ok1
  rw [hbl] at R1 HD
  clear hS hN hbb ho hbl h hT hb1
  cases bl with
  | false =>
    obtain rfl : bb = false := HD.out
    obtain ⟨rfl, rfl⟩ := HN.out (by first | rfl | trivial)
    obtain ⟨v1, hv1⟩ : ∃ vo, lvO o = vo := ⟨_, rfl⟩
    rw [hv1] at R1
    clear HN HY HD hv1
    go_enter Tryd.func38, Tryd.ntmps38
    go_wp2_with fail
    refine R1.out.mono ?_
    rintro e w2 ⟨rfl, hb2⟩
    have HB2 : Hid (Below w.heap.size w w2) := hide (HB1.out.trans (hb2.mono (by simp)))
    clear hb2
    go_wp2
    go_ret3
    exact ⟨rfl, HB2.out⟩
  | true =>
    rw [Bool.true_and] at HD
    by_cases h0 : 0 ≤ n
    · obtain ⟨k, rfl⟩ : ∃ k : Nat, n = (k : Int) := ⟨n.toNat, by omega⟩
      have e0 : decide ((k : Int) < 0) = false := by rw [decide_eq_false_iff_not]; omega
      by_cases h1 : k < szO o
      · obtain ⟨t, rfl⟩ : ∃ t, o = some t := by cases o with | none => simp [szO] at h1 | some t => exact ⟨t, rfl⟩
        simp only [nbO, szO] at ok1 h1
        have e1 : decide ((t.sz : Int) ≤ (k : Int)) = false := by rw [decide_eq_false_iff_not]; omega
        obtain rfl : bb = true := by have := HD.out; rw [decide_eq_true h0, decide_eq_true (by simp only [szO]; omega)] at this; exact this
        obtain ⟨E1, E2⟩ := HY.out (by first | rfl | trivial)
        rw [Int.toNat_natCast] at E1 E2
        obtain ⟨T, x, K, hl, ka, ma, ca⟩ := baC_all t (by omega) (by omega)
        rw [show lvO (some t) = .iface T x from hl] at R1 LO
        rw [show szO (some t) = t.sz from rfl] at LO
        have CA := hide (fun w => ca k w h1)
        unfold BaPost at CA
        rw [show batO (some t) k = bat t k from rfl] at E1 E2
        obtain ⟨c, hc⟩ : ∃ c, (bat t k).1 = c := ⟨_, rfl⟩
        rw [hc] at E1 CA
        rw [← E2] at CA
        have HE := hide E1
        clear ca hl E1 E2 hc HN HY HD
        go_enter Tryd.func38, Tryd.ntmps38
        go_wp2_with fail
        refine R1.out.mono ?_
        rintro e w2 ⟨rfl, hb2⟩
        have HB2 : Hid (Below w.heap.size w w2) := hide (HB1.out.trans (hb2.mono (by simp)))
        clear hb2
        go_wp2_with fail
        refine (LO.out w2).mono ?_
        rintro e w3 ⟨rfl, hb3⟩
        have HB3 : Hid (Below w.heap.size w w3) := hide (HB2.out.trans (hb3.mono HB2.out.size))
        clear hb3
        go_wp2_with fail
        refine (CA.out w3).mono ?_
        rintro e w4 ⟨rfl, hb4⟩
        have HB4 : Hid (Below w.heap.size w w4) := hide (HB3.out.trans (hb4.mono HB3.out.size))
        have HB5 : Hid (Below w.heap.size w (w4.alloc (.cells #[.int .u8 (c.toNat : Int)] 5))) := hide (HB4.out.alloc HB4.out.size _)
        have hcv : (convert 22 9 (.slice (some ⟨w4.heap.size, 0, none⟩) 1 1)).run Tryd.prog (w4.alloc (.cells #[.int .u8 (c.toNat : Int)] 5)) = .ok (.string ⟨#[c]⟩) (w4.alloc (.cells #[.int .u8 (c.toNat : Int)] 5)) := ByOwn.conv (B := w4.heap.size) (own_new w4 5 #[.int .u8 (c.toNat : Int)] 1 1 rfl (by omega))
        clear hb4
        go_wp2
        go_ret3
        exact ⟨by rw [HE.out] <;> rfl, HB5.out⟩
      · have e1 : decide ((szO o : Int) ≤ (k : Int)) = true := by rw [decide_eq_true_iff]; omega
        obtain rfl : bb = false := by have := HD.out; rw [decide_eq_false (show ¬ (k : Int) < (szO o : Int) by omega), Bool.and_false] at this; exact this
        obtain ⟨rfl, rfl⟩ := HN.out (by first | rfl | trivial)
        obtain ⟨v1, hv1⟩ : ∃ vo, lvO o = vo := ⟨_, rfl⟩
        rw [hv1] at R1 LO
        clear HN HY HD hv1
        go_enter Tryd.func38, Tryd.ntmps38
        go_wp2_with fail
        refine R1.out.mono ?_
        rintro e w2 ⟨rfl, hb2⟩
        have HB2 : Hid (Below w.heap.size w w2) := hide (HB1.out.trans (hb2.mono (by simp)))
        clear hb2
        go_wp2_with fail
        refine (LO.out w2).mono ?_
        rintro e w3 ⟨rfl, hb3⟩
        have HB3 : Hid (Below w.heap.size w w3) := hide (HB2.out.trans (hb3.mono HB2.out.size))
        clear hb3
        go_wp2
        go_ret3
        exact ⟨rfl, HB3.out⟩
    · have e0 : decide (n < 0) = true := by rw [decide_eq_true_iff]; omega
      obtain rfl : bb = false := by have := HD.out; rw [decide_eq_false h0, Bool.false_and] at this; exact this
      obtain ⟨rfl, rfl⟩ := HN.out (by first | rfl | trivial)
      obtain ⟨v1, hv1⟩ : ∃ vo, lvO o = vo := ⟨_, rfl⟩
      rw [hv1] at R1
      clear HN HY HD hv1
      go_enter Tryd.func38, Tryd.ntmps38
      go_wp2_with fail
      refine R1.out.mono ?_
      rintro e w2 ⟨rfl, hb2⟩
      have HB2 : Hid (Below w.heap.size w w2) := hide (HB1.out.trans (hb2.mono (by simp)))
      clear hb2
      go_wp2
      go_ret3
      exact ⟨rfl, HB2.out⟩
end Go.Proofs.YtgacajnljplmiabDoor
