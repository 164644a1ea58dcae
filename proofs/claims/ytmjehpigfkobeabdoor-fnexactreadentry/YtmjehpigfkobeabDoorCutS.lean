/- The model's l18Cut; reading a change, plainly. -/
import Derived.Test.YtmjehpigfkobeabDoorRdS
import Derived.Test.YtmjehpigfkobeabDoorOpT1
import Derived.Lib.Strings
set_option linter.unusedVariables false
namespace Go.Proofs.YtmjehpigfkobeabDoor.Doc1

/-- A text cut at the first of a byte. -/
def ctL (b : UInt8) : List UInt8 → List UInt8 × List UInt8 × Bool
  | [] => ([], [], false)
  | c :: l => if c = b then ([], l, true) else (c :: (ctL b l).1, (ctL b l).2.1, (ctL b l).2.2)
theorem ctL_hit {b : UInt8} : ∀ (a r : List UInt8), b ∉ a → ctL b (a ++ b :: r) = (a, r, true)
  | [], r, _ => by show (if b = b then _ else _) = _; rw [if_pos rfl]
  | c :: a, r, h => by
    have hc : ¬ c = b := fun e => h (by rw [e]; simp)
    show (if c = b then _ else _) = _
    rw [if_neg hc, show (a.append (b :: r)) = a ++ b :: r from rfl, ctL_hit a r (fun m => h (List.mem_cons_of_mem _ m))]
theorem ctL_miss {b : UInt8} : ∀ (a : List UInt8), b ∉ a → ctL b a = (a, [], false)
  | [], _ => rfl
  | c :: a, h => by
    have hc : ¬ c = b := fun e => h (by rw [e]; simp)
    show (if c = b then _ else _) = _
    rw [if_neg hc, ctL_miss a (fun m => h (List.mem_cons_of_mem _ m))]
theorem ctL_is {b : UInt8} (l : List UInt8) : (b ∉ l ∧ ctL b l = (l, [], false)) ∨ ∃ a r, l = a ++ b :: r ∧ b ∉ a ∧ ctL b l = (a, r, true) := by
  by_cases h : b ∈ l
  · obtain ⟨a, r, rfl, ha⟩ := List.eq_append_cons_of_mem h
    exact .inr ⟨a, r, rfl, ha, ctL_hit a r ha⟩
  · exact .inl ⟨h, ctL_miss l h⟩
end Go.Proofs.YtmjehpigfkobeabDoor.Doc1

namespace Go.Proofs.YtmjehpigfkobeabDoor
open Go.RowKit
open Doc1

theorem ext_take (s : ByteArray) (k : Nat) : s.extract 0 k = lB (s.data.toList.take k) := by rw [Lib.extract_eq]; rfl
theorem ext_drop (s : ByteArray) (k : Nat) : s.extract k s.size = lB (s.data.toList.drop k) := by
  rw [Lib.extract_eq]
  have : List.take (s.size - k) (List.drop k s.data.toList) = List.drop k s.data.toList := List.take_of_length_le (by rw [List.length_drop, ← sz_list]; exact Nat.le_refl _)
  rw [this]; rfl
/-- Nothing ahead of place k is this byte. -/
def Noc (s : ByteArray) (b : UInt8) (k : Nat) : Prop := b ∉ s.data.toList.take k
theorem Noc.step {s : ByteArray} {b : UInt8} {k : Nat} (h : Noc s b k) (hk : k < s.size) (hb : ¬ s[k] = b) : Noc s b (k + 1) := by
  unfold Noc
  rw [take_snoc s k hk]
  intro c
  rcases List.mem_append.1 c with c | c
  · exact h c
  · rw [List.mem_singleton] at c; exact hb c.symm
theorem Noc.hit {s : ByteArray} {b : UInt8} {k : Nat} (h : Noc s b k) (hk : k < s.size) (hb : s[k] = b) : ctL b s.data.toList = (s.data.toList.take k, s.data.toList.drop (k + 1), true) := by
  have e : s.data.toList = s.data.toList.take k ++ b :: s.data.toList.drop (k + 1) := by
    rw [← hb, ← drop_cons s k hk, List.take_append_drop]
  have := ctL_hit (b := b) (s.data.toList.take k) (s.data.toList.drop (k + 1)) h
  rw [← e] at this
  exact this
theorem Noc.miss {s : ByteArray} {b : UInt8} (h : Noc s b s.size) : ctL b s.data.toList = (s.data.toList, [], false) := by
  refine ctL_miss _ ?_
  unfold Noc at h
  rwa [sz_list, List.take_length] at h

set_option maxRecDepth 100000 in
set_option maxHeartbeats 4000000 in
theorem cutS_any (s : ByteArray) (b : UInt8) (w : World) (hs : s.size ≤ 1048576) :
    Calls Tryd.prog 21 #[.string s, .int .u8 b.toNat] w fun e w' => e = .returned (.tuple #[.string (lB (ctL b s.data.toList).1), .string (lB (ctL b s.data.toList).2.1), .bool (ctL b s.data.toList).2.2]) ∧ Below w.heap.size w w' := by
  go_enter Tryd.func21, Tryd.ntmps21
  go_wp2
  go_loopw [7] (fun x wr => Hid (Below w.heap.size w wr) ∧ ∃ k : Nat, k ≤ s.size ∧ x = .int .i64 k ∧ Hid (Noc s b k)) (fun x _ => s.size - (intOf x).toNat)
  case atStart => exact ⟨hide (Below.refl _ _), 0, Nat.zero_le _, rfl, hide (by intro c; simp at c)⟩
  case round =>
    obtain ⟨HB, k, hk, rfl, HN⟩ := hrel
    by_cases hp : k < s.size
    · by_cases he : s[k] = b
      · have hr := hide (HN.out.hit hp he)
        have hq : ((s[k].toNat : Int) == (b.toNat : Int)) = true := by rw [he]; simp
        have e1 := hide (ext_take s k)
        have e2 := hide (ext_drop s (k + 1))
        clear he
        go_wp2
        go_region
        all_goals
          go_wp2
          go_ret3
          rw [hr.out]
          exact ⟨by rw [e1.out, e2.out]; rfl, HB.out.drew⟩
      · have hq : ((s[k].toNat : Int) == (b.toNat : Int)) = false := by
          rw [beq_eq_false_iff_ne]
          intro e
          exact he (UInt8.toNat_inj.1 (by omega))
        have hst := hide (HN.out.step hp he)
        clear he
        go_wp2
        go_roundw
        case rel => exact ⟨HB, k + 1, by omega, rfl, hst⟩
        case measure => simp [intOf]; omega
    · obtain rfl : k = s.size := by omega
      have hr := hide HN.out.miss
      go_wp2
      go_ret3
      rw [hr.out]
      exact ⟨rfl, HB.out⟩

end Go.Proofs.YtmjehpigfkobeabDoor
