/- Numbers that are read: the program's readNumber and the model's l18Number. -/
import Derived.Test.YtmjehpigfkobeabDoorWalksQ
import Derived.Test.YtmjehpigfkobeabDoorByt1
import Derived.Laws.RangeAny
import Derived.Laws.RangeString
import Derived.Lib.OthersKept
import Derived.BigQuiet
import Derived.Deep.QuietTactic
set_option linter.unusedVariables false
namespace Go.Proofs.YtmjehpigfkobeabDoor
open Go.RowKit
open Doc1

theorem decode_cont (s : ByteArray) (i : Nat) : ∀ k, 0 < k → k < (Utf8.decode s i).2 → i + k < s.size ∧ 128 ≤ (s.get! (i + k)).toNat := by
  simp only [Utf8.decode]
  repeat' split
  all_goals
    intro k h0 h1
    simp only [Bool.and_eq_true, decide_eq_true_eq, beq_iff_eq] at *
    try (exfalso; omega)
  all_goals
    have hk : k = 1 ∨ k = 2 ∨ k = 3 := by omega
    rcases hk with rfl | rfl | rfl <;> omega
theorem get_is (s : ByteArray) (k : Nat) (h : k < s.size) : s.get! k = s[k] := by
  have hd : k < s.data.size := h
  show s.data[k]! = s.data[k]
  rw [getElem!_pos s.data k hd]
/-- What a rune of a text is: a byte below 128, or one that is none of them and stands over bytes that are none of them. -/
theorem rune_is (s : ByteArray) (i : Nat) (h : i < s.size) :
    (s[i].toNat < 128 ∧ Utf8.decode s i = (s[i].toNat, 1)) ∨ (128 ≤ s[i].toNat ∧ 128 ≤ (Utf8.decode s i).1 ∧ 1 ≤ (Utf8.decode s i).2 ∧ i + (Utf8.decode s i).2 ≤ s.size ∧ ∀ j (hj : j < s.size), i ≤ j → j < i + (Utf8.decode s i).2 → 128 ≤ s[j].toNat) := by
  by_cases ha : s[i].toNat < 128
  · exact .inl ⟨ha, decode_ascii s i h ha⟩
  · refine .inr ⟨by omega, (decode_high s i h (by omega)).1, (decode_high s i h (by omega)).2, ?_, ?_⟩
    · rcases Nat.eq_or_lt_of_le (decode_high s i h (by omega)).2 with e | e
      · omega
      · have := (decode_cont s i ((Utf8.decode s i).2 - 1) (by omega) (by omega)).1
        omega
    · intro j hj h1 h2
      rcases Nat.eq_or_lt_of_le h1 with e | e
      · subst e; omega
      · have := (decode_cont s i (j - i) (by omega) (by omega)).2
        rw [show i + (j - i) = j from by omega, get_is s j hj] at this
        exact this

def dgs (l : List UInt8) : Prop := ∀ c ∈ l, isD c
theorem take_snoc (s : ByteArray) (k : Nat) (h : k < s.size) : s.data.toList.take (k + 1) = s.data.toList.take k ++ [s[k]] := by
  rw [List.take_succ_eq_append_getElem (by simpa using h)]
  rfl
theorem nv_app : ∀ (a b : List UInt8) (n : Nat), nv (a ++ b) n = nv b (nv a n)
  | [], _, _ => rfl
  | c :: a, b, n => nv_app a b (10 * n + dv c)
/-- What is read ahead of place k: digits, and no needless nought. -/
structure NR (s : ByteArray) (most k n : Nat) : Prop where
  hk : k ≤ s.size
  val : nv (s.data.toList.take k) 0 = n
  dg : dgs (s.data.toList.take k)
  few : n ≤ most
  no : 0 < k → s.data.toList.head? = some 48 → s.size = 1
theorem head_at (s : ByteArray) (h : 0 < s.size) : s.data.toList.head? = some s[0] := by
  have := drop_cons s 0 h
  rw [List.drop_zero] at this
  rw [this]; rfl
theorem NR.step {s : ByteArray} {most k n m : Nat} (h : NR s most k n) (hk : k < s.size) (hd : isD s[k]) (hm : 10 * n + dv s[k] = m) (hf : m ≤ most) (h0 : k = 0 → s[k].toNat = 48 → s.size ≤ 1) : NR s most (k + 1) m := by
  refine ⟨hk, ?_, ?_, hf, ?_⟩
  · rw [take_snoc s k hk, nv_snoc, h.val]; exact hm
  · intro c hc
    rw [take_snoc s k hk] at hc
    rcases List.mem_append.1 hc with c1 | c1
    · exact h.dg c c1
    · rw [List.mem_singleton] at c1; rw [c1]; exact hd
  · intro _ hh
    by_cases k0 : 0 < k
    · exact h.no k0 hh
    · obtain rfl : k = 0 := by omega
      rw [head_at s hk] at hh
      have e : s[0] = 48 := by injection hh
      have := h0 rfl (by rw [e]; rfl)
      omega
theorem NR.bad {s : ByteArray} {most k n : Nat} (h : NR s most k n) (hk : k < s.size) (hd : ¬ isD s[k]) : numI most s.data.toList = (0, false) := by
  unfold numI
  rw [if_neg]
  rintro ⟨⟨_, hx, _⟩, _⟩
  refine hd (hx _ ?_)
  have := drop_cons s k hk
  exact List.mem_of_mem_drop (i := k) (by rw [this]; simp)
theorem NR.nought {s : ByteArray} {most : Nat} (hk : 0 < s.size) (h0 : s[0].toNat = 48) (hs : 1 < s.size) : numI most s.data.toList = (0, false) := by
  unfold numI
  rw [if_neg]
  rintro ⟨⟨_, _, hx⟩, _⟩
  have e : s[0] = 48 := UInt8.toNat_inj.1 h0
  have := hx (by rw [head_at s hk, e])
  rw [sz_list] at hs
  omega
theorem NR.much {s : ByteArray} {most k n : Nat} (h : NR s most k n) (hk : k < s.size) (hf : most < 10 * n + dv s[k]) : numI most s.data.toList = (0, false) := by
  unfold numI
  rw [if_neg]
  rintro ⟨_, hx⟩
  have e : s.data.toList = s.data.toList.take (k + 1) ++ s.data.toList.drop (k + 1) := (List.take_append_drop _ _).symm
  rw [e, nv_app, take_snoc s k hk, nv_snoc, h.val] at hx
  have := nv_mono (s.data.toList.drop (k + 1)) (10 * n + dv s[k])
  omega
theorem NR.done {s : ByteArray} {most n : Nat} (h : NR s most s.size n) : numI most s.data.toList = (n, !s.toList.isEmpty) := by
  have et : s.data.toList.take s.size = s.data.toList := by rw [sz_list]; exact List.take_length
  have hv := h.val
  have hd := h.dg
  rw [et] at hv hd
  by_cases hs : s.size = 0
  · have e : s.data.toList = [] := List.eq_nil_of_length_eq_zero (by rw [← sz_list]; exact hs)
    rw [ByteArray.toList_eq, e]
    rw [e] at hv
    have : n = 0 := hv.symm
    subst this
    unfold numI
    rw [if_neg (fun c => c.1.1 rfl)]
    rfl
  · have hne : s.data.toList ≠ [] := fun c => hs (by rw [sz_list, c]; rfl)
    unfold numI
    rw [if_pos ⟨⟨hne, hd, fun hh => by rw [← sz_list]; exact h.no (by omega) hh⟩, by rw [hv]; exact h.few⟩, hv, ByteArray.toList_eq, List.isEmpty_eq_false_iff.2 hne]
    rfl
theorem dv_of {c : UInt8} {z : Nat} (h : c.toNat = 48 + z) : dv c = z := by unfold dv; omega

set_option maxRecDepth 100000 in
set_option maxHeartbeats 4000000 in
theorem readNumber_any (s : ByteArray) (most : Nat) (w : World) (hs : s.size ≤ 1048576) (hm : most ≤ 1000000) :
    Calls Tryd.prog 27 #[.string s, .int .i64 most] w fun e w' => e = .returned (.tuple #[.int .i64 (numI most s.data.toList).1, .bool (numI most s.data.toList).2]) ∧ Below w.heap.size w w' := by
  go_enter Tryd.func27, Tryd.ntmps27
  go_wp2
  go_loopw [6] (fun x wr => ∃ k n : Nat, NR s most k n ∧ x = .int .i64 n ∧ wr = w.iter s k) (fun _ wr => s.size - wr.iterPos w.heap.size)
  case atStart => exact ⟨0, 0, ⟨Nat.zero_le _, rfl, fun c hc => by simp at hc, Nat.zero_le _, fun h => absurd h (by omega)⟩, rfl, rfl⟩
  case round =>
    obtain ⟨k, n, hn, rfl, rfl⟩ := hrel
    have hnb := hn.few
    have HN := hide hn
    clear hn
    by_cases hp : k < s.size
    · have hnx : ∀ ty, (Instr.next (.pointer (some ⟨w.heap.size, 0, none⟩)) true ty).run Tryd.prog (w.iter s k) = _ := fun ty => run_next_any w s k ty hp
      by_cases hd : isD s[k]
      · rcases rune_is s k hp with ⟨hlo, hde⟩ | ⟨hhi, -⟩
        · have hd' := hd
          unfold isD at hd'
          obtain ⟨z, hz, hz9⟩ : ∃ z, s[k].toNat = 48 + z ∧ z ≤ 9 := ⟨s[k].toNat - 48, by omega, by omega⟩
          have hv := dv_of hz
          simp only [hde, hz] at hnx
          have hzz : z = 0 ∨ z = 1 ∨ z = 2 ∨ z = 3 ∨ z = 4 ∨ z = 5 ∨ z = 6 ∨ z = 7 ∨ z = 8 ∨ z = 9 := by omega
          have HD := hide hd
          clear hd hd' hlo hde
          rcases hzz with rfl | rfl | rfl | rfl | rfl | rfl | rfl | rfl | rfl | rfl
          all_goals
            go_wp2
            all_goals first
              | (refine ⟨⟨k + 1, _, HN.out.step hp HD.out rfl (by rw [hv]; omega) (fun e1 e2 => by omega), congrArg (Value.int .i64) (by omega), by first | rfl | (congr 1; omega)⟩, ?_⟩
                 simp only [World.iterPos, World.iter_heap]; omega)
              | (go_ret2; rw [HN.out.much hp (by omega)]; exact ⟨rfl, (Below.refl _ w).alloc (Nat.le_refl _) _⟩)
              | (obtain rfl : k = 0 := by omega
                 go_ret2; rw [NR.nought hp hz (by omega)]; exact ⟨rfl, (Below.refl _ w).alloc (Nat.le_refl _) _⟩)
        · exfalso
          unfold isD at hd
          omega
      · have hr := hide (HN.out.bad hp hd)
        have hle := decode_le s k
        have hru := rune_is s k hp
        obtain ⟨⟨z, y⟩, hde⟩ : ∃ p, Utf8.decode s k = p := ⟨_, rfl⟩
        rw [hde] at hle hru
        simp only [Prod.mk.injEq] at hru hle
        have hz : z < 48 ∨ (57 < z ∧ z ≤ 2147483647) := by
          rcases hru with ⟨hlo, e, -⟩ | ⟨hhi, h1, -⟩
          · unfold isD at hd
            omega
          · omega
        clear hru
        simp only [hde] at hnx
        clear hd hde
        have f0 : ((z : Int) == 48) = false := by rw [beq_eq_false_iff_ne]; omega
        have f1 : ((z : Int) == 49) = false := by rw [beq_eq_false_iff_ne]; omega
        have f2 : ((z : Int) == 50) = false := by rw [beq_eq_false_iff_ne]; omega
        have f3 : ((z : Int) == 51) = false := by rw [beq_eq_false_iff_ne]; omega
        have f4 : ((z : Int) == 52) = false := by rw [beq_eq_false_iff_ne]; omega
        have f5 : ((z : Int) == 53) = false := by rw [beq_eq_false_iff_ne]; omega
        have f6 : ((z : Int) == 54) = false := by rw [beq_eq_false_iff_ne]; omega
        have f7 : ((z : Int) == 55) = false := by rw [beq_eq_false_iff_ne]; omega
        have f8 : ((z : Int) == 56) = false := by rw [beq_eq_false_iff_ne]; omega
        have f9 : ((z : Int) == 57) = false := by rw [beq_eq_false_iff_ne]; omega
        go_wp2
        go_ret2
        rw [hr.out]
        exact ⟨rfl, (Below.refl _ w).alloc (Nat.le_refl _) _⟩
    · have hnx : ∀ ty, (Instr.next (.pointer (some ⟨w.heap.size, 0, none⟩)) true ty).run Tryd.prog (w.iter s k) = _ := fun ty => run_next_end w s k ty hp
      obtain rfl : k = s.size := by have := HN.out.hk; omega
      have hr := hide HN.out.done
      go_wp2
      go_ret2
      rw [hr.out]
      exact ⟨rfl, (Below.refl _ w).alloc (Nat.le_refl _) _⟩

end Go.Proofs.YtmjehpigfkobeabDoor
