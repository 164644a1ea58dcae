/- Adler's sum: the program's SumOf and the model's l18Sum. -/
import Derived.Test.YtmjehpigfkobeabDoorWalksQ
import Derived.Test.YtmjehpigfkobeabDoorSum1
import Derived.Lib.ConvBytes
import Derived.Laws.BitsLemmas
import Derived.BigQuiet
import Derived.Deep.QuietTactic
namespace Go.Proofs.YtmjehpigfkobeabDoor
open Go.RowKit
open Doc1

/-- A row of bytes in a block: a text's. -/
def ByAt (w : World) (g : Nat) (s : ByteArray) : Prop := ∀ (j : Nat) (hj : j < s.size), w.cell? ⟨g, j, none⟩ = some (.int .u8 (s[j].toNat : Int))
theorem sbytes_conv (p : ByteArray) (w : World) : ∃ W cap, (convert 9 62 (.string p)).run Tryd.prog w = .ok (.slice (some ⟨w.heap.size, 0, none⟩) p.size cap) W ∧ ByAt W w.heap.size p ∧ p.size ≤ cap ∧ Below w.heap.size w W ∧ W.heap.size = w.heap.size + 1 := by
  refine ⟨_, _, Lib.run_convert_string_bytes (P := Tryd.prog) w 9 62 5 p Tryd.underlying9 Tryd.underlying62 Tryd.underlying5, fun j hj => ?_, grownCap_ge _ _ _ _, ?_, Lib.bytesWorld_size _ _ _⟩
  · rw [Lib.bytesWorld_cell w 5 p j hj, List.getD_eq_getElem?_getD, List.getElem?_eq_getElem (by simpa using hj)]; rfl
  · exact ⟨rfl, rfl, rfl, by rw [Lib.bytesWorld_size]; omega, fun i hi => Lib.bytesWorld_at_old w 5 p i hi⟩
theorem ad_step (s : ByteArray) (k a b : Nat) (hk : k < s.size) : ad (s.data.toList.drop k) a b = ad (s.data.toList.drop (k + 1)) ((a + s[k].toNat) % 65521) ((b + (a + s[k].toNat) % 65521) % 65521) := by rw [drop_cons s k hk, ad]
theorem ad_stop (s : ByteArray) (k a b : Nat) (hk : s.size ≤ k) : ad (s.data.toList.drop k) a b = (a, b) := by rw [drop_end s k hk, ad]
theorem u8_small (c : UInt8) : c.toNat < 256 := c.toNat_lt
theorem tmod_nat (n m : Nat) : ((n : Int)).tmod (m : Int) = ((n % m : Nat) : Int) := by rw [Int.tmod_eq_emod_of_nonneg (Int.natCast_nonneg n)]; exact (Int.natCast_emod n m).symm
theorem or_low (a b : Nat) (ha : a < 65536) (hb : b < 65536) : bits BinOp.or IntKind.i64 ((b : Int) * 65536) (a : Int) = (b : Int) * 65536 + a :=
  bits_join IntKind.i64 63 (by decide) (fun n h0 h1 => by simp [IntKind.wrap, IntKind.bits, IntKind.signed] at h1 ⊢; omega) 16 _ _ (by omega) (by omega) (by omega) (by omega) (by omega) (by omega)
theorem sum_is {l : List UInt8} {a b : Nat} (h : ad l 1 0 = (a, b)) : sumL l = b * 65536 + a := by unfold sumL; rw [h]

set_option maxHeartbeats 1000000 in
theorem sumI_any (s : ByteArray) (w : World) (hs : s.size ≤ 1048576) :
    Calls Tryd.prog 70 #[.string s] w fun e w' => e = .returned (.int .i64 (sumL s.data.toList)) ∧ Below w.heap.size w w' := by
  obtain ⟨W, cap, hcv, hbt, hcap, hbw, hsz⟩ := sbytes_conv s w
  have HT := hide hbt
  have HB := hide hbw
  replace hsz := hide hsz
  clear hbt hbw
  go_enter Tryd.func70, Tryd.ntmps70
  go_wp2
  go_loop [3, 4, 10] (fun x y z => ∃ a b k : Nat, k ≤ s.size ∧ a < 65521 ∧ b < 65521 ∧ x = .int .i64 a ∧ y = .int .i64 b ∧ z = .int .i64 k ∧ Hid (ad s.data.toList 1 0 = ad (s.data.toList.drop k) a b)) (fun _ _ z => s.size - (intOf z).toNat)
  case atStart => exact ⟨1, 0, 0, Nat.zero_le _, by decide, by decide, rfl, rfl, rfl, rfl⟩
  case round =>
    obtain ⟨a, b, k, hk, ha, hb, rfl, rfl, rfl, hr⟩ := hrel
    by_cases hkl : k < s.size
    · have hc := HT.out k hkl
      have hst := hide (hr.out.trans (ad_step s k a b hkl))
      have hcn := u8_small s[k]
      have hm : (a + s[k].toNat) % 65521 < 65521 := Nat.mod_lt _ (by decide)
      go_wp2
      go_round
      case rel => exact ⟨(a + s[k].toNat) % 65521, (b + (a + s[k].toNat) % 65521) % 65521, k + 1, by omega, hm, Nat.mod_lt _ (by decide), congrArg (Value.int .i64) (by omega), congrArg (Value.int .i64) (by omega), rfl, hst⟩
      case measure => simp [intOf]; omega
    · have hst := hide (hr.out.trans (ad_stop s k a b (by omega)))
      go_wp2
      go_ret
      exact ⟨by rw [show (sumL s.data.toList : Int) = (b : Int) * 65536 + a from by rw [sum_is hst.out]; omega]; rfl, HB.out⟩

set_option maxHeartbeats 1000000 in
theorem sumS_l (s : ByteArray) (w : World) (hs : s.size ≤ 1048576) :
    Calls Tryd.prog 80 #[.string s] w fun e w' => e = .returned (.int .i64 (sumL s.data.toList)) ∧ w' = w := by
  go_enter Tryd.func80, Tryd.ntmps80
  go_wp2
  go_loop [3, 4, 5] (fun x y z => ∃ a b k : Nat, k ≤ s.size ∧ a < 65521 ∧ b < 65521 ∧ x = .int .i64 a ∧ y = .int .i64 b ∧ z = .int .i64 k ∧ Hid (ad s.data.toList 1 0 = ad (s.data.toList.drop k) a b)) (fun _ _ z => s.size - (intOf z).toNat)
  case atStart => exact ⟨1, 0, 0, Nat.zero_le _, by decide, by decide, rfl, rfl, rfl, rfl⟩
  case round =>
    obtain ⟨a, b, k, hk, ha, hb, rfl, rfl, rfl, hr⟩ := hrel
    by_cases hkl : k < s.size
    · have hst := hide (hr.out.trans (ad_step s k a b hkl))
      have hcn := u8_small s[k]
      have hm : (a + s[k].toNat) % 65521 < 65521 := Nat.mod_lt _ (by decide)
      go_wp2
      go_round
      case rel => exact ⟨(a + s[k].toNat) % 65521, (b + (a + s[k].toNat) % 65521) % 65521, k + 1, by omega, hm, Nat.mod_lt _ (by decide), congrArg (Value.int .i64) (by omega), congrArg (Value.int .i64) (by omega), rfl, hst⟩
      case measure => simp [intOf]; omega
    · have hst := hide (hr.out.trans (ad_stop s k a b (by omega)))
      have eo : bits BinOp.or IntKind.i64 ((b : Int) * 65536) (a : Int) = (b : Int) * 65536 + a := or_low a b (by omega) (by omega)
      go_wp2
      go_ret
      exact ⟨by rw [show (sumL s.data.toList : Int) = (b : Int) * 65536 + a from by rw [sum_is hst.out]; omega, ← eo]; rfl, rfl⟩

end Go.Proofs.YtmjehpigfkobeabDoor
