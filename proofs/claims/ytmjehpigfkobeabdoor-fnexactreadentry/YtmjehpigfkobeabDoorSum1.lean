/- The plain mathematics of Adler's sum. -/
import Derived.Test.YtmjehpigfkobeabDoorPlain
namespace Go.Proofs.YtmjehpigfkobeabDoor.Doc1

/-- Adler's sum. -/
def ad : List UInt8 → Nat → Nat → Nat × Nat
  | [], a, b => (a, b)
  | c :: l, a, b => ad l ((a + c.toNat) % 65521) ((b + (a + c.toNat) % 65521) % 65521)
def sumL (l : List UInt8) : Nat := (ad l 1 0).2 * 65536 + (ad l 1 0).1
theorem ad_lt : ∀ (l : List UInt8) (a b : Nat), a < 65521 → b < 65521 → (ad l a b).1 < 65521 ∧ (ad l a b).2 < 65521
  | [], _, _, ha, hb => ⟨ha, hb⟩
  | c :: l, a, b, _, _ => ad_lt l _ _ (Nat.mod_lt _ (by decide)) (Nat.mod_lt _ (by decide))
theorem sum_lt (l : List UInt8) : sumL l < 4294967296 := by
  have := ad_lt l 1 0 (by decide) (by decide)
  unfold sumL; omega

theorem sum_or {a b : Nat} (ha : a < 65536) : b * 65536 + a = b * 65536 ||| a := by
  have := Nat.shiftLeft_add_eq_or_of_lt (i := 16) (b := a) (by simpa using ha) b
  rw [Nat.shiftLeft_eq] at this
  simpa using this

end Go.Proofs.YtmjehpigfkobeabDoor.Doc1
