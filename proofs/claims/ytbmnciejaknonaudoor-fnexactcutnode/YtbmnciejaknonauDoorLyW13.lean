/- The contracts of impl.GoodTree, FlatOf, SizeOf. -/
import Derived.Test.YtbmnciejaknonauDoorLyW12
import Derived.Test.YtbmnciejaknonauDoorTreeS2
namespace Go.Proofs.YtbmnciejaknonauDoor
open Go.RowKit
open Doc1

/-- Nodes in a block of the call's own. -/
structure Nin (w : World) (g cap : Nat) (l : List Nd) : Prop where
  cap : l.length ≤ cap ∧ cap ≤ maxLen
  sz : l.length + szU l l.length ≤ 1048576
  at' : NAt w g l
  lt : g < w.heap.size
theorem Nin.later {w w1 : World} {g cap : Nat} {l : List Nd} (h : Nin w g cap l) (hb : Below w.heap.size w w1) : Nin w1 g cap l := ⟨h.cap, h.sz, h.at'.later hb h.lt, Nat.lt_of_lt_of_le h.lt hb.size⟩
theorem Nin.low {w w1 : World} {B g cap : Nat} {l : List Nd} (h : Nin w g cap l) (hb : Below B w w1) (hB : g < B) : Nin w1 g cap l := ⟨h.cap, h.sz, h.at'.later hb hB, Nat.lt_of_lt_of_le h.lt hb.size⟩
theorem ownL_le (l : List Nd) : ∀ n, n ≤ l.length → sF (ownL l) 0 n ≤ n + szU l n
  | 0, _ => by simp [sF]
  | n + 1, h => by
    have := ownL_le l n (by omega)
    rw [sF_snoc, szU_succ l n (by omega), Nat.zero_add]
    have e : ownL l n ≤ l[n].name.size + l[n].text.size + 1 := by
      unfold ownL nmL txL slL
      rw [ndAt_get (by omega)]
      have h1 : l[n].name.data.toList.length = l[n].name.size := size_len _
      have h2 : l[n].text.data.toList.length = l[n].text.size := size_len _
      split <;> simp only [List.length_nil, List.length_singleton] <;> omega
    omega
theorem Nin.sum {w : World} {g cap : Nat} {l : List Nd} (h : Nin w g cap l) : sF (ownL l) 0 l.length ≤ 1048576 := by
  have := ownL_le l l.length (Nat.le_refl _)
  have := h.sz
  omega
theorem goodS {w : World} {g cap : Nat} {l : List Nd} (h : Nin w g cap l) : Calls Tryd.prog 32 #[.slice (some ⟨g, 0, none⟩) l.length cap] w fun e w' => e = .returned (.bool (goodT l)) ∧ Below w.heap.size w w' :=
  goodTreeS_any l g cap w h.cap (by have := h.sz; omega) h.sum h.at' h.lt

/-- What layOut answers. -/
def LayAns (l : List Nd) (B : Nat) (e : Ending) (w' : World) : Prop :=
  (layL l = none → e = .returned (.tuple #[noLy, .bool false])) ∧
  ∀ y, layL l = some y → ∃ p0 x0 p1 x1 p2 x2 p3 x3, e = .returned (.tuple #[.agg #[.slice p0 y.text.length x0, .slice p1 y.fr.length x1, .slice p2 y.to.length x2, .slice p3 y.op.length x3], .bool true]) ∧
    w'.ownsRow B 5 1 (.slice p0 y.text.length x0) y.text.length (byt y.text) ∧ w'.ownsRow B 3 1 (.slice p1 y.fr.length x1) y.fr.length (ints (natI y.fr)) ∧ w'.ownsRow B 3 1 (.slice p2 y.to.length x2) y.to.length (ints (natI y.to)) ∧
    (y.text.length ≤ x0 ∧ x0 ≤ maxLen) ∧ (y.fr.length ≤ x1 ∧ x1 ≤ maxLen) ∧ (y.to.length ≤ x2 ∧ x2 ≤ maxLen)
theorem own_sh {w : World} {B n sz : Nat} {e : TypeId} {v : Value} {xs : List Value} (h : w.ownsRow B e sz v n xs) : ∃ a cap, v = .slice a n cap ∧ n ≤ cap ∧ cap ≤ maxLen := by
  rcases h.2 with ⟨hv, h0⟩ | ⟨g, cap, cur, hv, hb, hh, hle, hm, hs, ht⟩
  · exact ⟨none, 0, by rw [h0, hv], by omega, by unfold maxLen; omega⟩
  · exact ⟨_, cap, hv, hle, hm⟩
theorem layOut_all {w : World} {g cap : Nat} {l : List Nd} (h : Nin w g cap l) (hT : Tab w) :
    Calls Tryd.prog 38 #[.slice (some ⟨g, 0, none⟩) l.length cap] w fun e w' => Below w.heap.size w w' ∧ LayAns l w.heap.size e w' := by
  by_cases hc : l.length = 0 ∨ 301 < l.length
  · refine (layOut_long l _ cap w (by have := h.sz; omega) h.cap hc).mono ?_
    rintro e w' ⟨rfl, hb⟩
    have hn : layL l = none := by
      unfold layL
      rw [if_pos (hc.imp List.length_eq_zero_iff.1 id)]
    exact ⟨hb, fun _ => rfl, fun y hy => by rw [hn] at hy; cases hy⟩
  · refine (layOut_any l g cap w h.cap (by omega) (by omega) h.sz h.at' h.lt hT).mono ?_
    rintro e w' ⟨hb, h1, h2⟩
    refine ⟨hb, h1, fun y hy => ?_⟩
    obtain ⟨V, rfl, hV⟩ := h2 y hy
    have o0 := hV 0 (by omega)
    have o1 := hV 1 (by omega)
    have o2 := hV 2 (by omega)
    have o3 := hV 3 (by omega)
    rw [X0, byt_len] at o0
    rw [X1, ints_len] at o1
    rw [X2, ints_len] at o2
    rw [X3, ints_len, List.length_reverse] at o3
    obtain ⟨p0, x0, e0, b0, c0⟩ := own_sh o0
    obtain ⟨p1, x1, e1, b1, c1⟩ := own_sh o1
    obtain ⟨p2, x2, e2, b2, c2⟩ := own_sh o2
    obtain ⟨p3, x3, e3, -, -⟩ := own_sh o3
    rw [e0] at o0
    rw [e1] at o1
    rw [e2] at o2
    exact ⟨p0, x0, p1, x1, p2, x2, p3, x3, by rw [e0, e1, e2, e3], o0, o1, o2, ⟨b0, c0⟩, ⟨b1, c1⟩, ⟨b2, c2⟩⟩
theorem good_none {l : List Nd} (h : layL l = none) : goodT l = false := by rw [← lay_good, h]; rfl
theorem good_some {l : List Nd} {y : LS} (h : layL l = some y) : goodT l = true := by rw [← lay_good, h]; rfl

def flatA (l : List Nd) : ByteArray := if goodT l then ba (fl l 0) else ⟨#[]⟩

theorem ret_iB {x y : Int} {b : Bool} (h : x = y) : Ending.returned (.tuple #[.int .i64 x, .bool b]) = .returned (.tuple #[.int .i64 y, .bool b]) := by rw [h]
/-- What SizeOf answers. -/
def sizeA (l : List Nd) (k : Int) : Int := if goodT l = true ∧ 0 ≤ k ∧ k < l.length then ((fl l k.toNat).length : Int) else 0
def inK (l : List Nd) (k : Int) : Bool := decide (goodT l = true ∧ 0 ≤ k ∧ k < l.length)

end Go.Proofs.YtbmnciejaknonauDoor
