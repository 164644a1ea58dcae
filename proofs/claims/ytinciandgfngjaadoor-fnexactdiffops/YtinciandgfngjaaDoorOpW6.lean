/- The contracts of impl.SizesOf and impl.GoodOp at the nil list. -/
import Derived.Test.YtinciandgfngjaaDoorOpW3
namespace Go.Proofs.YtinciandgfngjaaDoor
open Go.RowKit Go.Shelf
open Doc1

/-- A row of one's own, as an argument. -/
theorem own_pin {w : World} {B : Nat} {v : Value} {l : List Pt} (h : POwn w B v l) (hT : Tab w) (hs : ∀ i (hi : i < l.length), l[i].put.size ≤ 1048576 ∧ l[i].drop.size ≤ 1048576) (hl : l.length ≤ 1048576) :
    ∃ aw g cap, v = .slice aw l.length cap ∧ Pin w aw g cap l := by
  rcases Nat.eq_zero_or_pos l.length with h0 | h0
  · obtain rfl := List.eq_nil_of_length_eq_zero h0
    rcases h.2 with ⟨rfl, -⟩ | ⟨g, cap, cur, rfl, hb, hh, hle, hm, hz, ht⟩
    · exact ⟨none, 0, 0, rfl, ⟨by simp, by unfold maxLen; omega⟩, fun i hi => by simp at hi, by simp, (fun j u hu => by simp [encP] at hu), hT.lt, fun c => absurd rfl c⟩
    · exact ⟨_, g, cap, rfl, ⟨by simp, hm⟩, fun i hi => by simp at hi, by simp, (fun j u hu => by simp [encP] at hu), (Array.getElem?_eq_some_iff.1 hh).1, fun _ => rfl⟩
  · obtain ⟨g, cap, rfl, hle, hm, hB, hlt, hc, hbk⟩ := own_cat h h0
    exact ⟨_, g, cap, rfl, ⟨hle, hm⟩, hs, hl, hc, hlt, fun _ => rfl⟩
/-- GoodOp of a row of one's own. -/
theorem goodOpI_own {w : World} {B : Nat} {v : Value} {l : List Pt} (h : POwn w B v l) (hT : Tab w) (hs : ∀ i (hi : i < l.length), l[i].put.size ≤ 1048576 ∧ l[i].drop.size ≤ 1048576) (hl : l.length ≤ 1048576) :
    Calls Tryd.prog 43 #[v] w fun e w' => e = .returned (.bool (goodO l)) ∧ Below w.heap.size w w' := by
  obtain ⟨aw, g, cap, rfl, hp⟩ := own_pin h hT hs hl
  exact goodOpI hp hT
end Go.Proofs.YtinciandgfngjaaDoor
