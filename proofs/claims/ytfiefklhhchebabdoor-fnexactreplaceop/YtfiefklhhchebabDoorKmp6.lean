/- FindAll and StepsOf, the program's and the model's. -/
import Derived.Test.YtfiefklhhchebabDoorKmp5
set_option linter.unusedVariables false
namespace Go.Proofs.YtfiefklhhchebabDoor
open Go.RowKit
open Doc1

/-- p may be sought in s. -/
def said (p s : ByteArray) : Bool := sgt p && good s.data.toList
theorem said_yes {p s : ByteArray} (h : said p s = true) : sgt p = true ∧ 0 < p.size ∧ p.size ≤ 300 ∧ s.size ≤ 300 ∧ good p.data.toList = true ∧ good s.data.toList = true := by
  unfold said at h
  rw [Bool.and_eq_true] at h
  have := sgt_yes h.1
  exact ⟨h.1, this.1, this.2.1, good_le' h.2, this.2.2, h.2⟩

set_option maxHeartbeats 1000000 in
theorem l11Said_any (p s : ByteArray) (w : World) (hp : p.size ≤ 1048576) (hs : s.size ≤ 1048576) :
    Calls Tryd.prog 18 #[.string p, .string s] w fun e w' => e = .returned (.bool (said p s)) ∧ w' = w := by
  have H := l9Texts_any p s w hp hs
  have hx : said p s = (decide (0 < p.size) && (good p.data.toList && good s.data.toList)) := by unfold said sgt; rw [Bool.and_assoc]
  rw [hx]
  by_cases h0 : 0 < p.size
  · have he := emp_not h0
    rw [decide_eq_true h0, Bool.true_and]
    obtain ⟨x, hx⟩ : ∃ x, (good p.data.toList && good s.data.toList) = x := ⟨_, rfl⟩
    rw [hx] at H ⊢
    replace H := hide H
    clear hx
    go_enter Tryd.func18, Tryd.ntmps18
    go_wp2_with fail
    refine H.out.mono ?_
    rintro e w' ⟨rfl, hw⟩
    replace hw := hw.symm
    subst hw
    go_wp2
    go_ret
    exact ⟨rfl, rfl⟩
  · have he := emp_yes (s := p) (by omega)
    rw [decide_eq_false h0, Bool.false_and]
    clear H
    go_enter Tryd.func18, Tryd.ntmps18
    go_wp2
    go_ret
    exact ⟨rfl, rfl⟩

def fndO (p s : ByteArray) : List Int := if said p s then fI p.data.toList s.data.toList s.size else []
def stpO (p s : ByteArray) : Int := if said p s then (lks p.data.toList s.data.toList s.size : Int) else 0
theorem fndO_len (p s : ByteArray) : (fndO p s).length ≤ 300 := by
  unfold fndO
  split
  · rename_i h; have := fI_len p.data.toList s.data.toList s.size; have := (said_yes h).2.2.2.1; omega
  · simp
def FaPost (p s : ByteArray) (w : World) (e : Ending) (w' : World) : Prop := ∃ v, e = .returned (.tuple #[v, .bool (said p s)]) ∧ IOwn w' w.heap.size v (fndO p s) ∧ Below w.heap.size w w'
def SoPost (p s : ByteArray) (w : World) (e : Ending) (w' : World) : Prop := e = .returned (.tuple #[.int .i64 (stpO p s), .bool (said p s)]) ∧ Below w.heap.size w w'
theorem fa_of {p s : ByteArray} {w w0 w' : World} {v : Value} (h : said p s = true) (ho : IOwn w' w0.heap.size v (fI p.data.toList s.data.toList s.size)) (hb0 : Below w.heap.size w w0) (hb : Below w0.heap.size w0 w') : FaPost p s w (.returned (.tuple #[v, .bool true])) w' :=
  ⟨v, by rw [h], by unfold fndO; rw [if_pos h]; exact own_mono ho hb0.size, hb0.trans (hb.mono hb0.size)⟩
theorem fa_no {p s : ByteArray} (w : World) (h : said p s = false) : FaPost p s w (.returned (.tuple #[.slice none 0 0, .bool false])) w :=
  ⟨_, by rw [h], by unfold fndO; rw [h, if_neg (by simp)]; exact World.ownsRow_nil _ _ _ _, Below.refl _ _⟩
theorem so_of {p s : ByteArray} {w w0 w' : World} (h : said p s = true) (hb0 : Below w.heap.size w w0) (hb : Below w0.heap.size w0 w') : SoPost p s w (.returned (.tuple #[.int .i64 (lks p.data.toList s.data.toList s.size : Int), .bool true])) w' :=
  ⟨by unfold stpO; rw [h, if_pos rfl], hb0.trans (hb.mono hb0.size)⟩
theorem so_no {p s : ByteArray} (w : World) (h : said p s = false) : SoPost p s w (.returned (.tuple #[.int .i64 0, .bool false])) w :=
  ⟨by unfold stpO; rw [h, if_neg (by simp)], Below.refl _ _⟩

/-- Both texts as rows of bytes, and the search over them. -/
theorem two_conv (p s : ByteArray) (w : World) : ∃ W cap W2 cap2, (convert 9 45 (.string p)).run Tryd.prog w = .ok (.slice (some ⟨w.heap.size, 0, none⟩) p.size cap) W ∧ (convert 9 45 (.string s)).run Tryd.prog W = .ok (.slice (some ⟨w.heap.size + 1, 0, none⟩) s.size cap2) W2 ∧ BtAt W2 w.heap.size p ∧ BtAt W2 (w.heap.size + 1) s ∧ p.size ≤ cap ∧ s.size ≤ cap2 ∧ Below w.heap.size w W2 := by
  obtain ⟨W, cap, h1, h2, h3, h4, h5⟩ := bytes_conv p w
  obtain ⟨W2, cap2, g1, g2, g3, g4, g5⟩ := bytes_conv s W
  rw [h5] at g1 g2
  exact ⟨W, cap, W2, cap2, h1, g1, h2.later g4, g2, h3, g3, h4.trans (g4.mono h4.size)⟩

end Go.Proofs.YtfiefklhhchebabDoor
