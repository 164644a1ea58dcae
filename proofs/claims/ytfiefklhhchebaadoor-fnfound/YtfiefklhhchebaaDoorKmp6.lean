/- FindAll and StepsOf, the program's and the model's. -/
import Derived.Test.YtfiefklhhchebaaDoorKmp5
set_option linter.unusedVariables false
namespace Go.Proofs.YtfiefklhhchebaaDoor
open Go.RowKit
open Doc1

/-- p may be sought in s. -/
def said (p s : ByteArray) : Bool := sgt p && good s.data.toList
theorem said_yes {p s : ByteArray} (h : said p s = true) : sgt p = true ∧ 0 < p.size ∧ p.size ≤ 300 ∧ s.size ≤ 300 ∧ good p.data.toList = true ∧ good s.data.toList = true := by
  unfold said at h
  rw [Bool.and_eq_true] at h
  have := sgt_yes h.1
  exact ⟨h.1, this.1, this.2.1, good_le' h.2, this.2.2, h.2⟩

set_option maxHeartbeats 1000000 in
theorem l11Said_any (p s : ByteArray) (w : World) (hp : p.size ≤ 1048576) (hs : s.size ≤ 1048576) :
    Calls Tryd.prog 33 #[.string p, .string s] w fun e w' => e = .returned (.bool (said p s)) ∧ w' = w := by
  have H := l9Texts_any p s w hp hs
  have hx : said p s = (decide (0 < p.size) && (good p.data.toList && good s.data.toList)) := by unfold said sgt; rw [Bool.and_assoc]
  rw [hx]
  by_cases h0 : 0 < p.size
  · have he := emp_not h0
    rw [decide_eq_true h0, Bool.true_and]
    obtain ⟨x, hx⟩ : ∃ x, (good p.data.toList && good s.data.toList) = x := ⟨_, rfl⟩
    rw [hx] at H ⊢
    replace H := hide H
    clear hx
    go_enter Tryd.func33, Tryd.ntmps33
    go_wp2_with fail
    refine H.out.mono ?_
    rintro e w' ⟨rfl, hw⟩
    replace hw := hw.symm
    subst hw
    go_wp2
    go_ret
    exact ⟨rfl, rfl⟩
  · have he := emp_yes (s := p) (by omega)
    rw [decide_eq_false h0, Bool.false_and]
    clear H
    go_enter Tryd.func33, Tryd.ntmps33
    go_wp2
    go_ret
    exact ⟨rfl, rfl⟩

def fndO (p s : ByteArray) : List Int := if said p s then fI p.data.toList s.data.toList s.size else []
def stpO (p s : ByteArray) : Int := if said p s then (lks p.data.toList s.data.toList s.size : Int) else 0
theorem fndO_len (p s : ByteArray) : (fndO p s).length ≤ 300 := by
  unfold fndO
  split
  · rename_i h; have := fI_len p.data.toList s.data.toList s.size; have := (said_yes h).2.2.2.1; omega
  · simp
def FaPost (p s : ByteArray) (w : World) (e : Ending) (w' : World) : Prop := ∃ v, e = .returned (.tuple #[v, .bool (said p s)]) ∧ IOwn w' w.heap.size v (fndO p s) ∧ Below w.heap.size w w'
def SoPost (p s : ByteArray) (w : World) (e : Ending) (w' : World) : Prop := e = .returned (.tuple #[.int .i64 (stpO p s), .bool (said p s)]) ∧ Below w.heap.size w w'
theorem fa_of {p s : ByteArray} {w w0 w' : World} {v : Value} (h : said p s = true) (ho : IOwn w' w0.heap.size v (fI p.data.toList s.data.toList s.size)) (hb0 : Below w.heap.size w w0) (hb : Below w0.heap.size w0 w') : FaPost p s w (.returned (.tuple #[v, .bool true])) w' :=
  ⟨v, by rw [h], by unfold fndO; rw [if_pos h]; exact own_mono ho hb0.size, hb0.trans (hb.mono hb0.size)⟩
theorem fa_no {p s : ByteArray} (w : World) (h : said p s = false) : FaPost p s w (.returned (.tuple #[.slice none 0 0, .bool false])) w :=
  ⟨_, by rw [h], by unfold fndO; rw [h, if_neg (by simp)]; exact World.ownsRow_nil _ _ _ _, Below.refl _ _⟩
theorem so_of {p s : ByteArray} {w w0 w' : World} (h : said p s = true) (hb0 : Below w.heap.size w w0) (hb : Below w0.heap.size w0 w') : SoPost p s w (.returned (.tuple #[.int .i64 (lks p.data.toList s.data.toList s.size : Int), .bool true])) w' :=
  ⟨by unfold stpO; rw [h, if_pos rfl], hb0.trans (hb.mono hb0.size)⟩
theorem so_no {p s : ByteArray} (w : World) (h : said p s = false) : SoPost p s w (.returned (.tuple #[.int .i64 0, .bool false])) w :=
  ⟨by unfold stpO; rw [h, if_neg (by simp)], Below.refl _ _⟩

set_option maxHeartbeats 1000000 in
theorem findS_any (p s : ByteArray) (w : World) (hp : p.size ≤ 1048576) (hs : s.size ≤ 1048576) :
    Calls Tryd.prog 11 #[.string p, .string s] w (FaPost p s w) := by
  have H := l11Said_any p s w hp hs
  by_cases h : said p s = true
  · obtain ⟨-, h0, h1, h2, -, -⟩ := said_yes h
    have HF := hide (l11Find_any p s w h0 h1 h2)
    have HO := hide (fun v w' ho hb => fa_of (v := v) (w' := w') h ho (Below.refl w.heap.size w) hb)
    rw [h] at H
    replace H := hide H
    clear h
    go_enter Tryd.func11, Tryd.ntmps11
    go_wp2_with fail
    refine H.out.mono ?_
    rintro e w' ⟨rfl, hw⟩
    replace hw := hw.symm
    subst hw
    go_wp2_with fail
    refine HF.out.mono ?_
    rintro e w1 ⟨v, rfl, ho, hb1⟩
    have HO1 := hide (HO.out v w1 ho hb1)
    clear ho hb1
    go_wp2
    go_ret2
    exact HO1.out
  · rw [Bool.not_eq_true] at h
    have HO := hide (fa_no w h)
    rw [h] at H
    replace H := hide H
    clear h
    go_enter Tryd.func11, Tryd.ntmps11
    go_wp2_with fail
    refine H.out.mono ?_
    rintro e w' ⟨rfl, hw⟩
    replace hw := hw.symm
    subst hw
    go_wp2
    go_ret2
    exact HO.out

set_option maxHeartbeats 1000000 in
theorem stepS_any (p s : ByteArray) (w : World) (hp : p.size ≤ 1048576) (hs : s.size ≤ 1048576) :
    Calls Tryd.prog 13 #[.string p, .string s] w (SoPost p s w) := by
  have H := l11Said_any p s w hp hs
  by_cases h : said p s = true
  · obtain ⟨-, h0, h1, h2, -, -⟩ := said_yes h
    have HF := hide (l11Find_any p s w h0 h1 h2)
    have HO := hide (fun w' hb => so_of (w' := w') h (Below.refl w.heap.size w) hb)
    rw [h] at H
    replace H := hide H
    clear h
    go_enter Tryd.func13, Tryd.ntmps13
    go_wp2_with fail
    refine H.out.mono ?_
    rintro e w' ⟨rfl, hw⟩
    replace hw := hw.symm
    subst hw
    go_wp2_with fail
    refine HF.out.mono ?_
    rintro e w1 ⟨v, rfl, ho, hb1⟩
    have HO1 := hide (HO.out w1 hb1)
    clear ho hb1
    go_wp2
    go_ret2
    exact HO1.out
  · rw [Bool.not_eq_true] at h
    have HO := hide (so_no w h)
    rw [h] at H
    replace H := hide H
    clear h
    go_enter Tryd.func13, Tryd.ntmps13
    go_wp2_with fail
    refine H.out.mono ?_
    rintro e w' ⟨rfl, hw⟩
    replace hw := hw.symm
    subst hw
    go_wp2
    go_ret2
    exact HO.out

/-- Both texts as rows of bytes, and the search over them. -/
theorem two_conv (p s : ByteArray) (w : World) : ∃ W cap W2 cap2, (convert 9 22 (.string p)).run Tryd.prog w = .ok (.slice (some ⟨w.heap.size, 0, none⟩) p.size cap) W ∧ (convert 9 22 (.string s)).run Tryd.prog W = .ok (.slice (some ⟨w.heap.size + 1, 0, none⟩) s.size cap2) W2 ∧ BtAt W2 w.heap.size p ∧ BtAt W2 (w.heap.size + 1) s ∧ p.size ≤ cap ∧ s.size ≤ cap2 ∧ Below w.heap.size w W2 := by
  obtain ⟨W, cap, h1, h2, h3, h4, h5⟩ := bytes_conv p w
  obtain ⟨W2, cap2, g1, g2, g3, g4, g5⟩ := bytes_conv s W
  rw [h5] at g1 g2
  exact ⟨W, cap, W2, cap2, h1, g1, h2.later g4, g2, h3, g3, h4.trans (g4.mono h4.size)⟩

set_option maxHeartbeats 1000000 in
theorem findI_any (p s : ByteArray) (w : World) (hp : p.size ≤ 1048576) (hs : s.size ≤ 1048576) (hT : Tab w) :
    Calls Tryd.prog 10 #[.string p, .string s] w (FaPost p s w) := by
  have H := isSought_any p w hp hT
  have H2 := goodTextI_any s w hs hT
  by_cases h : said p s = true
  · obtain ⟨h5, h0, h1, h2, -, h4⟩ := said_yes h
    obtain ⟨W, cap, W2, cap2, hc1, hc2, hb1, hb2, hcap, hcap2, hbw⟩ := two_conv p s w
    have HF := hide (lookThrough_any p s w.heap.size (w.heap.size + 1) cap cap2 W2 hb1 hb2 h0 h1 h2 hcap hcap2)
    have HO := hide (fun v w' ho hb => fa_of (v := v) (w' := w') h ho hbw hb)
    rw [h5] at H
    rw [h4] at H2
    replace H := hide H
    replace H2 := hide H2
    clear h hb1 hb2 hbw
    go_enter Tryd.func10, Tryd.ntmps10
    go_wp2_with fail
    refine H.out.mono ?_
    rintro e w' ⟨rfl, hw⟩
    replace hw := hw.symm
    subst hw
    go_wp2_with fail
    refine H2.out.mono ?_
    rintro e w' ⟨rfl, hw⟩
    replace hw := hw.symm
    subst hw
    go_wp2_with fail
    refine HF.out.mono ?_
    rintro e w1 ⟨v, rfl, ho, hb1⟩
    have HO1 := hide (HO.out v w1 ho hb1)
    clear ho hb1
    go_wp2
    go_ret2
    exact HO1.out
  · rw [Bool.not_eq_true] at h
    have HO := hide (fa_no w h)
    by_cases h5 : sgt p = true
    · have h4 : good s.data.toList = false := by unfold said at h; rw [h5, Bool.true_and] at h; exact h
      rw [h5] at H
      rw [h4] at H2
      replace H := hide H
      replace H2 := hide H2
      clear h h5 h4
      go_enter Tryd.func10, Tryd.ntmps10
      go_wp2_with fail
      refine H.out.mono ?_
      rintro e w' ⟨rfl, hw⟩
      replace hw := hw.symm
      subst hw
      go_wp2_with fail
      refine H2.out.mono ?_
      rintro e w' ⟨rfl, hw⟩
      replace hw := hw.symm
      subst hw
      go_wp2
      go_ret2
      exact HO.out
    · rw [Bool.not_eq_true] at h5
      rw [h5] at H
      replace H := hide H
      clear h h5 H2
      go_enter Tryd.func10, Tryd.ntmps10
      go_wp2_with fail
      refine H.out.mono ?_
      rintro e w' ⟨rfl, hw⟩
      replace hw := hw.symm
      subst hw
      go_wp2
      go_ret2
      exact HO.out

set_option maxHeartbeats 1000000 in
theorem stepI_any (p s : ByteArray) (w : World) (hp : p.size ≤ 1048576) (hs : s.size ≤ 1048576) (hT : Tab w) :
    Calls Tryd.prog 12 #[.string p, .string s] w (SoPost p s w) := by
  have H := isSought_any p w hp hT
  have H2 := goodTextI_any s w hs hT
  by_cases h : said p s = true
  · obtain ⟨h5, h0, h1, h2, -, h4⟩ := said_yes h
    obtain ⟨W, cap, W2, cap2, hc1, hc2, hb1, hb2, hcap, hcap2, hbw⟩ := two_conv p s w
    have HF := hide (lookThrough_any p s w.heap.size (w.heap.size + 1) cap cap2 W2 hb1 hb2 h0 h1 h2 hcap hcap2)
    have HO := hide (fun w' hb => so_of (w' := w') h hbw hb)
    rw [h5] at H
    rw [h4] at H2
    replace H := hide H
    replace H2 := hide H2
    clear h hb1 hb2 hbw
    go_enter Tryd.func12, Tryd.ntmps12
    go_wp2_with fail
    refine H.out.mono ?_
    rintro e w' ⟨rfl, hw⟩
    replace hw := hw.symm
    subst hw
    go_wp2_with fail
    refine H2.out.mono ?_
    rintro e w' ⟨rfl, hw⟩
    replace hw := hw.symm
    subst hw
    go_wp2_with fail
    refine HF.out.mono ?_
    rintro e w1 ⟨v, rfl, ho, hb1⟩
    have HO1 := hide (HO.out w1 hb1)
    clear ho hb1
    go_wp2
    go_ret2
    exact HO1.out
  · rw [Bool.not_eq_true] at h
    have HO := hide (so_no w h)
    by_cases h5 : sgt p = true
    · have h4 : good s.data.toList = false := by unfold said at h; rw [h5, Bool.true_and] at h; exact h
      rw [h5] at H
      rw [h4] at H2
      replace H := hide H
      replace H2 := hide H2
      clear h h5 h4
      go_enter Tryd.func12, Tryd.ntmps12
      go_wp2_with fail
      refine H.out.mono ?_
      rintro e w' ⟨rfl, hw⟩
      replace hw := hw.symm
      subst hw
      go_wp2_with fail
      refine H2.out.mono ?_
      rintro e w' ⟨rfl, hw⟩
      replace hw := hw.symm
      subst hw
      go_wp2
      go_ret2
      exact HO.out
    · rw [Bool.not_eq_true] at h5
      rw [h5] at H
      replace H := hide H
      clear h h5 H2
      go_enter Tryd.func12, Tryd.ntmps12
      go_wp2_with fail
      refine H.out.mono ?_
      rintro e w' ⟨rfl, hw⟩
      replace hw := hw.symm
      subst hw
      go_wp2
      go_ret2
      exact HO.out
end Go.Proofs.YtfiefklhhchebaaDoor
