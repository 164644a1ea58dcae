/- Rows of splices; the program's replacements. -/
import Derived.Test.YtfiefklhhchebabDoorRep5
set_option linter.unusedVariables false
namespace Go.Proofs.YtfiefklhhchebabDoor
open Go.RowKit
open Doc1

def spC (y : Spl) : List Value := [.int .i64 (y.frm : Int), .int .i64 (y.til : Int), .string y.put]
def encS (l : List Spl) : List Value := l.flatMap spC
theorem encS_len (l : List Spl) : (encS l).length = l.length * 3 := by
  induction l with
  | nil => rfl
  | cons x l ih => simp [encS, spC] at ih ⊢; omega
theorem encS_app (a b : List Spl) : encS (a ++ b) = encS a ++ encS b := by simp [encS]
theorem encS_at (l : List Spl) : ∀ i (h : i < l.length), (encS l)[i * 3]? = some (.int .i64 (l[i].frm : Int)) ∧ (encS l)[i * 3 + 1]? = some (.int .i64 (l[i].til : Int)) ∧ (encS l)[i * 3 + 2]? = some (.string l[i].put) := by
  induction l with
  | nil => intro i h; simp at h
  | cons x l ih =>
    intro i h
    have e : encS (x :: l) = spC x ++ encS l := by simp [encS]
    rw [e]
    cases i with
    | zero => exact ⟨rfl, rfl, rfl⟩
    | succ i =>
      have := ih i (by simpa using h)
      have hl : (spC x).length = 3 := rfl
      rw [List.getElem?_append_right (by rw [hl]; omega), List.getElem?_append_right (by rw [hl]; omega), List.getElem?_append_right (by rw [hl]; omega), hl,
        show (i + 1) * 3 - 3 = i * 3 by omega, show (i + 1) * 3 + 1 - 3 = i * 3 + 1 by omega, show (i + 1) * 3 + 2 - 3 = i * 3 + 2 by omega]
      simpa using this
def SpOwn (w : World) (B : Nat) (v : Value) (l : List Spl) : Prop := w.ownsRow B 47 3 v l.length (encS l)
theorem Tryd.infoSpl : (Tryd.prog.info? 47).map (fun i => (i.zero, i.size, i.bytes)) = some (some (.agg #[.int .i64 0, .int .i64 0, .string ⟨#[]⟩]), 3, 32) := by kernel_rfl
/-- A row of splices that is read. -/
theorem spl_at {w : World} {B : Nat} {v : Value} {l : List Spl} (h : SpOwn w B v l) : ∃ a cap, v = .slice a l.length cap ∧ l.length ≤ cap ∧ cap ≤ maxLen ∧ ∀ wy, Below w.heap.size w wy → ∀ j (hj : j < l.length), ∃ g, a = some ⟨g, 0, none⟩ ∧ wy.cell? ⟨g, j * 3, none⟩ = some (.int .i64 (l[j].frm : Int)) ∧ wy.cell? ⟨g, j * 3 + 1, none⟩ = some (.int .i64 (l[j].til : Int)) ∧ wy.cell? ⟨g, j * 3 + 2, none⟩ = some (.string l[j].put) := by
  unfold SpOwn at h
  obtain ⟨a, cap, rfl, k1, k2⟩ := own_shp h
  refine ⟨a, cap, rfl, k1, k2, fun wy hb j hj => ?_⟩
  obtain ⟨g, cc, e, -⟩ := own_open h (by omega)
  simp only [Value.slice.injEq] at e
  obtain ⟨e1, -, -⟩ := e
  subst e1
  have h2 := own_below h hb
  have c0 := World.ownsRow.cellAt h2 (j * 3) (by omega)
  have c1 := World.ownsRow.cellAt h2 (j * 3 + 1) (by omega)
  have c2 := World.ownsRow.cellAt h2 (j * 3 + 2) (by omega)
  have q := encS_at l j hj
  rw [q.1] at c0
  rw [q.2.1] at c1
  rw [q.2.2] at c2
  exact ⟨g, rfl, c0, c1, c2⟩
theorem SpOwn.app {w : World} {B : Nat} {v : Value} {l : List Spl} {y : Spl} (h : w.ownsRow B 47 3 v (l.length + 1) (encS l ++ spC y)) : SpOwn w B v (l ++ [y]) := by
  unfold SpOwn
  rw [encS_app, List.length_append, show encS [y] = spC y by simp [encS]]
  exact h

def RpPost (p s W : ByteArray) (w : World) (e : Ending) (w' : World) : Prop := ∃ v, e = .returned (.tuple #[v, .bool (rpOk p s W)]) ∧ SpOwn w' w.heap.size v (if rpOk p s W then sps p s W else []) ∧ Below w.heap.size w w'

set_option maxRecDepth 100000 in
set_option maxHeartbeats 4000000 in
theorem replacements_any (p s W : ByteArray) (w : World) (hp : p.size ≤ 1048576) (hs : s.size ≤ 1048576) (hW : W.size ≤ 1048576) (hT : Tab w) :
    Calls Tryd.prog 21 #[.string s, .string p, .string W] w (RpPost p s W w) := by
  have H1 := isSought_any p w hp hT
  have H2 := goodTextI_any s w hs hT
  have H3 := goodTextI_any W w hW hT
  obtain ⟨i0, hi0, hz0, hz1, hz2⟩ := info_parts Tryd.infoSpl
  have hNo : rpOk p s W = false → Hid (RpPost p s W w (.returned (.tuple #[.slice none 0 0, .bool false])) w) := fun h => hide ⟨_, by rw [h], by rw [h]; exact World.ownsRow_nil _ _ _ _, Below.refl _ _⟩
  by_cases h1 : sgt p = true
  · rw [h1] at H1
    replace H1 := hide H1
    by_cases h2 : good s.data.toList = true
    · rw [h2] at H2
      replace H2 := hide H2
      by_cases h3 : good W.data.toList = true
      · rw [h3] at H3
        replace H3 := hide H3
        have hok : rpOk p s W = true := by unfold rpOk said; rw [h1, h2, h3]; rfl
        have hsd : said p s = true := by unfold said; rw [h1, h2]; rfl
        obtain ⟨-, h0, hp3, hs3, -, -⟩ := said_yes hsd
        obtain ⟨W0, cap, W2, cap2, hc1, hc2, hb1, hb2, hcap, hcap2, hbw⟩ := two_conv p s w
        have HL := hide (lookThrough_any p s w.heap.size (w.heap.size + 1) cap cap2 W2 hb1 hb2 h0 hp3 hs3 hcap hcap2)
        have hfe := fnd_end (p := p) (s := s) h0
        have hfl := fnd_len p.data.toList s.data.toList s.size
        have HFin : Hid (∀ v w', SpOwn w' w.heap.size v (sps p s W) → Below w.heap.size w w' → RpPost p s W w (.returned (.tuple #[v, .bool true])) w') := hide (fun v w' a b => ⟨v, by rw [hok], by rw [hok]; exact a, b⟩)
        have HBW := hide hbw
        clear h1 h2 h3 hok hsd hb1 hb2 hNo hbw
        go_enter Tryd.func21, Tryd.ntmps21
        go_wp2_with fail
        refine H1.out.mono ?_
        rintro e w' ⟨rfl, hw⟩
        replace hw := hw.symm
        subst hw
        go_wp2_with fail
        refine H2.out.mono ?_
        rintro e w' ⟨rfl, hw⟩
        replace hw := hw.symm
        subst hw
        go_wp2_with fail
        refine H3.out.mono ?_
        rintro e w' ⟨rfl, hw⟩
        replace hw := hw.symm
        subst hw
        go_wp2_with fail
        refine HL.out.mono ?_
        rintro e W1 ⟨v, rfl, ho, hb1⟩
        unfold fI at ho
        obtain ⟨F, hF⟩ : ∃ F, fnd p.data.toList s.data.toList s.size = F := ⟨_, rfl⟩
        have HFs : Hid (sps p s W = (apA p.size F).1.map (spl p.size W)) := hide (by unfold sps plc; rw [hF])
        rw [hF] at ho hfe hfl
        obtain ⟨a, ca, rfl, k1, k2, hc⟩ := places_at (F := F) ho
        have HC := hide hc
        have HFE := hide hfe
        have HB1 := hide (HBW.out.trans (hb1.mono HBW.out.size))
        clear ho hb1 hF hfe hc HL HBW hc1 hc2
        go_wp2
        go_loopw [10, 11, 37] (fun v ve vi wr => ∃ (k E : Nat), k ≤ F.length ∧ vi = .int .i64 (k : Int) ∧ ve = .int .i64 (E : Int) ∧ E ≤ 600 ∧ Hid (E = (apA p.size (F.take k)).2) ∧ ∃ v0, v0 = v ∧ Hid (SpOwn wr W1.heap.size v0 ((apA p.size (F.take k)).1.map (spl p.size W)) ∧ Below W1.heap.size W1 wr)) (fun _ _ vi _ => F.length - (intOf vi).toNat)
        case atStart => exact ⟨0, 0, by omega, rfl, rfl, by omega, hide rfl, _, rfl, hide ⟨World.ownsRow_nil _ _ _ _, Below.refl _ _⟩⟩
        case round =>
          obtain ⟨k, E, hk, rfl, rfl, hE6, HE, v, hv0, HR⟩ := hrel
          subst hv0
          by_cases hlt : k < F.length
          · obtain ⟨g, rfl, c1⟩ := HC.out wr HR.out.2 k hlt
            have hx := HFE.out F[k] (List.getElem_mem hlt)
            have HT := hide (apA_take (n := p.size) hlt)
            obtain ⟨x, hxd⟩ : ∃ x, F[k] = x := ⟨_, rfl⟩
            rw [hxd] at c1 hx HT
            clear hxd
            by_cases hle : E ≤ x
            · have HS : Hid (apA p.size (F.take (k + 1)) = ((apA p.size (F.take k)).1 ++ [x], x + p.size)) := hide (by rw [HT.out]; unfold apS; rw [if_pos (by rw [← HE.out]; exact hle)])
              have hal := apA_len p.size (F.take k)
              rw [List.length_take] at hal
              have hnl : ((apA p.size (F.take k)).1.map (spl p.size W)).length ≤ 300 := by rw [List.length_map]; omega
              clear HT
              go_wp2_with (at_builtin; (refine wpList_append_own _ rfl _ _ 42 rfl W1.heap.size 47 i0 (.agg #[.int .i64 0, .int .i64 0, .string ⟨#[]⟩]) 3 32 Tryd.underlying42 hi0 hz0 hz1 hz2 rfl (by decide) _ _ _ rfl (World.ownsRow.alloc HR.out.1 _) ⟨wr.heap.size, 0, none⟩ 1 1 [.int .i64 (x : Int), .int .i64 ((x : Int) + (p.size : Int)), .string W] rfl rfl (cell3_at _ _ rfl _ _ _ _) (by intro u hu; simp at hu; rcases hu with rfl | rfl | rfl <;> rfl) (by unfold maxLen; omega) (by omega) (by have := HR.out.2.size; simp; omega) ?_); intro v' w3 own3 grow3 _; (have HR3 : Hid (SpOwn w3 W1.heap.size v' ((apA p.size (F.take (k + 1))).1.map (spl p.size W)) ∧ Below W1.heap.size W1 w3) := hide ⟨(by rw [HS.out, List.map_append]; exact SpOwn.app own3), below_append HR.out.2 HR.out.1 HR.out.2.size grow3⟩); clear own3 grow3 HR)
              exact ⟨⟨k + 1, x + p.size, by omega, by go_num, by go_num, by omega, hide (by rw [HS.out]), _, rfl, HR3⟩, by simp [intOf]; omega⟩
            · have HS : Hid (apA p.size (F.take (k + 1)) = apA p.size (F.take k)) := hide (by rw [HT.out]; unfold apS; rw [if_neg (by rw [← HE.out]; exact hle)])
              clear HT
              go_wp2
              exact ⟨⟨k + 1, E, by omega, by go_num, rfl, hE6, hide (by rw [HS.out]; exact HE.out), _, rfl, hide (by rw [HS.out]; exact HR.out)⟩, by simp [intOf]; omega⟩
          · have HO := hide (HFin.out v wr (by
              have := HR.out.1
              rw [List.take_of_length_le (by omega)] at this
              rw [HFs.out]
              exact own_mono this HB1.out.size) (HB1.out.trans (HR.out.2.mono HB1.out.size)))
            clear HR
            go_wp2
            go_ret2
            exact HO.out
      · rw [Bool.not_eq_true] at h3
        have HN := hNo (by unfold rpOk; rw [h3, Bool.and_false])
        rw [h3] at H3
        replace H3 := hide H3
        clear h1 h2 h3 hNo
        go_enter Tryd.func21, Tryd.ntmps21
        go_wp2_with fail
        refine H1.out.mono ?_
        rintro e w' ⟨rfl, hw⟩
        replace hw := hw.symm
        subst hw
        go_wp2_with fail
        refine H2.out.mono ?_
        rintro e w' ⟨rfl, hw⟩
        replace hw := hw.symm
        subst hw
        go_wp2_with fail
        refine H3.out.mono ?_
        rintro e w' ⟨rfl, hw⟩
        replace hw := hw.symm
        subst hw
        go_wp2
        go_ret2
        exact HN.out
    · rw [Bool.not_eq_true] at h2
      have HN := hNo (by unfold rpOk said; rw [h2, Bool.and_false]; rfl)
      rw [h2] at H2
      replace H2 := hide H2
      clear h1 h2 hNo H3
      go_enter Tryd.func21, Tryd.ntmps21
      go_wp2_with fail
      refine H1.out.mono ?_
      rintro e w' ⟨rfl, hw⟩
      replace hw := hw.symm
      subst hw
      go_wp2_with fail
      refine H2.out.mono ?_
      rintro e w' ⟨rfl, hw⟩
      replace hw := hw.symm
      subst hw
      go_wp2
      go_ret2
      exact HN.out
  · rw [Bool.not_eq_true] at h1
    have HN := hNo (by unfold rpOk said; rw [h1]; rfl)
    rw [h1] at H1
    replace H1 := hide H1
    clear h1 hNo H2 H3
    go_enter Tryd.func21, Tryd.ntmps21
    go_wp2_with fail
    refine H1.out.mono ?_
    rintro e w' ⟨rfl, hw⟩
    replace hw := hw.symm
    subst hw
    go_wp2
    go_ret2
    exact HN.out
end Go.Proofs.YtfiefklhhchebabDoor
