/- Rows of splices; the program's replacements. The program's joinTouching. -/
import Derived.Test.YtfiefklhhchebabDoorRepM
import Derived.Test.YtfiefklhhchebabDoorOpW5
set_option linter.unusedVariables false
namespace Go.Proofs.YtfiefklhhchebabDoor
open Go.RowKit
open Doc1

def spC (y : Spl) : List Value := [.int .i64 (y.frm : Int), .int .i64 (y.til : Int), .string y.put]
def encS (l : List Spl) : List Value := l.flatMap spC
theorem encS_len (l : List Spl) : (encS l).length = l.length * 3 := by
  induction l with
  | nil => rfl
  | cons x l ih => simp [encS, spC] at ih ⊢; omega
theorem encS_app (a b : List Spl) : encS (a ++ b) = encS a ++ encS b := by simp [encS]
theorem encS_at (l : List Spl) : ∀ i (h : i < l.length), (encS l)[i * 3]? = some (.int .i64 (l[i].frm : Int)) ∧ (encS l)[i * 3 + 1]? = some (.int .i64 (l[i].til : Int)) ∧ (encS l)[i * 3 + 2]? = some (.string l[i].put) := by
  induction l with
  | nil => intro i h; simp at h
  | cons x l ih =>
    intro i h
    have e : encS (x :: l) = spC x ++ encS l := by simp [encS]
    rw [e]
    cases i with
    | zero => exact ⟨rfl, rfl, rfl⟩
    | succ i =>
      have := ih i (by simpa using h)
      have hl : (spC x).length = 3 := rfl
      rw [List.getElem?_append_right (by rw [hl]; omega), List.getElem?_append_right (by rw [hl]; omega), List.getElem?_append_right (by rw [hl]; omega), hl,
        show (i + 1) * 3 - 3 = i * 3 by omega, show (i + 1) * 3 + 1 - 3 = i * 3 + 1 by omega, show (i + 1) * 3 + 2 - 3 = i * 3 + 2 by omega]
      simpa using this
def SpOwn (w : World) (B : Nat) (v : Value) (l : List Spl) : Prop := w.ownsRow B 47 3 v l.length (encS l)
theorem Tryd.infoSpl : (Tryd.prog.info? 47).map (fun i => (i.zero, i.size, i.bytes)) = some (some (.agg #[.int .i64 0, .int .i64 0, .string ⟨#[]⟩]), 3, 32) := by kernel_rfl
/-- A row of splices that is read. -/
theorem spl_at {w : World} {B : Nat} {v : Value} {l : List Spl} (h : SpOwn w B v l) : ∃ a cap, v = .slice a l.length cap ∧ l.length ≤ cap ∧ cap ≤ maxLen ∧ ∀ wy, Below w.heap.size w wy → ∀ j (hj : j < l.length), ∃ g, a = some ⟨g, 0, none⟩ ∧ wy.cell? ⟨g, j * 3, none⟩ = some (.int .i64 (l[j].frm : Int)) ∧ wy.cell? ⟨g, j * 3 + 1, none⟩ = some (.int .i64 (l[j].til : Int)) ∧ wy.cell? ⟨g, j * 3 + 2, none⟩ = some (.string l[j].put) := by
  unfold SpOwn at h
  obtain ⟨a, cap, rfl, k1, k2⟩ := own_shp h
  refine ⟨a, cap, rfl, k1, k2, fun wy hb j hj => ?_⟩
  obtain ⟨g, cc, e, -⟩ := own_open h (by omega)
  simp only [Value.slice.injEq] at e
  obtain ⟨e1, -, -⟩ := e
  subst e1
  have h2 := own_below h hb
  have c0 := World.ownsRow.cellAt h2 (j * 3) (by omega)
  have c1 := World.ownsRow.cellAt h2 (j * 3 + 1) (by omega)
  have c2 := World.ownsRow.cellAt h2 (j * 3 + 2) (by omega)
  have q := encS_at l j hj
  rw [q.1] at c0
  rw [q.2.1] at c1
  rw [q.2.2] at c2
  exact ⟨g, rfl, c0, c1, c2⟩
theorem SpOwn.app {w : World} {B : Nat} {v : Value} {l : List Spl} {y : Spl} (h : w.ownsRow B 47 3 v (l.length + 1) (encS l ++ spC y)) : SpOwn w B v (l ++ [y]) := by
  unfold SpOwn
  rw [encS_app, List.length_append, show encS [y] = spC y by simp [encS]]
  exact h

def RpPost (p s W : ByteArray) (w : World) (e : Ending) (w' : World) : Prop := ∃ v, e = .returned (.tuple #[v, .bool (rpOk p s W)]) ∧ SpOwn w' w.heap.size v (if rpOk p s W then sps p s W else []) ∧ Below w.heap.size w w'

set_option maxRecDepth 100000 in
set_option maxHeartbeats 4000000 in
theorem replacements_any (p s W : ByteArray) (w : World) (hp : p.size ≤ 1048576) (hs : s.size ≤ 1048576) (hW : W.size ≤ 1048576) (hT : Tab w) :
    Calls Tryd.prog 21 #[.string s, .string p, .string W] w (RpPost p s W w) := by
  have H1 := isSought_any p w hp hT
  have H2 := goodTextI_any s w hs hT
  have H3 := goodTextI_any W w hW hT
  obtain ⟨i0, hi0, hz0, hz1, hz2⟩ := info_parts Tryd.infoSpl
  have hNo : rpOk p s W = false → Hid (RpPost p s W w (.returned (.tuple #[.slice none 0 0, .bool false])) w) := fun h => hide ⟨_, by rw [h], by rw [h]; exact World.ownsRow_nil _ _ _ _, Below.refl _ _⟩
  by_cases h1 : sgt p = true
  · rw [h1] at H1
    replace H1 := hide H1
    by_cases h2 : good s.data.toList = true
    · rw [h2] at H2
      replace H2 := hide H2
      by_cases h3 : good W.data.toList = true
      · rw [h3] at H3
        replace H3 := hide H3
        have hok : rpOk p s W = true := by unfold rpOk said; rw [h1, h2, h3]; rfl
        have hsd : said p s = true := by unfold said; rw [h1, h2]; rfl
        obtain ⟨-, h0, hp3, hs3, -, -⟩ := said_yes hsd
        obtain ⟨W0, cap, W2, cap2, hc1, hc2, hb1, hb2, hcap, hcap2, hbw⟩ := two_conv p s w
        have HL := hide (lookThrough_any p s w.heap.size (w.heap.size + 1) cap cap2 W2 hb1 hb2 h0 hp3 hs3 hcap hcap2)
        have hfe := fnd_end (p := p) (s := s) h0
        have hfl := fnd_len p.data.toList s.data.toList s.size
        have HFin : Hid (∀ v w', SpOwn w' w.heap.size v (sps p s W) → Below w.heap.size w w' → RpPost p s W w (.returned (.tuple #[v, .bool true])) w') := hide (fun v w' a b => ⟨v, by rw [hok], by rw [hok]; exact a, b⟩)
        have HBW := hide hbw
        clear h1 h2 h3 hok hsd hb1 hb2 hNo hbw
        go_enter Tryd.func21, Tryd.ntmps21
        go_wp2_with fail
        refine H1.out.mono ?_
        rintro e w' ⟨rfl, hw⟩
        replace hw := hw.symm
        subst hw
        go_wp2_with fail
        refine H2.out.mono ?_
        rintro e w' ⟨rfl, hw⟩
        replace hw := hw.symm
        subst hw
        go_wp2_with fail
        refine H3.out.mono ?_
        rintro e w' ⟨rfl, hw⟩
        replace hw := hw.symm
        subst hw
        go_wp2_with fail
        refine HL.out.mono ?_
        rintro e W1 ⟨v, rfl, ho, hb1⟩
        unfold fI at ho
        obtain ⟨F, hF⟩ : ∃ F, fnd p.data.toList s.data.toList s.size = F := ⟨_, rfl⟩
        have HFs : Hid (sps p s W = (apA p.size F).1.map (spl p.size W)) := hide (by unfold sps plc; rw [hF])
        rw [hF] at ho hfe hfl
        obtain ⟨a, ca, rfl, k1, k2, hc⟩ := places_at (F := F) ho
        have HC := hide hc
        have HFE := hide hfe
        have HB1 := hide (HBW.out.trans (hb1.mono HBW.out.size))
        clear ho hb1 hF hfe hc HL HBW hc1 hc2
        go_wp2
        go_loopw [10, 11, 37] (fun v ve vi wr => ∃ (k E : Nat), k ≤ F.length ∧ vi = .int .i64 (k : Int) ∧ ve = .int .i64 (E : Int) ∧ E ≤ 600 ∧ Hid (E = (apA p.size (F.take k)).2) ∧ ∃ v0, v0 = v ∧ Hid (SpOwn wr W1.heap.size v0 ((apA p.size (F.take k)).1.map (spl p.size W)) ∧ Below W1.heap.size W1 wr)) (fun _ _ vi _ => F.length - (intOf vi).toNat)
        case atStart => exact ⟨0, 0, by omega, rfl, rfl, by omega, hide rfl, _, rfl, hide ⟨World.ownsRow_nil _ _ _ _, Below.refl _ _⟩⟩
        case round =>
          obtain ⟨k, E, hk, rfl, rfl, hE6, HE, v, hv0, HR⟩ := hrel
          subst hv0
          by_cases hlt : k < F.length
          · obtain ⟨g, rfl, c1⟩ := HC.out wr HR.out.2 k hlt
            have hx := HFE.out F[k] (List.getElem_mem hlt)
            have HT := hide (apA_take (n := p.size) hlt)
            obtain ⟨x, hxd⟩ : ∃ x, F[k] = x := ⟨_, rfl⟩
            rw [hxd] at c1 hx HT
            clear hxd
            by_cases hle : E ≤ x
            · have HS : Hid (apA p.size (F.take (k + 1)) = ((apA p.size (F.take k)).1 ++ [x], x + p.size)) := hide (by rw [HT.out]; unfold apS; rw [if_pos (by rw [← HE.out]; exact hle)])
              have hal := apA_len p.size (F.take k)
              rw [List.length_take] at hal
              have hnl : ((apA p.size (F.take k)).1.map (spl p.size W)).length ≤ 300 := by rw [List.length_map]; omega
              clear HT
              go_wp2_with (at_builtin; (refine wpList_append_own _ rfl _ _ 42 rfl W1.heap.size 47 i0 (.agg #[.int .i64 0, .int .i64 0, .string ⟨#[]⟩]) 3 32 Tryd.underlying42 hi0 hz0 hz1 hz2 rfl (by decide) _ _ _ rfl (World.ownsRow.alloc HR.out.1 _) ⟨wr.heap.size, 0, none⟩ 1 1 [.int .i64 (x : Int), .int .i64 ((x : Int) + (p.size : Int)), .string W] rfl rfl (cell3_at _ _ rfl _ _ _ _) (by intro u hu; simp at hu; rcases hu with rfl | rfl | rfl <;> rfl) (by unfold maxLen; omega) (by omega) (by have := HR.out.2.size; simp; omega) ?_); intro v' w3 own3 grow3 _; (have HR3 : Hid (SpOwn w3 W1.heap.size v' ((apA p.size (F.take (k + 1))).1.map (spl p.size W)) ∧ Below W1.heap.size W1 w3) := hide ⟨(by rw [HS.out, List.map_append]; exact SpOwn.app own3), below_append HR.out.2 HR.out.1 HR.out.2.size grow3⟩); clear own3 grow3 HR)
              exact ⟨⟨k + 1, x + p.size, by omega, by go_num, by go_num, by omega, hide (by rw [HS.out]), _, rfl, HR3⟩, by simp [intOf]; omega⟩
            · have HS : Hid (apA p.size (F.take (k + 1)) = apA p.size (F.take k)) := hide (by rw [HT.out]; unfold apS; rw [if_neg (by rw [← HE.out]; exact hle)])
              clear HT
              go_wp2
              exact ⟨⟨k + 1, E, by omega, by go_num, rfl, hE6, hide (by rw [HS.out]; exact HE.out), _, rfl, hide (by rw [HS.out]; exact HR.out)⟩, by simp [intOf]; omega⟩
          · have HO := hide (HFin.out v wr (by
              have := HR.out.1
              rw [List.take_of_length_le (by omega)] at this
              rw [HFs.out]
              exact own_mono this HB1.out.size) (HB1.out.trans (HR.out.2.mono HB1.out.size)))
            clear HR
            go_wp2
            go_ret2
            exact HO.out
      · rw [Bool.not_eq_true] at h3
        have HN := hNo (by unfold rpOk; rw [h3, Bool.and_false])
        rw [h3] at H3
        replace H3 := hide H3
        clear h1 h2 h3 hNo
        go_enter Tryd.func21, Tryd.ntmps21
        go_wp2_with fail
        refine H1.out.mono ?_
        rintro e w' ⟨rfl, hw⟩
        replace hw := hw.symm
        subst hw
        go_wp2_with fail
        refine H2.out.mono ?_
        rintro e w' ⟨rfl, hw⟩
        replace hw := hw.symm
        subst hw
        go_wp2_with fail
        refine H3.out.mono ?_
        rintro e w' ⟨rfl, hw⟩
        replace hw := hw.symm
        subst hw
        go_wp2
        go_ret2
        exact HN.out
    · rw [Bool.not_eq_true] at h2
      have HN := hNo (by unfold rpOk said; rw [h2, Bool.and_false]; rfl)
      rw [h2] at H2
      replace H2 := hide H2
      clear h1 h2 hNo H3
      go_enter Tryd.func21, Tryd.ntmps21
      go_wp2_with fail
      refine H1.out.mono ?_
      rintro e w' ⟨rfl, hw⟩
      replace hw := hw.symm
      subst hw
      go_wp2_with fail
      refine H2.out.mono ?_
      rintro e w' ⟨rfl, hw⟩
      replace hw := hw.symm
      subst hw
      go_wp2
      go_ret2
      exact HN.out
  · rw [Bool.not_eq_true] at h1
    have HN := hNo (by unfold rpOk said; rw [h1]; rfl)
    rw [h1] at H1
    replace H1 := hide H1
    clear h1 hNo H2 H3
    go_enter Tryd.func21, Tryd.ntmps21
    go_wp2_with fail
    refine H1.out.mono ?_
    rintro e w' ⟨rfl, hw⟩
    replace hw := hw.symm
    subst hw
    go_wp2
    go_ret2
    exact HN.out
end Go.Proofs.YtfiefklhhchebabDoor

set_option linter.unusedVariables false
namespace Go.Proofs.YtfiefklhhchebabDoor
open Go.RowKit
open Doc1

theorem encS_set {o : List Spl} {y y' : Spl} {f : Nat} {u : Value} (hf : f < 3) (h : (spC y).set f u = spC y') : (encS (o ++ [y])).set (o.length * 3 + f) u = encS (o ++ [y']) := by
  rw [encS_app, encS_app, show encS [y] = spC y by simp [encS], show encS [y'] = spC y' by simp [encS], ← h, List.set_append_right _ _ (by rw [encS_len]; omega), encS_len, Nat.add_sub_cancel_left]
theorem SpOwn.set {w : World} {B g n cap : Nat} {o : List Spl} {y y' : Spl} (h : SpOwn w B (.slice (some ⟨g, 0, none⟩) n cap) (o ++ [y])) (hn : n = (o ++ [y]).length) {f : Nat} {u : Value} (hf : f < 3) (hx : (spC y).set f u = spC y') : SpOwn (w.setCell ⟨g, o.length * 3 + f, none⟩ u) B (.slice (some ⟨g, 0, none⟩) n cap) (o ++ [y']) := by
  subst hn
  have := (World.ownsRow.stored h (o.length * 3 + f) u).1
  rw [encS_set hf hx] at this
  unfold SpOwn
  rw [show (o ++ [y']).length = (o ++ [y]).length by simp]
  exact this
theorem jnt_take {ys : List Spl} {k : Nat} (h : k < ys.length) : jnt (ys.take (k + 1)) = jst (jnt (ys.take k)) ys[k] := by rw [List.take_succ_eq_append_getElem h, jnt_snoc]
theorem jst_len (out : List Spl) (x : Spl) : (jst out x).length ≤ out.length + 1 := by
  rcases List.eq_nil_or_concat out with rfl | ⟨o, y, rfl⟩
  · simp [jst_nil]
  · rw [List.concat_eq_append]
    by_cases hf : y.til < x.frm
    · rw [jst_far _ _ _ hf]; simp
    · rw [jst_near _ _ _ hf]; simp
theorem jnt_len (ys : List Spl) : (jnt ys).length ≤ ys.length := by
  have key : ∀ (l out : List Spl), (l.foldl jst out).length ≤ out.length + l.length := by
    intro l
    induction l with
    | nil => intro out; simp
    | cons x l ih => intro out; have := ih (jst out x); have := jst_len out x; simp only [List.foldl_cons, List.length_cons]; omega
  have := key ys []
  rw [List.length_nil, Nat.zero_add] at this
  exact this
/-- How long what is put may grow. -/
def PutB (M : Nat) (l : List Spl) : Prop := ∀ y ∈ l, y.put.size ≤ M ∧ y.frm ≤ 300 ∧ y.til ≤ 300
theorem jst_putB {M N : Nat} {out : List Spl} {x : Spl} (h : PutB M out) (hx : x.put.size ≤ N ∧ x.frm ≤ 300 ∧ x.til ≤ 300) : PutB (M + N) (jst out x) := by
  rcases List.eq_nil_or_concat out with rfl | ⟨o, y, rfl⟩
  · rw [jst_nil]; intro z hz; rw [List.mem_singleton] at hz; subst hz; exact ⟨by omega, hx.2⟩
  · rw [List.concat_eq_append] at h ⊢
    have hy := h y (by simp)
    by_cases hf : y.til < x.frm
    · rw [jst_far _ _ _ hf]
      intro z hz
      rcases List.mem_append.1 hz with c | c
      · have := h z c; exact ⟨by omega, this.2⟩
      · rw [List.mem_singleton] at c; subst c; exact ⟨by omega, hx.2⟩
    · rw [jst_near _ _ _ hf]
      intro z hz
      rcases List.mem_append.1 hz with c | c
      · have := h z (List.mem_append_left _ c); exact ⟨by omega, this.2⟩
      · rw [List.mem_singleton] at c; subst c
        exact ⟨by show (y.put ++ x.put).size ≤ _; rw [ByteArray.size_append]; omega, hy.2.1, hx.2.2⟩
theorem jnt_putB {N : Nat} {ys : List Spl} (h : PutB N ys) : ∀ k, k ≤ ys.length → PutB (N * k) (jnt (ys.take k))
  | 0, _ => by intro y hy; simp [jnt] at hy
  | k + 1, hk => by
    rw [jnt_take (by omega), Nat.mul_succ]
    exact jst_putB (jnt_putB h k (by omega)) (h _ (List.getElem_mem (by omega)))

set_option maxRecDepth 100000 in
set_option maxHeartbeats 8000000 in
theorem joinTouching_any {w : World} {B : Nat} {v : Value} {ys : List Spl} (h : SpOwn w B v ys) (hl : ys.length ≤ 300) (hb : PutB 300 ys) :
    Calls Tryd.prog 26 #[v] w fun e w' => ∃ v', e = .returned v' ∧ SpOwn w' w.heap.size v' (jnt ys) ∧ Below w.heap.size w w' := by
  obtain ⟨i0, hi0, hz0, hz1, hz2⟩ := info_parts Tryd.infoSpl
  obtain ⟨a, cap, rfl, k1, k2, hc⟩ := spl_at h
  have HC := hide hc
  have HPB := hide (jnt_putB hb)
  have HYB := hide hb
  clear h hc hb
  go_enter Tryd.func26, Tryd.ntmps26
  go_wp2
  go_loopw [3, 9] (fun v vi wr => ∃ (k : Nat), k ≤ ys.length ∧ vi = .int .i64 (k : Int) ∧ ∃ v0, v0 = v ∧ Hid (SpOwn wr w.heap.size v0 (jnt (ys.take k)) ∧ Below w.heap.size w wr)) (fun _ vi _ => ys.length - (intOf vi).toNat)
  case atStart => exact ⟨0, by omega, rfl, _, rfl, hide ⟨World.ownsRow_nil _ _ _ _, Below.refl _ _⟩⟩
  case round =>
    obtain ⟨k, hk, rfl, v, hv0, HR⟩ := hrel
    subst hv0
    by_cases hlt : k < ys.length
    · obtain ⟨g, rfl, c0, c1, c2⟩ := HC.out wr HR.out.2 k hlt
      have hJl := jnt_len (ys.take k)
      rw [List.length_take] at hJl
      have hPB := HPB.out k hk
      have HT := hide (jnt_take hlt)
      have hxb := HYB.out _ (List.getElem_mem hlt)
      obtain ⟨x, hx⟩ : ∃ x, ys[k] = x := ⟨_, rfl⟩
      rw [hx] at c0 c1 c2 HT hxb
      clear hx
      obtain ⟨xf, xt, xp⟩ := x
      simp only at c0 c1 c2 hxb
      obtain ⟨y0, y1, y2⟩ := cells3_new' wr (.int .i64 (xf : Int)) (.int .i64 (xt : Int)) (.string xp)
      replace y0 := y0 47
      replace y1 := y1 47
      replace y2 := y2 47
      have hba : Below w.heap.size w (wr.alloc (.cells #[.int .i64 (xf : Int), .int .i64 (xt : Int), .string xp] 47)) := HR.out.2.alloc HR.out.2.size _
      have hoa := World.ownsRow.alloc HR.out.1 (.cells #[.int .i64 (xf : Int), .int .i64 (xt : Int), .string xp] 47)
      have hsz := HR.out.2.size
      obtain ⟨J, hJ⟩ : ∃ J, jnt (ys.take k) = J := ⟨_, rfl⟩
      rw [hJ] at hJl hPB HT hoa
      obtain ⟨wb, hwb⟩ : ∃ wb, wr.alloc (.cells #[.int .i64 (xf : Int), .int .i64 (xt : Int), .string xp] 47) = wb := ⟨_, rfl⟩
      rw [hwb] at y0 y1 y2 hba hoa
      have hwbs : wb.heap.size = wr.heap.size + 1 := by rw [← hwb]; simp
      have HBA := hide hba
      have HOA := hide hoa
      replace hwb := hide hwb
      have HR0 := HR
      rw [hJ] at HR0
      clear HR hba hJ
      rcases List.eq_nil_or_concat J with hJ0 | ⟨o, y, hJ1⟩
      · subst hJ0
        have hoa2 := HOA.out
        obtain ⟨a2, cap2, rfl, -, -⟩ := own_shp hoa2
        have HT2 : Hid (jnt (ys.take (k + 1)) = [] ++ [⟨xf, xt, xp⟩]) := hide (by rw [HT.out]; rfl)
        clear hoa hoa2
        go_wp2
        rw [hwb.out]
        go_quiet (fail)
        have z0 : (wb.drewN nq).cell? ⟨wr.heap.size, 0, none⟩ = some (.int .i64 (xf : Int)) := y0
        have z1 : (wb.drewN nq).cell? ⟨wr.heap.size, 1, none⟩ = some (.int .i64 (xt : Int)) := y1
        have z2 : (wb.drewN nq).cell? ⟨wr.heap.size, 2, none⟩ = some (.string xp) := y2
        have HQ : Hid (SpOwn (wb.drewN nq) w.heap.size (.slice a2 ([] : List Spl).length cap2) [] ∧ Below w.heap.size w (wb.drewN nq)) := hide ⟨own_below HOA.out (below_dN (Below.refl _ _) nq), below_dN HBA.out nq⟩
        generalize wb.drewN nq = wq at *
        clear y0 y1 y2 HOA HBA
        go_wp2_with (at_builtin; (refine wpList_append_own _ rfl _ _ 42 rfl w.heap.size 47 i0 (.agg #[.int .i64 0, .int .i64 0, .string ⟨#[]⟩]) 3 32 Tryd.underlying42 hi0 hz0 hz1 hz2 rfl (by decide) _ _ _ rfl (World.ownsRow.alloc HQ.out.1 _) ⟨wq.heap.size, 0, none⟩ 1 1 [.int .i64 (xf : Int), .int .i64 (xt : Int), .string xp] rfl rfl (cell3_at _ _ rfl _ _ _ _) (by intro u hu; simp at hu; rcases hu with rfl | rfl | rfl <;> rfl) (by unfold maxLen; simp <;> omega) (by simp <;> omega) (by have := HQ.out.2.size; simp; omega) ?_); intro v' w3 own3 grow3 _; (have HR3 : Hid (SpOwn w3 w.heap.size v' (jnt (ys.take (k + 1))) ∧ Below w.heap.size w w3) := hide ⟨(by rw [HT2.out]; exact SpOwn.app own3), below_append HQ.out.2 HQ.out.1 HQ.out.2.size grow3⟩); clear own3 grow3 HQ)
        exact ⟨⟨k + 1, by omega, by go_num, _, rfl, HR3⟩, by simp [intOf]; omega⟩
      · rw [List.concat_eq_append] at hJ1
        subst hJ1
        have hol : (o ++ [y]).length = o.length + 1 := by simp
        have hoa2 : wb.ownsRow w.heap.size 47 3 v (o.length + 1) (encS (o ++ [y])) := by rw [← hol]; exact HOA.out
        obtain ⟨g2, cap2, rfl, m1, m2, m3, m4, -⟩ := own_open hoa2 (by omega)
        have hyb := hPB y (by simp)
        have hq := encS_at (o ++ [y]) o.length (by simp)
        rw [List.getElem_append_right (Nat.le_refl _)] at hq
        simp only [Nat.sub_self, List.getElem_singleton] at hq
        have d1 := World.ownsRow.cellAt hoa2 (o.length * 3 + 1) (by omega)
        have d2 := World.ownsRow.cellAt hoa2 (o.length * 3 + 2) (by omega)
        rw [hq.2.1] at d1
        rw [hq.2.2] at d2
        have f1 := World.ownsRow.frozenAt hoa2 (o.length * 3 + 1)
        have f2 := World.ownsRow.frozenAt hoa2 (o.length * 3 + 2)
        have ho3 : o.length + 1 ≤ 300 := by omega
        have hg2 : g2 < wr.heap.size := by
          have := (World.ownsRow.lt HR0.out.1 g2 rfl).2
          exact this
        have ew : IntKind.i64.wrap ((o.length : Int) + 1 - 1) = (o.length : Int) := by rw [IntKind.wrap_i64]; omega
        have hdo : decide ((o.length : Int) < 0) = false := decide_eq_false (by omega)
        have hlo : o.length < o.length + 1 := by omega
        obtain ⟨yf, yt, yp⟩ := y
        simp only at d1 d2 hyb
        clear hq hoa
        by_cases hf : yt < xf
        · have HT2 : Hid (jnt (ys.take (k + 1)) = o ++ [⟨yf, yt, yp⟩] ++ [⟨xf, xt, xp⟩]) := hide (by rw [HT.out, jst_far _ _ _ hf])
          have hd : decide ((yt : Int) < (xf : Int)) = true := decide_eq_true (by omega)
          go_wp2
          rw [hwb.out]
          go_quiet (fail)
          have z0 : (wb.drewN nq).cell? ⟨wr.heap.size, 0, none⟩ = some (.int .i64 (xf : Int)) := y0
          have z1 : (wb.drewN nq).cell? ⟨wr.heap.size, 1, none⟩ = some (.int .i64 (xt : Int)) := y1
          have z2 : (wb.drewN nq).cell? ⟨wr.heap.size, 2, none⟩ = some (.string xp) := y2
          have HQ : Hid ((wb.drewN nq).ownsRow w.heap.size 47 3 (.slice (some ⟨g2, 0, none⟩) (o.length + 1) cap2) (o.length + 1) (encS (o ++ [⟨yf, yt, yp⟩])) ∧ Below w.heap.size w (wb.drewN nq)) := hide ⟨own_below hoa2 (below_dN (Below.refl _ _) nq), below_dN HBA.out nq⟩
          generalize wb.drewN nq = wq at *
          clear y0 y1 y2 HOA HBA hoa2 d1 d2 f1 f2
          go_wp2_with (at_builtin; (refine wpList_append_own _ rfl _ _ 42 rfl w.heap.size 47 i0 (.agg #[.int .i64 0, .int .i64 0, .string ⟨#[]⟩]) 3 32 Tryd.underlying42 hi0 hz0 hz1 hz2 rfl (by decide) _ _ _ rfl (World.ownsRow.alloc HQ.out.1 _) ⟨wq.heap.size, 0, none⟩ 1 1 [.int .i64 (xf : Int), .int .i64 (xt : Int), .string xp] rfl rfl (cell3_at _ _ rfl _ _ _ _) (by intro u hu; simp at hu; rcases hu with rfl | rfl | rfl <;> rfl) (by unfold maxLen; omega) (by omega) (by have := HQ.out.2.size; simp; omega) ?_); intro v' w3 own3 grow3 _; (have HR3 : Hid (SpOwn w3 w.heap.size v' (jnt (ys.take (k + 1))) ∧ Below w.heap.size w w3) := hide ⟨(by rw [HT2.out]; refine SpOwn.app ?_; rw [hol]; exact own3), below_append HQ.out.2 HQ.out.1 HQ.out.2.size grow3⟩); clear own3 grow3 HQ)
          exact ⟨⟨k + 1, by omega, by go_num, _, rfl, HR3⟩, by simp [intOf]; omega⟩
        · have HT2 : Hid (jnt (ys.take (k + 1)) = o ++ [⟨yf, xt, yp ++ xp⟩]) := hide (by rw [HT.out, jst_near _ _ _ hf])
          have hd : decide ((yt : Int) < (xf : Int)) = false := decide_eq_false (by omega)
          have hne1 : ¬ g2 = wr.heap.size := by omega
          have hne2 : ¬ wr.heap.size = g2 := by omega
          go_wp2
          rw [hwb.out]
          go_quiet (fail)
          have z1 : (wb.drewN nq).cell? ⟨wr.heap.size, 1, none⟩ = some (.int .i64 (xt : Int)) := y1
          have z2 : (wb.drewN nq).cell? ⟨wr.heap.size, 2, none⟩ = some (.string xp) := y2
          have e1 : (wb.drewN nq).cell? ⟨g2, o.length * 3 + 1, none⟩ = some (.int .i64 (yt : Int)) := d1
          have e2 : (wb.drewN nq).cell? ⟨g2, o.length * 3 + 2, none⟩ = some (.string yp) := d2
          have t1 : (wb.drewN nq).frozen? ⟨g2, o.length * 3 + 1, none⟩ = false := f1
          have t2 : (wb.drewN nq).frozen? ⟨g2, o.length * 3 + 2, none⟩ = false := f2
          have HQ : Hid (SpOwn (wb.drewN nq) w.heap.size (.slice (some ⟨g2, 0, none⟩) (o.length + 1) cap2) (o ++ [⟨yf, yt, yp⟩]) ∧ Below w.heap.size w (wb.drewN nq)) := hide ⟨by unfold SpOwn; rw [hol]; exact own_below hoa2 (below_dN (Below.refl _ _) nq), below_dN HBA.out nq⟩
          generalize wb.drewN nq = wq at *
          clear y0 y1 y2 HOA HBA hoa2 d1 d2 f1 f2
          go_wp2
          have HQ2 : Hid (SpOwn (wq.setCell ⟨g2, o.length * 3 + 1, none⟩ (.int .i64 (xt : Int))) w.heap.size (.slice (some ⟨g2, 0, none⟩) (o.length + 1) cap2) (o ++ [⟨yf, xt, yp⟩]) ∧ Below w.heap.size w (wq.setCell ⟨g2, o.length * 3 + 1, none⟩ (.int .i64 (xt : Int)))) := hide ⟨SpOwn.set HQ.out.1 hol.symm (f := 1) (by omega) rfl, HQ.out.2.setCell (p := ⟨g2, o.length * 3 + 1, none⟩) m3 _⟩
          have z2' : (wq.setCell ⟨g2, o.length * 3 + 1, none⟩ (.int .i64 (xt : Int))).cell? ⟨wr.heap.size, 2, none⟩ = some (.string xp) := by
            rw [World.cell?_setCell_other _ _ _ _ (by simp only [ne_eq, Addr.mk.injEq, not_and]; intro c; exact absurd c hne1)]; exact z2
          have e2' : (wq.setCell ⟨g2, o.length * 3 + 1, none⟩ (.int .i64 (xt : Int))).cell? ⟨g2, o.length * 3 + 2, none⟩ = some (.string yp) := by
            rw [World.cell?_setCell_other _ _ _ _ (by simp only [ne_eq, Addr.mk.injEq, true_and, and_true]; omega)]; exact e2
          have t2' : (wq.setCell ⟨g2, o.length * 3 + 1, none⟩ (.int .i64 (xt : Int))).frozen? ⟨g2, o.length * 3 + 2, none⟩ = false := by rw [World.frozen?_setCell]; exact t2
          generalize wq.setCell ⟨g2, o.length * 3 + 1, none⟩ (.int .i64 (xt : Int)) = ws at *
          have hadd : yp.size + xp.size ≤ 100000 := by omega
          clear z1 z2 e1 e2 t1 t2 HQ
          go_region
          go_wp2
          have HR3 : Hid (SpOwn (ws.setCell ⟨g2, o.length * 3 + 2, none⟩ (.string (yp ++ xp))).drew w.heap.size (.slice (some ⟨g2, 0, none⟩) (o.length + 1) cap2) (jnt (ys.take (k + 1))) ∧ Below w.heap.size w (ws.setCell ⟨g2, o.length * 3 + 2, none⟩ (.string (yp ++ xp))).drew) := hide ⟨by rw [HT2.out]; exact World.ownsRow.drew (SpOwn.set HQ2.out.1 (by simp) (f := 2) (by omega) rfl), (HQ2.out.2.setCell (p := ⟨g2, o.length * 3 + 2, none⟩) m3 _).drew⟩
          exact ⟨⟨k + 1, by omega, by go_num, _, rfl, HR3⟩, by simp [intOf]; omega⟩
    · have HO : Hid (SpOwn wr w.heap.size v (jnt ys) ∧ Below w.heap.size w wr) := hide ⟨by
        have := HR.out.1
        rw [List.take_of_length_le (by omega)] at this
        exact this, HR.out.2⟩
      clear HR
      go_wp2
      go_ret
      exact ⟨v, rfl, HO.out.1, HO.out.2⟩
end Go.Proofs.YtfiefklhhchebabDoor
