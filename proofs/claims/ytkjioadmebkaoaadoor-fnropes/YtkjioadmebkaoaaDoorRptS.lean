/- The model's functions over ropes, on: JoinRopes. The model's l12Part: a bough with its own, as a rope. The model's l12Split. The model's l12Split, at a tree. The model's SplitRope. -/
import Derived.Test.YtkjioadmebkaoaaDoorRptA
import Derived.Test.YtkjioadmebkaoaaDoorRopB
set_option linter.unusedVariables false
namespace Go.Proofs.YtkjioadmebkaoaaDoor
open Go.RowKit
open Doc1

theorem rtB_bo {o : Option Lm} (h : gdO o) : rtB (bo o) = fit o := by
  cases hf : fit o with
  | true =>
    unfold fit at hf
    simp at hf
    exact rtB_iff.2 ⟨o, bo_RO h hf.1 hf.2⟩
  | false =>
    rw [← Bool.not_eq_true, rtB_iff]
    rintro ⟨q, hq⟩
    obtain ⟨e, h1, h2, h3⟩ := RO_bo hq
    have : o = q := by
      cases o with
      | none =>
        cases q with
        | none => rfl
        | some u => exact absurd e.symm (pd_ne u 0)
      | some t =>
        cases q with
        | none => exact absurd e (pd_ne t 0)
        | some u =>
          have e : t.pd 0 = u.pd 0 := e
          have r1 := rd_pd t 0 [] h
          have r2 := rd_pd u 0 [] h1
          rw [e, r2] at r1
          simpa using r1.symm
    subst this
    unfold fit at hf
    simp at hf
    omega

theorem run_none_more (w : World) (ty : TypeId) (i : TypeInfo) (hi : Tryd.prog.info? 36 = some i) (b : Addr) (ad : Option Addr) (cap : Nat) : (Builtin.append_ #[24, 24] ty #[.slice (some b) 0 0, .slice ad 0 cap]).run Tryd.prog w = .ok (.slice (some b) 0 0) w := by
  cases ad <;> simp [Builtin.append_, run_underlying Tryd.underlying24, sizeOf, typeInfo, hi, Builtin.lenOf, Builtin.firstCells, storeCells, loadCells, loadCellsFrom]

/-- A row copied into an empty one of one's own. -/
theorem append_copy {ops : Array Oper} {rest : List Oper} {o : Oper} {a : Act} {Q : Exit → Act → World → Prop} (w : World) (hgd : o.guard = none) (s x : Operand)
    (ho : o.op = .call { callee := .builtin .append, args := #[s, x], argTypes := #[24, 24] }) (B : Nat) (b : Addr) (o0 : w.ownsRow B 36 5 (.slice (some b) 0 0) 0 []) (ad : Option Addr) (cap : Nat) (l : List Bg) (hl : l.length ≤ 100000)
    (hs : a.eval s = .slice (some b) 0 0) (hx : a.eval x = .slice ad l.length cap) (hin : BoIn w ad cap l) (hB : B ≤ w.heap.size)
    (h : ∀ v' w', BoOwn w' B v' l → Below B w w' → wpList Tryd.prog ops Q rest (a.put o.dst v') w') :
    wpList Tryd.prog ops Q (o :: rest) a w := by
  obtain ⟨i0, hi0, hz0, hz1, hz2⟩ := info_parts Tryd.infoBough
  by_cases h0 : l = []
  · subst h0
    refine wpList_plain hgd fun K hK => ?_
    have hr := run_none_more w o.type i0 hi0 b ad cap
    unfold Oper.wp
    simp [execOp, ho, resolve, invoke, builtin, hs, hx, hr, Result.andThen]
    exact hK _ _ (h _ _ o0 (Below.refl _ _))
  · obtain ⟨g, rfl, hg, hc⟩ := hin.ad h0
    have hp := List.length_pos_iff.2 h0
    have hnews : ∀ j u, (encBo l)[j]? = some u → w.cell? ((⟨g, 0, none⟩ : Addr).add j) = some u := fun j u hu => by
      rw [addr0]
      exact hc j u hu
    have hone : ∀ u ∈ encBo l, u.oneCell' = true := fun u hu => by
      unfold encBo at hu
      obtain ⟨b, -, hb2⟩ := List.mem_flatMap.1 hu
      simp [bgC] at hb2
      rcases hb2 with rfl | rfl | rfl | rfl | rfl <;> rfl
    refine wpList_append_loc _ hgd _ _ 24 ho B 36 i0 (.agg #[.int .i64 0, .int .i64 0, .string ⟨#[]⟩, .int .i64 0, .int .i64 0]) 5 48 Tryd.underlying24 hi0 hz0 hz1 hz2 rfl (by decide) _ _ _ hs o0 ⟨g, 0, none⟩ l.length cap (encBo l) hx (encBo_len l) hnews hone (by unfold maxLen; omega) (by omega) hB ?_ hp
    intro v3 w3 own3 grow3 loc3
    rw [Nat.zero_add] at own3
    exact h v3 w3 own3 (grown_belowB (Below.refl _ _) hB o0 grow3)

theorem bo_len (o : Option Lm) : (bo o).length = nbO o := by
  cases o with
  | none => rfl
  | some t => exact Lm.pd_len t 0

theorem bo_txt {o : Option Lm} (h : gdO o) : ∀ i (hi : i < (bo o).length), (bo o)[i].text.size ≤ 1048576 := by
  cases o with
  | none => intro i hi; simp [bo] at hi
  | some t =>
    have key : ∀ (t : Lm) (k : Nat), t.gd → ∀ b ∈ t.pd k, b.text.size ≤ 8 := by
      intro t
      induction t with
      | pc s => intro k hg b hb; simp only [Lm.pd, List.mem_singleton] at hb; subst hb; exact (gpc_bd (gd_pc.1 hg)).2
      | jn a b iha ihb =>
        intro k hg x hx
        obtain ⟨ga, gb⟩ := gd_jn.1 hg
        simp only [Lm.pd, List.mem_append, List.mem_singleton] at hx
        rcases hx with c | c | c
        · exact iha _ ga _ c
        · exact ihb _ gb _ c
        · subst c; show (0 : Nat) ≤ _; omega
    intro i hi
    have := key t 0 h _ (List.getElem_mem (l := t.pd 0) hi)
    show (t.pd 0)[i].text.size ≤ _
    omega

set_option maxRecDepth 100000 in
set_option maxHeartbeats 4000000 in
theorem joinRopesS {w : World} {a a2 : Option Addr} {cap cap2 : Nat} {l m : List Bg} (h : RIn w a cap l) (h2 : RIn w a2 cap2 m) :
    Calls Tryd.prog 19 #[.agg #[.slice a l.length cap], .agg #[.slice a2 m.length cap2]] w (RpPost w (jnL l m) (jnB l m)) := by
  obtain ⟨w1, hw1⟩ : ∃ w1, w1 = ((w.alloc (.cells #[.slice a l.length cap] 26)).alloc (.cells #[.slice a2 m.length cap2] 26)).alloc (.cells #[.slice none 0 0] 26) := ⟨_, rfl⟩
  obtain ⟨hs1, hb1, hc0, hc1, hc2⟩ := boxes3 w (.slice a l.length cap) (.slice a2 m.length cap2) (.slice none 0 0)
  rw [← hw1] at hs1 hb1 hc0 hc1 hc2
  have G1 := hide (goodRopeS (h.later hb1))
  have G2 := hide (fun w' (hb : Below w1.heap.size w1 w') => goodRopeS (h2.later (hb1.trans (hb.mono hb1.size))))
  have HB1 := hide hb1
  have HC0 := hide hc0
  have HC1 := hide hc1
  have HC2 := hide hc2
  unfold RpPost
  obtain ⟨L, hL⟩ : ∃ L, jnL l m = L := ⟨_, rfl⟩
  obtain ⟨bb, hbb⟩ : ∃ bb, jnB l m = bb := ⟨_, rfl⟩
  have HN : Hid ((rtB l && rtB m) = false → L = [] ∧ bb = false) := hide (fun c => by rw [← hL, ← hbb]; unfold jnL jnB; rw [c]; exact ⟨rfl, rfl⟩)
  have HY : Hid ((rtB l && rtB m) = true → L = okB (jo (rtO l) (rtO m)) ∧ bb = fit (jo (rtO l) (rtO m))) := hide (fun c => by rw [← hL, ← hbb]; unfold jnL jnB; rw [c]; exact ⟨rfl, rfl⟩)
  rw [hL, hbb]
  clear hL hbb
  cases hq1 : rtB l with
  | false =>
    rw [hq1, Bool.false_and] at HN
    obtain ⟨rfl, rfl⟩ := HN.out (by first | rfl | trivial)
    rw [hq1] at G1
    clear HN HY hq1 h h2 hb1 hc0 hc1 hc2
    go_enter Tryd.func19, Tryd.ntmps19
    go_wp2_with fail
    rw [← hw1]
    clear hw1
    refine G1.out.mono ?_
    rintro e w2 ⟨rfl, hb2⟩
    have HB2 : Hid (Below w.heap.size w w2) := hide (HB1.out.trans (hb2.mono HB1.out.size))
    have HD := hide (HC2.out.later hb2)
    have hc := HD.out.cell
    have hf := HD.out.fz
    clear hb2
    go_wp2
    refine bodyPost_ret (results_cell_tmp rfl _ _ (w.heap.size + 2) 26 _ (0, 0) _ (.bool false) rfl rfl (HD.out.put _) Tryd.underlying26 rfl Tryd.sizeRope) rfl ?_
    exact ⟨_, rfl, World.ownsRow_nil _ _ _ _, HB2.out.setCell (by show w.heap.size ≤ w.heap.size + 2; omega) _⟩
  | true =>
    cases hq2 : rtB m with
    | false =>
      rw [hq1, hq2, Bool.and_false] at HN
      obtain ⟨rfl, rfl⟩ := HN.out (by first | rfl | trivial)
      rw [hq1] at G1
      rw [hq2] at G2
      clear HN HY hq1 hq2 h h2 hb1 hc0 hc1 hc2
      go_enter Tryd.func19, Tryd.ntmps19
      go_wp2_with fail
      rw [← hw1]
      clear hw1
      refine G1.out.mono ?_
      rintro e w2 ⟨rfl, hb2⟩
      have HB2 : Hid (Below w.heap.size w w2) := hide (HB1.out.trans (hb2.mono HB1.out.size))
      have HD := hide (HC2.out.later hb2)
      have cc := (HC1.out.later hb2).cell
      have G3 := hide (G2.out w2 hb2)
      clear hb2
      go_wp2_with fail
      refine G3.out.mono ?_
      rintro e w3 ⟨rfl, hb3⟩
      have HB3 : Hid (Below w.heap.size w w3) := hide (HB2.out.trans (hb3.mono HB2.out.size))
      have HD3 := hide (HD.out.later hb3)
      have hc := HD3.out.cell
      have hf := HD3.out.fz
      clear hb3 cc
      go_wp2
      refine bodyPost_ret (results_cell_tmp rfl _ _ (w.heap.size + 2) 26 _ (0, 0) _ (.bool false) rfl rfl (HD3.out.put _) Tryd.underlying26 rfl Tryd.sizeRope) rfl ?_
      exact ⟨_, rfl, World.ownsRow_nil _ _ _ _, HB3.out.setCell (by show w.heap.size ≤ w.heap.size + 2; omega) _⟩
    | true =>
      rw [hq1, hq2] at HY
      obtain ⟨E1, E2⟩ := HY.out (by first | rfl | trivial)
      have e1 := rt_bo hq1
      have e2 := rt_bo hq2
      have ok1 := rt_ok l
      have ok2 := rt_ok m
      rw [hq1] at G1
      rw [hq2] at G2
      obtain ⟨x, hx⟩ : ∃ x, rtO l = x := ⟨_, rfl⟩
      obtain ⟨y, hy⟩ : ∃ y, rtO m = y := ⟨_, rfl⟩
      rw [hx] at e1 ok1 E1 E2
      rw [hy] at e2 ok2 E1 E2
      subst e1 e2
      have gj := jo_gd ok1.1 ok2.1
      have nj := jo_nb x y
      have sj := jo_sz x y
      have J := hide (fun w' (hb : Below w.heap.size w w') => l12Join_any x y a a2 cap cap2 w' (h.inn.later hb) (h2.inn.later hb) (by omega) (by omega))
      have GO := hide (fun (w' : World) (B : Nat) (v : Value) (ho : BoOwn w' B v (bo (jo x y))) => by
        obtain ⟨a3, c3, e3, hi3⟩ := ho.inn
        exact (show ∃ a3 c3, v = .slice a3 (bo (jo x y)).length c3 ∧ RIn w' a3 c3 (bo (jo x y)) from ⟨a3, c3, e3, hi3, by rw [bo_len]; omega, bo_txt gj⟩))
      have G5 := hide (fun (w' : World) (a3 : Option Addr) (c3 : Nat) (hr : RIn w' a3 c3 (bo (jo x y))) => goodRopeS hr)
      rw [rtB_bo gj] at G5
      unfold BiPost at J
      obtain ⟨L2, hL2⟩ : ∃ L2, bo (jo x y) = L2 := ⟨_, rfl⟩
      have hL2l : L2.length ≤ 1000 := by rw [← hL2, bo_len]; omega
      obtain ⟨f2, hf2⟩ : ∃ f2, fit (jo x y) = f2 := ⟨_, rfl⟩
      have HE : Hid (f2 = true → L = L2) := hide (fun c => by rw [E1]; unfold okB; rw [hf2, c, hL2]; rfl)
      have HE2 : Hid (f2 = false → L = []) := hide (fun c => by rw [E1]; unfold okB; rw [hf2, c]; rfl)
      obtain rfl : bb = f2 := by rw [E2]; exact hf2
      simp only [hL2, hf2] at J GO G5
      have hlx : (bo x).length ≤ 1000 := by rw [bo_len]; omega
      have hly : (bo y).length ≤ 1000 := by rw [bo_len]; omega
      have hcx := h.inn.mx
      have hcy := h2.inn.mx
      unfold maxLen at hcx hcy
      have hcx2 := h.inn.le
      have hcy2 := h2.inn.le
      obtain ⟨X, hX⟩ : ∃ X, (bo x).length = X := ⟨_, rfl⟩
      obtain ⟨Y, hY⟩ : ∃ Y, (bo y).length = Y := ⟨_, rfl⟩
      simp only [hX, hY] at *
      clear HN HY E1 E2 hx hy h h2 hb1 hc0 hc1 hc2 hL2 hf2 gj nj sj ok1 ok2 hq1 hq2 hX hY
      go_enter Tryd.func19, Tryd.ntmps19
      go_wp2_with fail
      rw [← hw1]
      clear hw1
      refine G1.out.mono ?_
      rintro e w2 ⟨rfl, hb2⟩
      have HB2 : Hid (Below w.heap.size w w2) := hide (HB1.out.trans (hb2.mono HB1.out.size))
      have HD := hide (HC2.out.later hb2)
      have HF0 := hide (HC0.out.later hb2)
      have HF1 := hide (HC1.out.later hb2)
      have cc := HF1.out.cell
      have G3 := hide (G2.out w2 hb2)
      clear hb2 HC0 HC1 HC2
      go_wp2_with fail
      refine G3.out.mono ?_
      rintro e w3 ⟨rfl, hb3⟩
      have HB3 : Hid (Below w.heap.size w w3) := hide (HB2.out.trans (hb3.mono HB2.out.size))
      have HD3 := hide (HD.out.later hb3)
      obtain ⟨w4, hw4⟩ : ∃ w4, w4 = w3.alloc (.cells #[] 36) := ⟨_, rfl⟩
      have hb4 : Below w3.heap.size w3 w4 := by rw [hw4]; exact (Below.refl _ _).alloc (Nat.le_refl _) _
      have c0 := ((HF0.out.later hb3).later hb4).cell
      have c1 := ((HF1.out.later hb3).later hb4).cell
      have c0' := c0
      have c1' := c1
      rw [hw4] at c0' c1'
      have HB4 : Hid (Below w.heap.size w w4) := hide (HB3.out.trans (hb4.mono HB3.out.size))
      have HD4 := hide (HD3.out.later hb4)
      have J2 := hide (J.out w4 HB4.out)
      clear hb3 cc HF0 HF1 hb4
      have o4 : w4.ownsRow w3.heap.size 36 5 (.slice (some ⟨w3.heap.size, 0, none⟩) 0 0) 0 [] := by rw [hw4]; exact own_new w3 36 #[] 0 5 rfl (by omega)
      have HO4 := hide o4
      have hs34 : w4.heap.size = w3.heap.size + 1 := by rw [hw4]; simp
      have HS34 := hide hs34
      clear o4 hs34
      go_wp2_with fail
      rw [← hw4]
      clear hw4 c0 c1 c0' c1'
      refine J2.out.mono ?_
      rintro e w5 ⟨a5, c5, rfl, hi5, hb5⟩
      have HO5 := hide (own_below HO4.out hb5)
      have HI5 := hide hi5
      have HB5 : Hid (Below w.heap.size w w5) := hide (HB4.out.trans (hb5.mono HB4.out.size))
      have HD5 := hide (HD4.out.later hb5)
      have hs5 : w3.heap.size ≤ w5.heap.size := by have := hb5.size; have := HS34.out; omega
      have HS3 := hide HB3.out.size
      have hlt3 : w.heap.size + 2 < w3.heap.size := HD3.out.lt
      clear hb5 hi5 HO4 HB4 HD4
      go_wp2_with (first
        | (at_builtin; go_loud (refine append_copy _ rfl _ _ rfl w3.heap.size ⟨w3.heap.size, 0, none⟩ HO5.out a5 c5 L2 (by omega) rfl rfl HI5.out hs5 ?_); intro v6 w6 own6 hb6; obtain ⟨a6, c6, rfl, hr6⟩ := GO.out w6 _ v6 own6; have HO6 := hide own6; have HR6 := hide hr6; have HB6 : Hid (Below w.heap.size w w6) := hide (HB5.out.trans (hb6.mono HS3.out)); have HD6 : Hid (CellR w6 (w.heap.size + 2) (.slice none 0 0)) := hide (by unfold CellR; rw [hb6.block _ hlt3]; exact HD5.out); clear own6 hr6 hb6 HI5 HO5 HD5)
        | fail)
      obtain ⟨w7, hw7⟩ : ∃ w7, w7 = w6.alloc (.cells #[.slice a6 L2.length c6] 26) := ⟨_, rfl⟩
      have hb7 : Below w6.heap.size w6 w7 := by rw [hw7]; exact (Below.refl _ _).alloc (Nat.le_refl _) _
      have hx7 : CellR w7 w6.heap.size (.slice a6 L2.length c6) := by rw [hw7]; exact CellR.new w6 _
      have HX7 := hide hx7
      have HB7 : Hid (Below w.heap.size w w7) := hide (HB6.out.trans (hb7.mono HB6.out.size))
      have HD7 := hide (HD6.out.later hb7)
      have HO7 := hide (own_below HO6.out hb7)
      have G7 := hide (G5.out w7 a6 c6 (HR6.out.later hb7))
      have HS6 : Hid (w.heap.size + 2 < w6.heap.size) := hide HD6.out.lt
      rw [← hw7]
      clear hw7 hb7 hx7 HO6 HR6 HB6 HD6
      refine G7.out.mono ?_
      rintro e w8 ⟨rfl, hb8⟩
      have HX8 := hide (HX7.out.later hb8)
      have HB8 : Hid (Below w.heap.size w w8) := hide (HB7.out.trans (hb8.mono HB7.out.size))
      have HD8 := hide (HD7.out.later hb8)
      have HO8 := hide (own_below HO7.out hb8)
      have q1 := HX8.out.cell
      have q2 := HD8.out.cell
      have q3 := HD8.out.fz
      clear hb8 HX7 HB7 HD7 HO7 G7
      cases bb with
      | true =>
        have hLL := HE.out (by first | rfl | trivial)
        have HO9 := hide (own_aside HO8.out (g := w.heap.size + 2) hlt3 0 (.slice a6 L2.length c6))
        clear HE HE2
        go_wp2
        refine bodyPost_ret (results_cell_tmp rfl _ _ (w.heap.size + 2) 26 _ (0, 0) _ (.bool true) rfl rfl (HD8.out.put _) Tryd.underlying26 rfl Tryd.sizeRope) rfl ?_
        exact ⟨_, rfl, by rw [hLL]; exact own_mono HO9.out HS3.out, HB8.out.setCell (by show w.heap.size ≤ w.heap.size + 2; omega) _⟩
      | false =>
        have hLL := HE2.out (by first | rfl | trivial)
        clear HE HE2
        go_wp2
        refine bodyPost_ret (results_cell_tmp rfl _ _ (w.heap.size + 2) 26 _ (0, 0) _ (.bool false) rfl rfl (HD8.out.put _) Tryd.underlying26 rfl Tryd.sizeRope) rfl ?_
        exact ⟨_, rfl, by rw [hLL]; exact World.ownsRow_nil _ _ _ _, HB8.out.setCell (by show w.heap.size ≤ w.heap.size + 2; omega) _⟩
end Go.Proofs.YtkjioadmebkaoaaDoor

set_option linter.unusedVariables false
namespace Go.Proofs.YtkjioadmebkaoaaDoor
open Go.RowKit
open Doc1

theorem seg_at {l : List Bg} {f k : Nat} {t : Lm} (h : SG l f (k + 1) t) (j : Nat) (hj : j < (t.pd 0).length) (h2 : f + j < l.length) : l[f + j] = shf f (t.pd 0)[j] := by
  have e := h.seg
  have hp := pd_shf t 0 f
  rw [Nat.zero_add] at hp
  rw [← hp] at e
  have hlt := h.lt
  have hl := Lm.pd_len t 0
  have e2 : ((l.take (k + 1)).drop f)[j]? = ((t.pd 0).map (shf f))[j]? := by rw [e]
  rw [List.getElem?_drop, List.getElem?_take, if_pos (by omega), List.getElem?_map, List.getElem?_eq_getElem hj, List.getElem?_eq_getElem h2] at e2
  simpa using e2

set_option maxRecDepth 100000 in
set_option maxHeartbeats 8000000 in
theorem l12Part_any {l : List Bg} {k f : Nat} {t : Lm} (hs : SG l f (k + 1) t) {g cap : Nat} {w : World} (hl : l.length ≤ 200) (hcl : l.length ≤ cap) (hcm : cap ≤ 9223372036854775807) (hx : ∀ i (hi : i < l.length), l[i].text.size ≤ 1048576) (hc : CLs w g (encBo l)) (hg : g < w.heap.size) :
    Calls Tryd.prog 147 #[.slice (some ⟨g, 0, none⟩) l.length cap, .int .i64 (k : Int)] w (OwPost w (t.pd 0)) := by
  obtain ⟨i0, hi0, hz0, hz1, hz2⟩ := info_parts Tryd.infoBough
  unfold OwPost
  obtain ⟨hf1, hf2, hgd⟩ := hs.lt
  have FS := hide (l12First_any l g cap hl hcl hcm hx k w (by omega) hc hg)
  unfold FsPost at FS
  rw [frs_some hs] at FS
  have np := Lm.nb_pos t
  have lp := Lm.pd_len t 0
  have HC := hide hc
  have HSG := hide (seg_at hs)
  have ek : IntKind.i64.wrap ((k : Int) + 1) = (k : Int) + 1 := by rw [IntKind.wrap_i64]; omega
  have ek1 : decide (((k : Int) + 1) < 0) = false := by rw [decide_eq_false_iff_not]; omega
  have ek2 : ((k : Int) + 1).toNat = k + 1 := by omega
  obtain ⟨n, hn⟩ : ∃ n, k + 1 - f = n := ⟨_, rfl⟩
  have hn2 : n = t.nb := by omega
  clear hc hx hs
  go_enter Tryd.func147, Tryd.ntmps147
  go_wp2_with fail
  refine FS.out.mono ?_
  rintro e w1 ⟨rfl, hb1⟩
  have HB1 := hide hb1
  clear hb1 FS
  go_wp2
  go_loopw [6, 18] (fun v vi wr => ∃ (j : Nat), j ≤ n ∧ vi = .int .i64 (j : Int) ∧ ∃ v0, v0 = v ∧ Hid (BoOwn wr w.heap.size v0 ((t.pd 0).take j) ∧ Below w.heap.size w wr)) (fun _ vi _ => n - (intOf vi).toNat)
  case atStart => exact ⟨0, by omega, rfl, _, rfl, hide ⟨by rw [List.take_zero]; exact World.ownsRow_nil _ _ _ _, HB1.out⟩⟩
  case round =>
    obtain ⟨j, hj, rfl, v, hv0, HR⟩ := hrel
    subst hv0
    have hB := HR.out.2.size
    by_cases hlt : j < n
    · have hlt2 : j < (t.pd 0).length := by omega
      have hlt3 : f + j < l.length := by omega
      obtain ⟨b0, b1, b2, b3, b4⟩ := (HC.out.later HR.out.2 hg).bgat (f + j) hlt3
      have hbd := pd_bd t 0 _ (List.getElem_mem hlt2)
      rw [HSG.out j hlt2 hlt3] at b0 b1 b2 b3 b4
      have hll : ((t.pd 0).take j).length = j := by rw [List.length_take]; omega
      have HT : Hid ((t.pd 0).take (j + 1) = (t.pd 0).take j ++ [(t.pd 0)[j]]) := hide (by rw [List.take_succ_eq_append_getElem hlt2])
      obtain ⟨⟨xl, xr, xt, xs, xd⟩, hx⟩ : ∃ x, (t.pd 0)[j] = x := ⟨_, rfl⟩
      rw [hx] at b0 b1 b2 b3 b4 hbd HT
      obtain ⟨L, hL⟩ : ∃ L, (t.pd 0).take j = L := ⟨_, rfl⟩
      rw [hL] at HR hll HT
      have hLl : L.length ≤ 10000 := by omega
      rw [show (f + j) * 5 = f * 5 + j * 5 by omega] at b0 b1 b2 b3 b4
      clear hx hL HC HSG
      simp only at hbd
      by_cases h0 : 0 ≤ xl
      · have ew1 : IntKind.i64.wrap (xl + (f : Int) - (f : Int)) = xl := by rw [IntKind.wrap_i64]; omega
        have ew2 : IntKind.i64.wrap (xr + (f : Int) - (f : Int)) = xr := by rw [IntKind.wrap_i64]; omega
        have e0 : decide ((0 : Int) ≤ xl + (f : Int)) = true := decide_eq_true (by omega)
        simp only [shf, if_pos h0] at b0 b1 b2 b3 b4
        go_wp2_with (at_builtin; go_loud (refine wpList_append_loc _ rfl _ _ 24 rfl w.heap.size 36 i0 (.agg #[.int .i64 0, .int .i64 0, .string ⟨#[]⟩, .int .i64 0, .int .i64 0]) 5 48 Tryd.underlying24 hi0 hz0 hz1 hz2 rfl (by decide) _ _ _ rfl (World.ownsRow.alloc (World.ownsRow.alloc HR.out.1 _) _) ⟨wr.heap.size + 1, 0, none⟩ 1 1 (bgC ⟨xl, xr, xt, xs, xd⟩) rfl rfl (cell5_at _ _ (by simp) _ _ _ _ _ _) (by intro u hu; simp [bgC] at hu; rcases hu with rfl | rfl | rfl | rfl | rfl <;> rfl) (by unfold maxLen; omega) (by omega) (by simp; omega) ?_); intro v5 w5 own5 grow5 loc5; have HR5 : Hid (BoOwn w5 w.heap.size v5 ((t.pd 0).take (j + 1)) ∧ Below w.heap.size w w5) := hide ⟨(by rw [HT.out]; exact BoOwn.app own5), below_append (HR.out.2.alloc hB _) (World.ownsRow.alloc HR.out.1 _) (by simp; omega) grow5⟩; clear own5 grow5 loc5 HR)
        exact ⟨⟨j + 1, by omega, by go_num, v5, rfl, HR5⟩, by simp [intOf]; omega⟩
      · have e0 : decide ((0 : Int) ≤ xl) = false := decide_eq_false h0
        simp only [shf, if_neg h0] at b0 b1 b2 b3 b4
        go_wp2_with (at_builtin; go_loud (refine wpList_append_loc _ rfl _ _ 24 rfl w.heap.size 36 i0 (.agg #[.int .i64 0, .int .i64 0, .string ⟨#[]⟩, .int .i64 0, .int .i64 0]) 5 48 Tryd.underlying24 hi0 hz0 hz1 hz2 rfl (by decide) _ _ _ rfl (World.ownsRow.alloc (World.ownsRow.alloc HR.out.1 _) _) ⟨wr.heap.size + 1, 0, none⟩ 1 1 (bgC ⟨xl, xr, xt, xs, xd⟩) rfl rfl (cell5_at _ _ (by simp) _ _ _ _ _ _) (by intro u hu; simp [bgC] at hu; rcases hu with rfl | rfl | rfl | rfl | rfl <;> rfl) (by unfold maxLen; omega) (by omega) (by simp; omega) ?_); intro v5 w5 own5 grow5 loc5; have HR5 : Hid (BoOwn w5 w.heap.size v5 ((t.pd 0).take (j + 1)) ∧ Below w.heap.size w w5) := hide ⟨(by rw [HT.out]; exact BoOwn.app own5), below_append (HR.out.2.alloc hB _) (World.ownsRow.alloc HR.out.1 _) (by simp; omega) grow5⟩; clear own5 grow5 loc5 HR)
        exact ⟨⟨j + 1, by omega, by go_num, v5, rfl, HR5⟩, by simp [intOf]; omega⟩
    · have HE : Hid (BoOwn wr w.heap.size v (t.pd 0) ∧ Below w.heap.size w wr) := hide (by
        have := HR.out
        rw [List.take_of_length_le (by omega)] at this
        exact this)
      clear HR
      go_wp2
      go_ret
      exact ⟨v, rfl, HE.out.1, HE.out.2⟩
end Go.Proofs.YtkjioadmebkaoaaDoor

set_option linter.unusedVariables false
namespace Go.Proofs.YtkjioadmebkaoaaDoor
open Go.RowKit
open Doc1

/-- Two rows of boughs that may lie in what was there. -/
def SqPost (w : World) (o1 o2 : Option Lm) (e : Ending) (w' : World) : Prop := ∃ a1 c1 a2 c2, e = .returned (.tuple #[.slice a1 (bo o1).length c1, .slice a2 (bo o2).length c2]) ∧ BoIn w' a1 c1 (bo o1) ∧ BoIn w' a2 c2 (bo o2) ∧ Below w.heap.size w w'

set_option maxRecDepth 100000 in
set_option maxHeartbeats 4000000 in
theorem l12Split_zero (o : Option Lm) (a : Option Addr) (cap : Nat) (w : World) (h : BoIn w a cap (bo o)) :
    Calls Tryd.prog 75 #[.slice a (bo o).length cap, .int .i64 0] w (SqPost w none o) := by
  have H := hide h
  unfold SqPost
  obtain ⟨L, hL⟩ : ∃ L, bo o = L := ⟨_, rfl⟩
  rw [hL] at H ⊢
  clear h hL
  go_enter Tryd.func75, Tryd.ntmps75
  go_wp2
  go_ret2
  exact ⟨none, 0, _, _, rfl, BoIn.nil _ _ _ (by decide), H.out, Below.refl _ _⟩

set_option maxRecDepth 100000 in
set_option maxHeartbeats 4000000 in
theorem l12Split_all (t : Lm) (a : Option Addr) (cap : Nat) (w : World) (h : BoIn w a cap (bo (some t))) (h0 : 0 < t.sz) (hn : t.nb ≤ 10000) :
    Calls Tryd.prog 75 #[.slice a (bo (some t)).length cap, .int .i64 (t.sz : Int)] w (SqPost w (some t) none) := by
  have H := hide h
  have Z := hide (l12Size_any h (by rw [bo_len]; show t.nb ≤ _; omega))
  rw [lastZ_bo, show szO (some t) = t.sz from rfl] at Z
  unfold SqPost
  obtain ⟨L, hL⟩ : ∃ L, bo (some t) = L := ⟨_, rfl⟩
  rw [hL] at H Z ⊢
  have h1 : ((t.sz : Int) == 0) = false := by rw [beq_eq_false_iff_ne]; omega
  clear h hL
  go_enter Tryd.func75, Tryd.ntmps75
  go_wp2_with fail
  refine Z.out.mono ?_
  rintro e w1 ⟨rfl, rfl⟩
  go_wp2
  go_ret2
  exact ⟨_, _, none, 0, rfl, H.out, BoIn.nil _ _ _ (by decide), Below.refl _ _⟩

set_option maxRecDepth 100000 in
set_option maxHeartbeats 4000000 in
theorem l12Split_pc (s : ByteArray) (n : Nat) (a : Option Addr) (cap : Nat) (w : World) (h : BoIn w a cap (bo (some (.pc s)))) (h0 : 0 < n) (hn : n < s.size) (hs : s.size ≤ 100000) :
    Calls Tryd.prog 75 #[.slice a (bo (some (.pc s))).length cap, .int .i64 (n : Int)] w (SqPost w (some (.pc (s.extract 0 n))) (some (.pc (s.extract n s.size)))) := by
  have Z := hide (l12Size_any h (by rw [bo_len]; show 1 ≤ _; omega))
  rw [lastZ_bo, show szO (some (.pc s)) = s.size from rfl] at Z
  obtain ⟨g, rfl, hg, hc⟩ := h.ad (by simp [bo, Lm.pd])
  have hcl := h.le
  have hcm := h.mx
  unfold maxLen at hcm
  obtain ⟨b0, b1, b2, b3, b4⟩ := hc.bgat 0 (by simp [bo, Lm.pd])
  have hlen : (bo (some (.pc s))).length = 1 := by simp [bo, Lm.pd]
  rw [hlen] at Z hcl ⊢
  have b0' : w.cell? ⟨g, 0, none⟩ = some (.int .i64 (-1)) := b0
  have b1' : w.cell? ⟨g, 1, none⟩ = some (.int .i64 (-1)) := b1
  have b2' : w.cell? ⟨g, 2, none⟩ = some (.string s) := b2
  have b3' : w.cell? ⟨g, 3, none⟩ = some (.int .i64 (s.size : Int)) := b3
  have b4' : w.cell? ⟨g, 4, none⟩ = some (.int .i64 0) := b4
  have h1 : ((n : Int) == 0) = false := by rw [beq_eq_false_iff_ne]; omega
  have h2 : ((n : Int) == (s.size : Int)) = false := by rw [beq_eq_false_iff_ne]; omega
  have hle : (n : Int) ≤ (s.size : Int) := by omega
  have z1 : (s.extract 0 n).size ≤ 1000000 := by rw [ByteArray.size_extract]; omega
  have z2 : (s.extract n s.size).size ≤ 1000000 := by rw [ByteArray.size_extract]; omega
  have P1 := hide (fun w => l12Piece_any (s.extract 0 n) w z1)
  have P2 := hide (fun w => l12Piece_any (s.extract n s.size) w z2)
  unfold OwPost at P1 P2
  unfold SqPost
  obtain ⟨L1, hL1⟩ : ∃ L, bo (some (.pc (s.extract 0 n))) = L := ⟨_, rfl⟩
  obtain ⟨L2, hL2⟩ : ∃ L, bo (some (.pc (s.extract n s.size))) = L := ⟨_, rfl⟩
  rw [hL1] at P1 ⊢
  rw [hL2] at P2 ⊢
  obtain ⟨w1, hw1⟩ : ∃ w1, w1 = w.alloc (.cells #[.int .i64 (-1), .int .i64 (-1), .string s, .int .i64 (s.size : Int), .int .i64 0] 36) := ⟨_, rfl⟩
  have hb1 : Below w.heap.size w w1 := by rw [hw1]; exact (Below.refl _ _).alloc (Nat.le_refl _) _
  have KC : Hid (∀ w', Below w1.heap.size w1 w' → w'.cell? ⟨w.heap.size, 2, none⟩ = some (.string s)) := hide (fun w' hb => by
    have e : w'.heap[w.heap.size]? = some (.cells #[.int .i64 (-1), .int .i64 (-1), .string s, .int .i64 (s.size : Int), .int .i64 0] 36) := by
      rw [hb.block _ (by rw [hw1]; simp), hw1]; exact heap_alloc_new w _
    rw [cell_of_row _ _ 2 _ _ (0, 0) e]; rfl)
  have HB1 := hide hb1
  clear h hc b0 b1 b2 b3 b4 hL1 hL2 z1 z2 hlen hb1
  go_enter Tryd.func75, Tryd.ntmps75
  go_wp2_with fail
  refine Z.out.mono ?_
  rintro e w0 ⟨rfl, rfl⟩
  clear Z
  go_wp2_with fail
  rw [← hw1]
  clear hw1
  go_region_held3 (fun w' => w'.cell? ⟨w0.heap.size, 2, none⟩ = some (.string s))
    (first | assumption | exact KC.out _ (Below.refl _ _) | exact KC.out _ (Below.refl _ _).drew | exact KC.out _ hq2 | exact KC.out _ hq1)
    (first
      | (go_at_call 84; refine (P2.out _).mono ?_; rintro e w3 ⟨v3, rfl, o3, hb3⟩; obtain ⟨a3, c3, rfl, i3⟩ := o3.inn; have I3 := hide i3; have I2' := hide (I2.out.later hb3); have hq2 : Below w1.heap.size w1 w3 := hq1.trans (hb3.mono hq1.size); clear o3 i3 hb3)
      | (go_at_call 84; refine (P1.out _).mono ?_; rintro e w2 ⟨v2, rfl, o2, hb2⟩; obtain ⟨a2, c2, rfl, i2⟩ := o2.inn; have I2 := hide i2; have hq1 : Below w1.heap.size w1 w2 := (Below.refl _ _).drew.trans hb2; clear o2 i2 hb2))
  all_goals
    go_wp2
    go_ret2
    exact ⟨_, _, _, _, rfl, I2'.out, I3.out, HB1.out.trans (hq2.mono HB1.out.size)⟩
end Go.Proofs.YtkjioadmebkaoaaDoor

set_option linter.unusedVariables false
namespace Go.Proofs.YtkjioadmebkaoaaDoor
open Go.RowKit
open Doc1

theorem sg_jn {l : List Bg} {f E : Nat} {a b : Lm} (h : SG l f E (.jn a b)) : ∃ m e, e + 1 = E ∧ SG l f m a ∧ SG l m e b ∧ l[e]? = some ⟨(m : Int) - 1, (e : Int) - 1, eT, ((a.sz + b.sz : Nat) : Int), ((max a.dp b.dp + 1 : Nat) : Int)⟩ := by
  cases h with
  | jn s1 s2 hr => exact ⟨_, _, rfl, s1, s2, hr⟩

set_option maxRecDepth 100000 in
set_option maxHeartbeats 8000000 in
theorem l12Split_jn (p q : Lm) (n : Nat) (a : Option Addr) (cap : Nat) (w : World) (h : BoIn w a cap (bo (some (.jn p q)))) (h0 : 0 < n) (hn : n < p.sz + q.sz) (hg : (Lm.jn p q).gd) (hnb : (Lm.jn p q).nb ≤ 200) (hs : p.sz + q.sz ≤ 100000)
    (iha : ∀ (m : Nat) (a : Option Addr) (cap : Nat) (w : World), BoIn w a cap (bo (some p)) → m ≤ p.sz → Calls Tryd.prog 75 #[.slice a (bo (some p)).length cap, .int .i64 (m : Int)] w (SqPost w (spl p m).1 (spl p m).2))
    (ihb : ∀ (m : Nat) (a : Option Addr) (cap : Nat) (w : World), BoIn w a cap (bo (some q)) → m ≤ q.sz → Calls Tryd.prog 75 #[.slice a (bo (some q)).length cap, .int .i64 (m : Int)] w (SqPost w (spl q m).1 (spl q m).2))
    (hp0 : 0 < p.sz) (za : ∀ m, m ≤ p.sz → szO (spl p m).2 ≤ 100000) (zb : ∀ m, m ≤ q.sz → szO (spl q m).1 ≤ 100000) :
    Calls Tryd.prog 75 #[.slice a (bo (some (.jn p q))).length cap, .int .i64 (n : Int)] w (SqPost w (spl (.jn p q) n).1 (spl (.jn p q) n).2) := by
  have hbl : (bo (some (.jn p q))).length = p.nb + q.nb + 1 := by rw [bo_len]; rfl
  have hnb2 : p.nb + q.nb + 1 ≤ 200 := hnb
  have np := Lm.nb_pos p
  have nq := Lm.nb_pos q
  have Z := hide (l12Size_any h (by omega))
  rw [lastZ_bo, show szO (some (.jn p q)) = p.sz + q.sz from rfl] at Z
  obtain ⟨g, rfl, hgb, hc⟩ := h.ad (by intro c; rw [c] at hbl; simp at hbl)
  have hcl := h.le
  have hcm := h.mx
  unfold maxLen at hcm
  have sg : SG (bo (some (.jn p q))) 0 (bo (some (.jn p q))).length (.jn p q) := SG.rp.2 ⟨rfl, hg⟩
  have tx := bo_txt (o := some (.jn p q)) hg
  obtain ⟨L, hL⟩ : ∃ L, bo (some (.jn p q)) = L := ⟨_, rfl⟩
  rw [hL] at Z hc hcl sg tx hbl h ⊢
  rw [hbl] at sg
  obtain ⟨m, e, he, s1, s2, hr⟩ : ∃ m e, e + 1 = p.nb + q.nb + 1 ∧ SG L 0 m p ∧ SG L m e q ∧ L[e]? = some ⟨(m : Int) - 1, (e : Int) - 1, eT, ((p.sz + q.sz : Nat) : Int), ((max p.dp q.dp + 1 : Nat) : Int)⟩ := sg_jn sg
  have m1 := s1.lt.1
  have m2 := s2.lt.1
  obtain ⟨i, hi⟩ : ∃ i, m = i + 1 := ⟨m - 1, by omega⟩
  obtain ⟨j, hj⟩ : ∃ j, e = j + 1 := ⟨e - 1, by omega⟩
  subst hi hj
  have heL : j + 1 < L.length := by omega
  obtain ⟨b0, b1, b2, b3, b4⟩ := hc.bgat (j + 1) heL
  have hx : L[j + 1] = ⟨((i + 1 : Nat) : Int) - 1, ((j + 1 : Nat) : Int) - 1, eT, ((p.sz + q.sz : Nat) : Int), ((max p.dp q.dp + 1 : Nat) : Int)⟩ := (List.getElem_eq_iff _).2 hr
  rw [hx] at b0 b1 b2 b3 b4
  rw [show ((i + 1 : Nat) : Int) - 1 = (i : Int) by omega] at b0
  rw [show ((j + 1 : Nat) : Int) - 1 = (j : Int) by omega] at b1
  simp only at b0 b1 b2 b3 b4
  obtain ⟨dp, hdp⟩ : ∃ d : Int, ((max p.dp q.dp + 1 : Nat) : Int) = d := ⟨_, rfl⟩
  rw [hdp] at b4
  obtain ⟨zz, hzz⟩ : ∃ d : Int, ((p.sz + q.sz : Nat) : Int) = d := ⟨_, rfl⟩
  rw [hzz] at b3 Z
  have P1 := hide (fun w' (hb : Below w.heap.size w w') => l12Part_any s1 (w := w') (by omega) hcl hcm tx (hc.later hb hgb) (Nat.lt_of_lt_of_le hgb hb.size))
  have P2 := hide (fun w' (hb : Below w.heap.size w w') => l12Part_any s2 (w := w') (by omega) hcl hcm tx (hc.later hb hgb) (Nat.lt_of_lt_of_le hgb hb.size))
  unfold OwPost at P1 P2
  rw [show p.pd 0 = bo (some p) from rfl] at P1
  rw [show q.pd 0 = bo (some q) from rfl] at P2
  have Z1 := hide (fun (w' : World) (a : Option Addr) (c : Nat) (h : BoIn w' a c (bo (some p))) => l12Size_any h (by rw [bo_len]; show p.nb ≤ _; omega))
  simp only [lastZ_bo, show szO (some p) = p.sz from rfl] at Z1
  have n1 := spl_nb p n
  have n2 := spl_nb q (n - p.sz)
  have J1 := hide (fun (w' : World) (a b : Option Addr) (ca cb : Nat) (hz : n ≤ p.sz) (ha : BoIn w' a ca (bo (spl p n).2)) (hb : BoIn w' b cb (bo (some q))) => l12Join_any _ _ a b ca cb w' ha hb (by show nbO (spl p n).2 + q.nb ≤ _; omega) (by have := za n hz; show szO (spl p n).2 + q.sz ≤ _; omega))
  have J2 := hide (fun (w' : World) (a b : Option Addr) (ca cb : Nat) (hz : n - p.sz ≤ q.sz) (ha : BoIn w' a ca (bo (some p))) (hb : BoIn w' b cb (bo (spl q (n - p.sz)).1)) => l12Join_any _ _ a b ca cb w' ha hb (by show p.nb + nbO (spl q (n - p.sz)).1 ≤ _; omega) (by have := zb (n - p.sz) hz; show p.sz + szO (spl q (n - p.sz)).1 ≤ _; omega))
  unfold BiPost at J1 J2
  have I1 := hide (fun a cap w (h : BoIn w a cap (bo (some p))) (hz : n ≤ p.sz) => iha n a cap w h hz)
  have I2 := hide (fun a cap w (h : BoIn w a cap (bo (some q))) (hz : n - p.sz ≤ q.sz) => ihb (n - p.sz) a cap w h hz)
  unfold SqPost at I1 I2 ⊢
  have HX : Hid (spl (.jn p q) n = if n < p.sz then ((spl p n).1, jo (spl p n).2 (some q)) else (jo (some p) (spl q (n - p.sz)).1, (spl q (n - p.sz)).2)) := hide (spl_in p q (by omega) (by omega) hp0)
  obtain ⟨X1, X2⟩ : (n < p.sz → (spl (.jn p q) n).1 = (spl p n).1 ∧ (spl (.jn p q) n).2 = jo (spl p n).2 (some q)) ∧ (¬ n < p.sz → (spl (.jn p q) n).1 = jo (some p) (spl q (n - p.sz)).1 ∧ (spl (.jn p q) n).2 = (spl q (n - p.sz)).2) := ⟨fun c => by rw [HX.out, if_pos c]; exact ⟨rfl, rfl⟩, fun c => by rw [HX.out, if_neg c]; exact ⟨rfl, rfl⟩⟩
  have HX1 := hide X1
  have HX2 := hide X2
  obtain ⟨A, hA⟩ : ∃ A, bo (spl (.jn p q) n).1 = A := ⟨_, rfl⟩
  obtain ⟨B, hB⟩ : ∃ B, bo (spl (.jn p q) n).2 = B := ⟨_, rfl⟩
  have HA1 : Hid (n < p.sz → A = bo (spl p n).1 ∧ B = bo (jo (spl p n).2 (some q))) := hide (fun c => by rw [← hA, ← hB, (X1 c).1, (X1 c).2]; exact ⟨rfl, rfl⟩)
  have HA2 : Hid (¬ n < p.sz → A = bo (jo (some p) (spl q (n - p.sz)).1) ∧ B = bo (spl q (n - p.sz)).2) := hide (fun c => by rw [← hA, ← hB, (X2 c).1, (X2 c).2]; exact ⟨rfl, rfl⟩)
  rw [hA, hB]
  have h1 : ((n : Int) == 0) = false := by rw [beq_eq_false_iff_ne]; omega
  have h2 : ((n : Int) == zz) = false := by rw [beq_eq_false_iff_ne]; omega
  have e0 : decide ((i : Int) < 0) = false := by rw [decide_eq_false_iff_not]; omega
  obtain ⟨N, hN⟩ : ∃ N, L.length = N := ⟨_, rfl⟩
  rw [hN] at P1 P2 Z hcl heL hbl ⊢
  have ew : IntKind.i64.wrap ((N : Int) - 1) = ((j + 1 : Nat) : Int) := by rw [IntKind.wrap_i64]; omega
  obtain ⟨E, hE⟩ : ∃ E, j + 1 = E := ⟨_, rfl⟩
  rw [hE] at ew b0 b1 b2 b3 b4 heL
  obtain ⟨tE, htE⟩ : ∃ t : ByteArray, eT = t := ⟨_, rfl⟩
  rw [htE] at b2
  have hN200 : N ≤ 200 := by omega
  have HJN := hide (show i < N ∧ j < N by omega)
  obtain ⟨w1, hw1⟩ : ∃ w1, w1 = w.alloc (.cells #[.int .i64 (i : Int), .int .i64 (j : Int), .string tE, .int .i64 zz, .int .i64 dp] 36) := ⟨_, rfl⟩
  have hb1 : Below w.heap.size w w1 := by rw [hw1]; exact (Below.refl _ _).alloc (Nat.le_refl _) _
  have KC : Hid (∀ w', Below w1.heap.size w1 w' → w'.cell? ⟨w.heap.size, 1, none⟩ = some (.int .i64 (j : Int))) := hide (fun w' hb => by
    have e : w'.heap[w.heap.size]? = some (.cells #[.int .i64 (i : Int), .int .i64 (j : Int), .string tE, .int .i64 zz, .int .i64 dp] 36) := by
      rw [hb.block _ (by rw [hw1]; simp), hw1]; exact heap_alloc_new w _
    rw [cell_of_row _ _ 1 _ _ (0, 0) e]; rfl)
  have HB1 := hide hb1
  have Q1 := hide (P1.out w1 hb1)
  have G1 : Hid (∀ {B' : Nat} {v : Value} {l' : List Bg} {w' : World}, BoOwn w' B' v l' → ∃ a cap, v = .slice a l'.length cap ∧ BoIn w' a cap l') := hide (fun h => h.inn)
  clear h hc P1 hb1 hA hB X1 X2 HX hL hN hdp hzz hr hx s1 s2 sg tx iha ihb za zb hg hnb n1 n2 m1 m2 he hE htE hbl hnb2 np nq hcm
  go_enter Tryd.func75, Tryd.ntmps75
  go_wp2_with fail
  refine Z.out.mono ?_
  rintro e w0 ⟨rfl, rfl⟩
  clear Z
  go_wp2_with fail
  rw [← hw1]
  clear hw1
  refine Q1.out.mono ?_
  rintro e w2 ⟨v2, rfl, o2, hb2⟩
  obtain ⟨a2, c2, rfl, i2⟩ := G1.out o2
  have HI2 := hide i2
  have kc := KC.out _ hb2
  have HB2 : Hid (Below w0.heap.size w0 w2) := hide (HB1.out.trans (hb2.mono HB1.out.size))
  have Q2 := hide (P2.out w2 HB2.out)
  clear o2 i2 hb2 Q1 KC P2 HB1
  go_wp2_with fail
  refine Q2.out.mono ?_
  rintro e w3 ⟨v3, rfl, o3, hb3⟩
  obtain ⟨a3, c3, rfl, i3⟩ := G1.out o3
  have HI3 := hide i3
  have HI2' := hide (HI2.out.later hb3)
  have HB3 : Hid (Below w0.heap.size w0 w3) := hide (HB2.out.trans (hb3.mono HB2.out.size))
  have Q3 := hide (Z1.out w3 a2 c2 HI2'.out)
  clear o3 i3 hb3 Q2 HI2 HB2 kc Z1 G1
  go_wp2_with fail
  refine Q3.out.mono ?_
  rintro e w4 ⟨rfl, rfl⟩
  clear Q3
  by_cases hc : n < p.sz
  · have HAB := hide (HA1.out hc)
    have ed : decide ((n : Int) < (p.sz : Int)) = true := by rw [decide_eq_true_iff]; omega
    have Q4 := hide (I1.out a2 c2 w4 HI2'.out (by omega))
    have J := hide (fun w' a b ca cb => J1.out w' a b ca cb (by omega))
    obtain ⟨S1, hS1⟩ : ∃ S, bo (spl p n).1 = S := ⟨_, rfl⟩
    obtain ⟨S2, hS2⟩ : ∃ S, bo (spl p n).2 = S := ⟨_, rfl⟩
    obtain ⟨S3, hS3⟩ : ∃ S, bo (jo (spl p n).2 (some q)) = S := ⟨_, rfl⟩
    simp only [hS1, hS2, hS3] at Q4 J
    rw [hS1, hS3] at HAB
    clear HA1 HA2 HX1 HX2 I1 I2 J1 J2 hS1 hS2 hS3
    go_wp2_with fail
    refine Q4.out.mono ?_
    rintro e w5 ⟨a5, c5, a6, c6, rfl, i5, i6, hb5⟩
    have HI5 := hide i5
    have Q5 := hide (J.out w5 a6 a3 c6 c3 i6 (HI3.out.later hb5))
    have HB5 : Hid (Below w0.heap.size w0 w5) := hide (HB3.out.trans (hb5.mono HB3.out.size))
    clear i5 i6 hb5 Q4 J HI3 HI2' HB3
    go_wp2_with fail
    refine Q5.out.mono ?_
    rintro e w6 ⟨a7, c7, rfl, i7, hb6⟩
    have HI5' := hide (HI5.out.later hb6)
    have HI7 := hide i7
    have HB6 : Hid (Below w0.heap.size w0 w6) := hide (HB5.out.trans (hb6.mono HB5.out.size))
    clear i7 hb6 Q5 HI5 HB5
    go_wp2
    go_ret2
    obtain ⟨rfl, rfl⟩ := HAB.out
    exact ⟨_, _, _, _, rfl, HI5'.out, HI7.out, HB6.out⟩
  · have HAB := hide (HA2.out hc)
    have ed : decide ((n : Int) < (p.sz : Int)) = false := by rw [decide_eq_false_iff_not]; omega
    have ew2 : IntKind.i64.wrap ((n : Int) - (p.sz : Int)) = ((n - p.sz : Nat) : Int) := by rw [IntKind.wrap_i64]; omega
    have Q4 := hide (I2.out a3 c3 w4 HI3.out (by omega))
    have J := hide (fun w' a b ca cb => J2.out w' a b ca cb (by omega))
    obtain ⟨k, hk⟩ : ∃ k, n - p.sz = k := ⟨_, rfl⟩
    rw [hk] at ew2 Q4 J HAB
    obtain ⟨S1, hS1⟩ : ∃ S, bo (spl q k).1 = S := ⟨_, rfl⟩
    obtain ⟨S2, hS2⟩ : ∃ S, bo (spl q k).2 = S := ⟨_, rfl⟩
    obtain ⟨S3, hS3⟩ : ∃ S, bo (jo (some p) (spl q k).1) = S := ⟨_, rfl⟩
    simp only [hS1, hS2, hS3] at Q4 J
    rw [hS2, hS3] at HAB
    clear HA1 HA2 HX1 HX2 I1 I2 J1 J2 hS1 hS2 hS3 hk
    go_wp2_with fail
    refine Q4.out.mono ?_
    rintro e w5 ⟨a5, c5, a6, c6, rfl, i5, i6, hb5⟩
    have HI6 := hide i6
    have Q5 := hide (J.out w5 a2 a5 c2 c5 (HI2'.out.later hb5) i5)
    have HB5 : Hid (Below w0.heap.size w0 w5) := hide (HB3.out.trans (hb5.mono HB3.out.size))
    clear i5 i6 hb5 Q4 J HI3 HI2' HB3
    go_wp2_with fail
    refine Q5.out.mono ?_
    rintro e w6 ⟨a7, c7, rfl, i7, hb6⟩
    have HI6' := hide (HI6.out.later hb6)
    have HI7 := hide i7
    have HB6 : Hid (Below w0.heap.size w0 w6) := hide (HB5.out.trans (hb6.mono HB5.out.size))
    clear i7 hb6 Q5 HI6 HB5
    go_wp2
    go_ret2
    obtain ⟨rfl, rfl⟩ := HAB.out
    exact ⟨_, _, _, _, rfl, HI7.out, HI6'.out, HB6.out⟩

theorem l12Split_any (t : Lm) : ∀ (n : Nat) (a : Option Addr) (cap : Nat) (w : World), BoIn w a cap (bo (some t)) → n ≤ t.sz → t.gd → t.nb ≤ 200 → t.sz ≤ 100000 →
    Calls Tryd.prog 75 #[.slice a (bo (some t)).length cap, .int .i64 (n : Int)] w (SqPost w (spl t n).1 (spl t n).2) := by
  induction t with
  | pc s =>
    intro n a cap w h hn hg hb hs
    by_cases h0 : n = 0
    · subst h0; rw [spl_zero]; exact l12Split_zero _ a cap w h
    · by_cases h1 : n = (Lm.pc s).sz
      · subst h1; rw [spl_all _ (by omega)]; exact l12Split_all _ a cap w h (by omega) (by omega)
      · have e : spl (.pc s) n = (some (.pc (s.extract 0 n)), some (.pc (s.extract n s.size))) := by
          simp only [spl]; rw [if_neg h0, if_neg (by exact h1)]
        rw [e]
        have hz : (Lm.pc s).sz = s.size := rfl
        exact l12Split_pc s n a cap w h (by omega) (by omega) (by omega)
  | jn p q ihp ihq =>
    intro n a cap w h hn hg hb hs
    have hz : (Lm.jn p q).sz = p.sz + q.sz := rfl
    have hnb : (Lm.jn p q).nb = p.nb + q.nb + 1 := rfl
    obtain ⟨gp, gq⟩ := gd_jn.1 hg
    have zp := gd_sz gp
    have zq := gd_sz gq
    by_cases h0 : n = 0
    · subst h0; rw [spl_zero]; exact l12Split_zero _ a cap w h
    · by_cases h1 : n = (Lm.jn p q).sz
      · subst h1; rw [spl_all _ (by omega)]; exact l12Split_all _ a cap w h (by omega) (by omega)
      · exact l12Split_jn p q n a cap w h (by omega) (by omega) hg hb (by omega) (fun m a cap w h hm => ihp m a cap w h hm gp (by omega) (by omega)) (fun m a cap w h hm => ihq m a cap w h hm gq (by omega) (by omega)) zp.1
          (fun m hm => by have := spl_sz p m hm; omega) (fun m hm => by have := spl_sz q m hm; omega)
end Go.Proofs.YtkjioadmebkaoaaDoor

set_option linter.unusedVariables false
namespace Go.Proofs.YtkjioadmebkaoaaDoor
open Go.RowKit
open Doc1

theorem l12Split_opt (o : Option Lm) (n : Nat) (a : Option Addr) (cap : Nat) (w : World) (h : BoIn w a cap (bo o)) (hn : n ≤ szO o) (hg : gdO o) (hb : nbO o ≤ 200) (hs : szO o ≤ 300) :
    Calls Tryd.prog 75 #[.slice a (bo o).length cap, .int .i64 (n : Int)] w (SqPost w (splO o n).1 (splO o n).2) := by
  cases o with
  | none =>
    have : n = 0 := by simp only [szO] at hn; omega
    subst this
    exact l12Split_zero none a cap w h
  | some t => exact l12Split_any t n a cap w h hn hg hb (by simp only [szO] at hs; omega)

theorem spl_mid {w3 w5 : World} {L1 L2 : List Bg} {a4 : Option Addr} {c4 : Nat} (a5 : Option Addr) (c5 : Nat) (hi : BoIn w3 a4 c4 L2) (hb5 : Below w3.heap.size (w3.alloc (.cells #[] 36)) w5) :
    Hid (World.ownsRow ((w5.alloc (.cells #[.slice a5 L1.length c5] 26)).alloc (.cells #[] 36)) (w5.heap.size + 1) 36 5 (.slice (some ⟨w5.heap.size + 1, 0, none⟩) 0 0) 0 []) ∧ Hid (BoIn ((w5.alloc (.cells #[.slice a5 L1.length c5] 26)).alloc (.cells #[] 36)) a4 c4 L2) ∧ w5.heap.size + 1 ≤ ((w5.alloc (.cells #[.slice a5 L1.length c5] 26)).alloc (.cells #[] 36)).heap.size := by
  have e : (w5.alloc (.cells #[.slice a5 L1.length c5] 26)).heap.size = w5.heap.size + 1 := by simp
  have h1 := own_new (w5.alloc (.cells #[.slice a5 L1.length c5] 26)) 36 #[] 0 5 rfl (by omega)
  rw [e] at h1
  have hb35 : Below w3.heap.size w3 w5 := ((Below.refl _ _).alloc (Nat.le_refl _) _).trans hb5
  have hb57 : Below w5.heap.size w5 ((w5.alloc (.cells #[.slice a5 L1.length c5] 26)).alloc (.cells #[] 36)) := ((Below.refl _ _).alloc (Nat.le_refl _) _).alloc (by simp) _
  exact ⟨hide h1, hide ((hi.later hb35).later hb57), by simp⟩

set_option maxRecDepth 100000 in
set_option maxHeartbeats 4000000 in
theorem splitRopeS {w : World} {a : Option Addr} {cap : Nat} {l : List Bg} (n : Int) (h : RIn w a cap l) :
    Calls Tryd.prog 22 #[.agg #[.slice a l.length cap], .int .i64 n] w (Rp2Post w (spL1 l n) (spL2 l n) (spOk l n)) := by
  obtain ⟨w1, hw1⟩ : ∃ w1, w1 = ((w.alloc (.cells #[.slice a l.length cap] 26)).alloc (.cells #[.slice none 0 0] 26)).alloc (.cells #[.slice none 0 0] 26) := ⟨_, rfl⟩
  obtain ⟨hs1, hb1, hc0, hc1, hc2⟩ := boxes3 w (.slice a l.length cap) (.slice none 0 0) (.slice none 0 0)
  rw [← hw1] at hs1 hb1 hc0 hc1 hc2
  have G1 := hide (goodRopeS (h.later hb1))
  have HB1 := hide hb1
  have HC0 := hide hc0
  have HC1 := hide hc1
  have HC2 := hide hc2
  unfold Rp2Post
  have HN : Hid (spOk l n = false → spL1 l n = [] ∧ spL2 l n = []) := hide (fun c => by unfold spL1 spL2; rw [c]; exact ⟨rfl, rfl⟩)
  have HY : Hid (spOk l n = true → spL1 l n = bo (splO (rtO l) n.toNat).1 ∧ spL2 l n = bo (splO (rtO l) n.toNat).2) := hide (fun c => by unfold spL1 spL2; rw [c]; exact ⟨rfl, rfl⟩)
  have HD : Hid (spOk l n = (rtB l && (decide (0 ≤ n) && decide (n ≤ (szO (rtO l) : Int))))) := hide rfl
  have ok1 := rt_ok l
  have hll := h.len
  have hcl := h.inn.le
  have hcm := h.inn.mx
  unfold maxLen at hcm
  obtain ⟨L1, hL1⟩ : ∃ L, spL1 l n = L := ⟨_, rfl⟩
  obtain ⟨L2, hL2⟩ : ∃ L, spL2 l n = L := ⟨_, rfl⟩
  obtain ⟨bb, hbb⟩ : ∃ bb, spOk l n = bb := ⟨_, rfl⟩
  rw [hL1, hL2, hbb] at HN HY ⊢
  rw [hbb] at HD
  cases hq : rtB l with
  | false =>
    rw [hq] at G1 HD
    obtain rfl : bb = false := HD.out
    obtain ⟨rfl, rfl⟩ := HN.out (by first | rfl | trivial)
    clear HN HY HD hL1 hL2 hbb hq h hb1 hc0 hc1 hc2
    go_enter Tryd.func22, Tryd.ntmps22
    go_wp2_with fail
    rw [← hw1]
    clear hw1
    refine G1.out.mono ?_
    rintro e w2 ⟨rfl, hb2⟩
    have HB2 : Hid (Below w.heap.size w w2) := hide (HB1.out.trans (hb2.mono HB1.out.size))
    have HA2 := hide (HC1.out.later hb2)
    have HZ2 := hide (HC2.out.later hb2)
    have q1 := HA2.out.cell
    have q2 := HA2.out.fz
    have q3 := HZ2.out.cell
    have q4 := HZ2.out.fz
    clear hb2
    go_wp2
    refine bodyPost_ret (results_cells_tmp rfl _ _ (w.heap.size + 1) (w.heap.size + 1 + 1) 26 26 _ _ (0, 0) (0, 0) _ (.bool false) rfl rfl rfl ((HA2.out.put _).other (by omega) _) ((HZ2.out.other (by omega) _).put _) Tryd.underlying26 rfl Tryd.sizeRope Tryd.sizeRope) rfl ?_
    exact ⟨_, _, rfl, World.ownsRow_nil _ _ _ _, World.ownsRow_nil _ _ _ _, (fun y z h => by cases h), (HB2.out.setCell (by show w.heap.size ≤ w.heap.size + 1; omega) _).setCell (by show w.heap.size ≤ w.heap.size + 1 + 1; omega) _⟩
  | true =>
    have e1 := rt_bo hq
    rw [hq] at G1 HD
    rw [Bool.true_and] at HD
    obtain ⟨o, ho⟩ : ∃ o, rtO l = o := ⟨_, rfl⟩
    rw [ho] at ok1 HY HD e1
    have hln : (bo o).length ≤ 200 := by rw [bo_len]; exact ok1.2.1
    have SZ := hide (fun w' (hb : Below w.heap.size w w') => l12Size_any (h.inn.later hb) (by omega))
    rw [show lastZ l = (szO o : Int) by rw [e1]; exact lastZ_bo o] at SZ
    have IN : Hid (∀ w', Calls Tryd.prog 73 #[.int .i64 n, .int .i64 0, .int .i64 (szO o : Int)] w' fun e w'' => e = .returned (.bool (decide ((0 : Int) ≤ n ∧ n ≤ (szO o : Int)))) ∧ w'' = w') := hide (fun w' => l1In_any _ _ _ w')
    have hoz := ok1.2.2
    by_cases hin : (0 : Int) ≤ n ∧ n ≤ (szO o : Int)
    · obtain ⟨k, rfl⟩ : ∃ k : Nat, n = (k : Int) := ⟨n.toNat, by omega⟩
      rw [decide_eq_true hin] at IN
      obtain rfl : bb = true := by have := HD.out; rw [decide_eq_true hin.1, decide_eq_true hin.2] at this; exact this
      obtain ⟨E1, E2⟩ := HY.out (by first | rfl | trivial)
      rw [Int.toNat_natCast] at E1 E2
      have SP := hide (fun w' (hb : Below w.heap.size w w') => l12Split_opt o k a cap w' (e1 ▸ h.inn.later hb) (by omega) ok1.1 ok1.2.1 ok1.2.2)
      unfold SqPost at SP
      have so := splO_ok o k (by omega) ok1.2.2 ok1.2.1
      have hL1l : L1.length ≤ 1000 := by rw [E1, bo_len]; omega
      have hL2l : L2.length ≤ 1000 := by rw [E2, bo_len]; omega
      simp only [← E1, ← E2] at SP
      rw [← e1] at SP
      have hl2 : l.length ≤ 200 := by rw [e1]; exact hln
      clear HN HY HD hL1 hL2 hbb hq h hb1 hc0 hc1 hc2 E1 E2 so e1 ho ok1 hln
      go_enter Tryd.func22, Tryd.ntmps22
      go_wp2_with fail
      rw [← hw1]
      clear hw1
      refine G1.out.mono ?_
      rintro e w2 ⟨rfl, hb2⟩
      have HB2 : Hid (Below w.heap.size w w2) := hide (HB1.out.trans (hb2.mono HB1.out.size))
      have HX2 := hide (HC0.out.later hb2)
      have HA2 := hide (HC1.out.later hb2)
      have HZ2 := hide (HC2.out.later hb2)
      have c0 := HX2.out.cell
      have SZ1 := hide (SZ.out w2 HB2.out)
      have IN1 := hide (IN.out w2)
      have SP1 := hide (SP.out w2 HB2.out)
      have HLT : Hid (w.heap.size + 1 < w2.heap.size) := hide HA2.out.lt
      have HLZ : Hid (w.heap.size + 1 + 1 < w2.heap.size) := hide HZ2.out.lt
      clear hb2 HC0 HC1 HC2 HB1 G1 SZ IN SP
      go_wp2_with (first
        | (go_at_call 74; refine SZ1.out.mono ?_; rintro e w9 ⟨rfl, hw'⟩; replace hw' := hw'.symm; subst hw')
        | (go_at_call 73; refine IN1.out.mono ?_; rintro e w9 ⟨rfl, hw'⟩; replace hw' := hw'.symm; subst hw'))
      refine SP1.out.mono ?_
      rintro e w3 ⟨a3, c3, a4, c4, rfl, hi3, hi4, hb3⟩
      have HB3 : Hid (Below w.heap.size w w3) := hide (HB2.out.trans (hb3.mono HB2.out.size))
      have HA3 := hide (HA2.out.later hb3)
      have HZ3 := hide (HZ2.out.later hb3)
      have hb34 : Below w3.heap.size w3 (w3.alloc (.cells #[] 36)) := (Below.refl _ _).alloc (Nat.le_refl _) _
      have HI4 := hide (hi3.later hb34)
      have HJ4 := hide (hi4.later hb34)
      have HO4 := hide (own_new w3 36 #[] 0 5 rfl (by omega))
      have hs4 : w3.heap.size ≤ (w3.alloc (.cells #[] 36)).heap.size := hb34.size
      have HS3 := hide HB3.out.size
      have HA4 := hide (HA3.out.later hb34)
      have HZ4 := hide (HZ3.out.later hb34)
      have HJ3 := hide hi4
      have HS23 := hide hb3.size
      have HB4 : Hid (Below w.heap.size w (w3.alloc (.cells #[] 36))) := hide (HB3.out.trans (hb34.mono HB3.out.size))
      clear hb3 hi3 hi4 hb34 SZ1 IN1 SP1 HA2 HZ2 HX2 c0
      go_wp2_with (first
        | (at_builtin; go_loud (refine append_copy _ rfl _ _ rfl (w5.heap.size + 1) ⟨w5.heap.size + 1, 0, none⟩ HO7.out a4 c4 L2 (by omega) rfl rfl HI7.out hs7 ?_); intro v8 w8 own8 hb8; obtain ⟨a8, c8, rfl, -⟩ := own_shp own8; have HO8 := hide own8; have HB8 := hide hb8; clear own8 hb8)
        | (at_builtin; go_loud ((refine append_copy _ rfl _ _ rfl w3.heap.size ⟨w3.heap.size, 0, none⟩ HO4.out a3 c3 L1 (by omega) rfl rfl HI4.out hs4 ?_); intro v5 w5 own5 hb5; obtain ⟨a5, c5, rfl, -⟩ := own_shp own5; have HO5 := hide own5; have HB5 := hide hb5; obtain ⟨HO7, HI7, hs7⟩ := spl_mid (L1 := L1) a5 c5 HJ3.out hb5; clear own5 hb5)))
      have hb35 : Below w3.heap.size w3 w5 := ((Below.refl _ _).alloc (Nat.le_refl _) _).trans HB5.out
      have hb57 : Below w5.heap.size w5 ((w5.alloc (.cells #[.slice a5 L1.length c5] 26)).alloc (.cells #[] 36)) := ((Below.refl _ _).alloc (Nat.le_refl _) _).alloc (by simp) _
      have hb58 : Below w5.heap.size w5 w8 := hb57.trans (HB8.out.mono (Nat.le_succ _))
      have hb38 : Below w3.heap.size w3 w8 := hb35.trans (hb58.mono hb35.size)
      have cr7 : CellR ((w5.alloc (.cells #[.slice a5 L1.length c5] 26)).alloc (.cells #[] 36)) w5.heap.size (.slice a5 L1.length c5) := (CellR.new w5 _).later ((Below.refl _ _).alloc (Nat.le_refl _) _)
      have cr8 : CellR w8 w5.heap.size (.slice a5 L1.length c5) := by
        unfold CellR at cr7 ⊢
        rw [HB8.out.block _ (by omega)]
        exact cr7
      obtain ⟨w9, hw9⟩ : ∃ w9, w9 = w8.alloc (.cells #[.slice a8 L2.length c8] 26) := ⟨_, rfl⟩
      have hb89 : Below w8.heap.size w8 w9 := by rw [hw9]; exact (Below.refl _ _).alloc (Nat.le_refl _) _
      have hx9 : CellR w9 w8.heap.size (.slice a8 L2.length c8) := by rw [hw9]; exact CellR.new w8 _
      have hb39 : Below w3.heap.size w3 w9 := hb38.trans (hb89.mono hb38.size)
      have HB9 : Hid (Below w.heap.size w w9) := hide (HB3.out.trans (hb39.mono HB3.out.size))
      have HA9 := hide (HA3.out.later hb39)
      have HZ9 := hide (HZ3.out.later hb39)
      have HX9 := hide (cr8.later hb89)
      have HO9a := hide (own_below (own_below HO5.out hb58) hb89)
      have HP9a := hide (own_below HO8.out hb89)
      have HS58 := hide hb58.size
      have HS35 := hide hb35.size
      have p1 := HX9.out.cell
      have p2 := hx9.cell
      have q1 := HA9.out.cell
      have q2 := HA9.out.fz
      have q3 := HZ9.out.cell
      have q4 := HZ9.out.fz
      have HDIS : Hid (∀ y z, (Value.slice a5 L1.length c5).ownBlock = some y → (Value.slice a8 L2.length c8).ownBlock = some z → y ≠ z) := hide (fun y z hy hz => by have h1 := BoOwn.lt HO5.out y hy; have h2 := (World.ownsRow.lt HO8.out z hz).1; omega)
      have nn : w.heap.size + 1 + 1 < w5.heap.size ∧ w.heap.size + 1 + 1 < w8.heap.size := by
        have := HLZ.out; have := HS23.out; have := HS35.out; have := HS58.out; omega
      have n1 : ¬ w.heap.size + 1 = w5.heap.size := by omega
      have n2 : ¬ w.heap.size + 1 + 1 = w5.heap.size := by omega
      have n3 : ¬ w.heap.size + 1 = w8.heap.size := by omega
      have n4 : ¬ w.heap.size + 1 + 1 = w8.heap.size := by omega
      have m1 : ¬ w5.heap.size = w.heap.size + 1 := by omega
      have m2 : ¬ w5.heap.size = w.heap.size + 1 + 1 := by omega
      have m3 : ¬ w8.heap.size = w.heap.size + 1 := by omega
      have m4 : ¬ w8.heap.size = w.heap.size + 1 + 1 := by omega
      have HO9 := hide (own_aside (own_aside HO9a.out (g := w.heap.size + 1) (by have := HLT.out; have := HS23.out; omega) 0 (.slice a5 L1.length c5)) (g := w.heap.size + 1 + 1) (by have := HLZ.out; have := HS23.out; omega) 0 (.slice a8 L2.length c8))
      have HP9 := hide (own_aside (own_aside HP9a.out (g := w.heap.size + 1) (by omega) 0 (.slice a5 L1.length c5)) (g := w.heap.size + 1 + 1) (by omega) 0 (.slice a8 L2.length c8))
      have HE9 : Hid (Below w.heap.size w ((w9.setCell ⟨w.heap.size + 1, 0, none⟩ (.slice a5 L1.length c5)).setCell ⟨w.heap.size + 1 + 1, 0, none⟩ (.slice a8 L2.length c8))) := hide ((HB9.out.setCell (by show w.heap.size ≤ w.heap.size + 1; omega) _).setCell (by show w.heap.size ≤ w.heap.size + 1 + 1; omega) _)
      have HS5 : Hid (w.heap.size ≤ w5.heap.size + 1) := hide (by omega)
      clear hb35 hb57 hb58 hb38 cr7 cr8 hb89 hx9 hb39 nn HO7 HI7 hs7 hs4
      rw [← hw9]
      clear hw9
      go_region
      go_wp2
      have r1 := ((HA9.out.put (.slice a5 L1.length c5)).other (d := w.heap.size + 1 + 1) (by omega) (.slice a8 L2.length c8))
      have r2 := ((HZ9.out.other (d := w.heap.size + 1) (by omega) (.slice a5 L1.length c5)).put (.slice a8 L2.length c8))
      refine bodyPost_ret (results_cells_tmp rfl _ _ (w.heap.size + 1) (w.heap.size + 1 + 1) 26 26 _ _ (0, 0) (0, 0) _ (.bool true) rfl rfl rfl r1 r2 Tryd.underlying26 rfl Tryd.sizeRope Tryd.sizeRope) rfl ?_
      exact ⟨_, _, rfl, own_mono (own_below HO9.out (Below.refl _ _).drew) HS3.out, own_mono (own_below HP9.out (Below.refl _ _).drew) HS5.out, HDIS.out, HE9.out.drew⟩
    · have hin2 : decide ((0 : Int) ≤ n ∧ n ≤ (szO o : Int)) = false := decide_eq_false hin
      rw [hin2] at IN
      obtain rfl : bb = false := by
        have := HD.out
        rw [this]
        by_cases c1 : 0 ≤ n
        · rw [decide_eq_false (fun c2 => hin ⟨c1, c2⟩), Bool.and_false]
        · rw [decide_eq_false c1, Bool.false_and]
      obtain ⟨rfl, rfl⟩ := HN.out (by first | rfl | trivial)
      clear HN HY HD hL1 hL2 hbb hq h hb1 hc0 hc1 hc2 hin hin2 e1 ho hln ok1
      go_enter Tryd.func22, Tryd.ntmps22
      go_wp2_with fail
      rw [← hw1]
      clear hw1
      refine G1.out.mono ?_
      rintro e w2 ⟨rfl, hb2⟩
      have HB2 : Hid (Below w.heap.size w w2) := hide (HB1.out.trans (hb2.mono HB1.out.size))
      have c0 := (HC0.out.later hb2).cell
      have HA2 := hide (HC1.out.later hb2)
      have HZ2 := hide (HC2.out.later hb2)
      have q1 := HA2.out.cell
      have q2 := HA2.out.fz
      have q3 := HZ2.out.cell
      have q4 := HZ2.out.fz
      have SZ1 := hide (SZ.out w2 HB2.out)
      have IN1 := hide (IN.out w2)
      clear hb2 SZ IN
      go_wp2_with (first
        | (go_at_call 74; refine SZ1.out.mono ?_; rintro e w9 ⟨rfl, hw'⟩; replace hw' := hw'.symm; subst hw')
        | (go_at_call 73; refine IN1.out.mono ?_; rintro e w9 ⟨rfl, hw'⟩; replace hw' := hw'.symm; subst hw'))
      refine bodyPost_ret (results_cells_tmp rfl _ _ (w.heap.size + 1) (w.heap.size + 1 + 1) 26 26 _ _ (0, 0) (0, 0) _ (.bool false) rfl rfl rfl ((HA2.out.put _).other (by omega) _) ((HZ2.out.other (by omega) _).put _) Tryd.underlying26 rfl Tryd.sizeRope Tryd.sizeRope) rfl ?_
      exact ⟨_, _, rfl, World.ownsRow_nil _ _ _ _, World.ownsRow_nil _ _ _ _, (fun y z h => by cases h), (HB2.out.setCell (by show w.heap.size ≤ w.heap.size + 1; omega) _).setCell (by show w.heap.size ≤ w.heap.size + 1 + 1; omega) _⟩
end Go.Proofs.YtkjioadmebkaoaaDoor
