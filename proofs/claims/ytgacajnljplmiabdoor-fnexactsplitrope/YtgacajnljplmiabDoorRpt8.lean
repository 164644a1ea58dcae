/- The model's functions over ropes, on: JoinRopes. -/
import Derived.Test.YtgacajnljplmiabDoorRpt7
set_option linter.unusedVariables false
namespace Go.Proofs.YtgacajnljplmiabDoor
open Go.RowKit
open Doc1

theorem rtB_bo {o : Option Lm} (h : gdO o) : rtB (bo o) = fit o := by
  cases hf : fit o with
  | true =>
    unfold fit at hf
    simp at hf
    exact rtB_iff.2 ⟨o, bo_RO h hf.1 hf.2⟩
  | false =>
    rw [← Bool.not_eq_true, rtB_iff]
    rintro ⟨q, hq⟩
    obtain ⟨e, h1, h2, h3⟩ := RO_bo hq
    have : o = q := by
      cases o with
      | none =>
        cases q with
        | none => rfl
        | some u => exact absurd e.symm (pd_ne u 0)
      | some t =>
        cases q with
        | none => exact absurd e (pd_ne t 0)
        | some u =>
          have e : t.pd 0 = u.pd 0 := e
          have r1 := rd_pd t 0 [] h
          have r2 := rd_pd u 0 [] h1
          rw [e, r2] at r1
          simpa using r1.symm
    subst this
    unfold fit at hf
    simp at hf
    omega

theorem run_none_more (w : World) (ty : TypeId) (i : TypeInfo) (hi : Tryd.prog.info? 65 = some i) (b : Addr) (ad : Option Addr) (cap : Nat) : (Builtin.append_ #[39, 39] ty #[.slice (some b) 0 0, .slice ad 0 cap]).run Tryd.prog w = .ok (.slice (some b) 0 0) w := by
  cases ad <;> simp [Builtin.append_, run_underlying Tryd.underlying39, sizeOf, typeInfo, hi, Builtin.lenOf, Builtin.firstCells, storeCells, loadCells, loadCellsFrom]

/-- A row copied into an empty one of one's own. -/
theorem append_copy {ops : Array Oper} {rest : List Oper} {o : Oper} {a : Act} {Q : Exit → Act → World → Prop} (w : World) (hgd : o.guard = none) (s x : Operand)
    (ho : o.op = .call { callee := .builtin .append, args := #[s, x], argTypes := #[39, 39] }) (B : Nat) (b : Addr) (o0 : w.ownsRow B 65 5 (.slice (some b) 0 0) 0 []) (ad : Option Addr) (cap : Nat) (l : List Bg) (hl : l.length ≤ 100000)
    (hs : a.eval s = .slice (some b) 0 0) (hx : a.eval x = .slice ad l.length cap) (hin : BoIn w ad cap l) (hB : B ≤ w.heap.size)
    (h : ∀ v' w', BoOwn w' B v' l → Below B w w' → wpList Tryd.prog ops Q rest (a.put o.dst v') w') :
    wpList Tryd.prog ops Q (o :: rest) a w := by
  obtain ⟨i0, hi0, hz0, hz1, hz2⟩ := info_parts Tryd.infoBough
  by_cases h0 : l = []
  · subst h0
    refine wpList_plain hgd fun K hK => ?_
    have hr := run_none_more w o.type i0 hi0 b ad cap
    unfold Oper.wp
    simp [execOp, ho, resolve, invoke, builtin, hs, hx, hr, Result.andThen]
    exact hK _ _ (h _ _ o0 (Below.refl _ _))
  · obtain ⟨g, rfl, hg, hc⟩ := hin.ad h0
    have hp := List.length_pos_iff.2 h0
    have hnews : ∀ j u, (encBo l)[j]? = some u → w.cell? ((⟨g, 0, none⟩ : Addr).add j) = some u := fun j u hu => by
      rw [addr0]
      exact hc j u hu
    have hone : ∀ u ∈ encBo l, u.oneCell' = true := fun u hu => by
      unfold encBo at hu
      obtain ⟨b, -, hb2⟩ := List.mem_flatMap.1 hu
      simp [bgC] at hb2
      rcases hb2 with rfl | rfl | rfl | rfl | rfl <;> rfl
    refine wpList_append_loc _ hgd _ _ 39 ho B 65 i0 (.agg #[.int .i64 0, .int .i64 0, .string ⟨#[]⟩, .int .i64 0, .int .i64 0]) 5 48 Tryd.underlying39 hi0 hz0 hz1 hz2 rfl (by decide) _ _ _ hs o0 ⟨g, 0, none⟩ l.length cap (encBo l) hx (encBo_len l) hnews hone (by unfold maxLen; omega) (by omega) hB ?_ hp
    intro v3 w3 own3 grow3 loc3
    rw [Nat.zero_add] at own3
    exact h v3 w3 own3 (grown_belowB (Below.refl _ _) hB o0 grow3)

theorem bo_len (o : Option Lm) : (bo o).length = nbO o := by
  cases o with
  | none => rfl
  | some t => exact Lm.pd_len t 0

theorem bo_txt {o : Option Lm} (h : gdO o) : ∀ i (hi : i < (bo o).length), (bo o)[i].text.size ≤ 1048576 := by
  cases o with
  | none => intro i hi; simp [bo] at hi
  | some t =>
    have key : ∀ (t : Lm) (k : Nat), t.gd → ∀ b ∈ t.pd k, b.text.size ≤ 8 := by
      intro t
      induction t with
      | pc s => intro k hg b hb; simp only [Lm.pd, List.mem_singleton] at hb; subst hb; exact (gpc_bd (gd_pc.1 hg)).2
      | jn a b iha ihb =>
        intro k hg x hx
        obtain ⟨ga, gb⟩ := gd_jn.1 hg
        simp only [Lm.pd, List.mem_append, List.mem_singleton] at hx
        rcases hx with c | c | c
        · exact iha _ ga _ c
        · exact ihb _ gb _ c
        · subst c; show (0 : Nat) ≤ _; omega
    intro i hi
    have := key t 0 h _ (List.getElem_mem (l := t.pd 0) hi)
    show (t.pd 0)[i].text.size ≤ _
    omega

set_option maxRecDepth 100000 in
set_option maxHeartbeats 4000000 in
theorem joinRopesS {w : World} {a a2 : Option Addr} {cap cap2 : Nat} {l m : List Bg} (h : RIn w a cap l) (h2 : RIn w a2 cap2 m) :
    Calls Tryd.prog 41 #[.agg #[.slice a l.length cap], .agg #[.slice a2 m.length cap2]] w (RpPost w (jnL l m) (jnB l m)) := by
  obtain ⟨w1, hw1⟩ : ∃ w1, w1 = ((w.alloc (.cells #[.slice a l.length cap] 41)).alloc (.cells #[.slice a2 m.length cap2] 41)).alloc (.cells #[.slice none 0 0] 41) := ⟨_, rfl⟩
  obtain ⟨hs1, hb1, hc0, hc1, hc2⟩ := boxes3 w (.slice a l.length cap) (.slice a2 m.length cap2) (.slice none 0 0)
  rw [← hw1] at hs1 hb1 hc0 hc1 hc2
  have G1 := hide (goodRopeS (h.later hb1))
  have G2 := hide (fun w' (hb : Below w1.heap.size w1 w') => goodRopeS (h2.later (hb1.trans (hb.mono hb1.size))))
  have HB1 := hide hb1
  have HC0 := hide hc0
  have HC1 := hide hc1
  have HC2 := hide hc2
  unfold RpPost
  obtain ⟨L, hL⟩ : ∃ L, jnL l m = L := ⟨_, rfl⟩
  obtain ⟨bb, hbb⟩ : ∃ bb, jnB l m = bb := ⟨_, rfl⟩
  have HN : Hid ((rtB l && rtB m) = false → L = [] ∧ bb = false) := hide (fun c => by rw [← hL, ← hbb]; unfold jnL jnB; rw [c]; exact ⟨rfl, rfl⟩)
  have HY : Hid ((rtB l && rtB m) = true → L = okB (jo (rtO l) (rtO m)) ∧ bb = fit (jo (rtO l) (rtO m))) := hide (fun c => by rw [← hL, ← hbb]; unfold jnL jnB; rw [c]; exact ⟨rfl, rfl⟩)
  rw [hL, hbb]
  clear hL hbb
  cases hq1 : rtB l with
  | false =>
    rw [hq1, Bool.false_and] at HN
    obtain ⟨rfl, rfl⟩ := HN.out (by first | rfl | trivial)
    rw [hq1] at G1
    clear HN HY hq1 h h2 hb1 hc0 hc1 hc2
    go_enter Tryd.func41, Tryd.ntmps41
    go_wp2_with fail
    rw [← hw1]
    clear hw1
    refine G1.out.mono ?_
    rintro e w2 ⟨rfl, hb2⟩
    have HB2 : Hid (Below w.heap.size w w2) := hide (HB1.out.trans (hb2.mono HB1.out.size))
    have HD := hide (HC2.out.later hb2)
    have hc := HD.out.cell
    have hf := HD.out.fz
    clear hb2
    go_wp2
    refine bodyPost_ret (results_cell_tmp rfl _ _ (w.heap.size + 2) 41 _ (0, 0) _ (.bool false) rfl rfl (HD.out.put _) Tryd.underlying41 rfl Tryd.sizeRope) rfl ?_
    exact ⟨_, rfl, World.ownsRow_nil _ _ _ _, HB2.out.setCell (by show w.heap.size ≤ w.heap.size + 2; omega) _⟩
  | true =>
    cases hq2 : rtB m with
    | false =>
      rw [hq1, hq2, Bool.and_false] at HN
      obtain ⟨rfl, rfl⟩ := HN.out (by first | rfl | trivial)
      rw [hq1] at G1
      rw [hq2] at G2
      clear HN HY hq1 hq2 h h2 hb1 hc0 hc1 hc2
      go_enter Tryd.func41, Tryd.ntmps41
      go_wp2_with fail
      rw [← hw1]
      clear hw1
      refine G1.out.mono ?_
      rintro e w2 ⟨rfl, hb2⟩
      have HB2 : Hid (Below w.heap.size w w2) := hide (HB1.out.trans (hb2.mono HB1.out.size))
      have HD := hide (HC2.out.later hb2)
      have cc := (HC1.out.later hb2).cell
      have G3 := hide (G2.out w2 hb2)
      clear hb2
      go_wp2_with fail
      refine G3.out.mono ?_
      rintro e w3 ⟨rfl, hb3⟩
      have HB3 : Hid (Below w.heap.size w w3) := hide (HB2.out.trans (hb3.mono HB2.out.size))
      have HD3 := hide (HD.out.later hb3)
      have hc := HD3.out.cell
      have hf := HD3.out.fz
      clear hb3 cc
      go_wp2
      refine bodyPost_ret (results_cell_tmp rfl _ _ (w.heap.size + 2) 41 _ (0, 0) _ (.bool false) rfl rfl (HD3.out.put _) Tryd.underlying41 rfl Tryd.sizeRope) rfl ?_
      exact ⟨_, rfl, World.ownsRow_nil _ _ _ _, HB3.out.setCell (by show w.heap.size ≤ w.heap.size + 2; omega) _⟩
    | true =>
      rw [hq1, hq2] at HY
      obtain ⟨E1, E2⟩ := HY.out (by first | rfl | trivial)
      have e1 := rt_bo hq1
      have e2 := rt_bo hq2
      have ok1 := rt_ok l
      have ok2 := rt_ok m
      rw [hq1] at G1
      rw [hq2] at G2
      obtain ⟨x, hx⟩ : ∃ x, rtO l = x := ⟨_, rfl⟩
      obtain ⟨y, hy⟩ : ∃ y, rtO m = y := ⟨_, rfl⟩
      rw [hx] at e1 ok1 E1 E2
      rw [hy] at e2 ok2 E1 E2
      subst e1 e2
      have gj := jo_gd ok1.1 ok2.1
      have nj := jo_nb x y
      have sj := jo_sz x y
      have J := hide (fun w' (hb : Below w.heap.size w w') => l12Join_any x y a a2 cap cap2 w' (h.inn.later hb) (h2.inn.later hb) (by omega) (by omega))
      have GO := hide (fun (w' : World) (B : Nat) (v : Value) (ho : BoOwn w' B v (bo (jo x y))) => by
        obtain ⟨a3, c3, e3, hi3⟩ := ho.inn
        exact (show ∃ a3 c3, v = .slice a3 (bo (jo x y)).length c3 ∧ RIn w' a3 c3 (bo (jo x y)) from ⟨a3, c3, e3, hi3, by rw [bo_len]; omega, bo_txt gj⟩))
      have G5 := hide (fun (w' : World) (a3 : Option Addr) (c3 : Nat) (hr : RIn w' a3 c3 (bo (jo x y))) => goodRopeS hr)
      rw [rtB_bo gj] at G5
      unfold BiPost at J
      obtain ⟨L2, hL2⟩ : ∃ L2, bo (jo x y) = L2 := ⟨_, rfl⟩
      have hL2l : L2.length ≤ 1000 := by rw [← hL2, bo_len]; omega
      obtain ⟨f2, hf2⟩ : ∃ f2, fit (jo x y) = f2 := ⟨_, rfl⟩
      have HE : Hid (f2 = true → L = L2) := hide (fun c => by rw [E1]; unfold okB; rw [hf2, c, hL2]; rfl)
      have HE2 : Hid (f2 = false → L = []) := hide (fun c => by rw [E1]; unfold okB; rw [hf2, c]; rfl)
      obtain rfl : bb = f2 := by rw [E2]; exact hf2
      simp only [hL2, hf2] at J GO G5
      have hlx : (bo x).length ≤ 1000 := by rw [bo_len]; omega
      have hly : (bo y).length ≤ 1000 := by rw [bo_len]; omega
      have hcx := h.inn.mx
      have hcy := h2.inn.mx
      unfold maxLen at hcx hcy
      have hcx2 := h.inn.le
      have hcy2 := h2.inn.le
      obtain ⟨X, hX⟩ : ∃ X, (bo x).length = X := ⟨_, rfl⟩
      obtain ⟨Y, hY⟩ : ∃ Y, (bo y).length = Y := ⟨_, rfl⟩
      simp only [hX, hY] at *
      clear HN HY E1 E2 hx hy h h2 hb1 hc0 hc1 hc2 hL2 hf2 gj nj sj ok1 ok2 hq1 hq2 hX hY
      go_enter Tryd.func41, Tryd.ntmps41
      go_wp2_with fail
      rw [← hw1]
      clear hw1
      refine G1.out.mono ?_
      rintro e w2 ⟨rfl, hb2⟩
      have HB2 : Hid (Below w.heap.size w w2) := hide (HB1.out.trans (hb2.mono HB1.out.size))
      have HD := hide (HC2.out.later hb2)
      have HF0 := hide (HC0.out.later hb2)
      have HF1 := hide (HC1.out.later hb2)
      have cc := HF1.out.cell
      have G3 := hide (G2.out w2 hb2)
      clear hb2 HC0 HC1 HC2
      go_wp2_with fail
      refine G3.out.mono ?_
      rintro e w3 ⟨rfl, hb3⟩
      have HB3 : Hid (Below w.heap.size w w3) := hide (HB2.out.trans (hb3.mono HB2.out.size))
      have HD3 := hide (HD.out.later hb3)
      obtain ⟨w4, hw4⟩ : ∃ w4, w4 = w3.alloc (.cells #[] 65) := ⟨_, rfl⟩
      have hb4 : Below w3.heap.size w3 w4 := by rw [hw4]; exact (Below.refl _ _).alloc (Nat.le_refl _) _
      have c0 := ((HF0.out.later hb3).later hb4).cell
      have c1 := ((HF1.out.later hb3).later hb4).cell
      have c0' := c0
      have c1' := c1
      rw [hw4] at c0' c1'
      have HB4 : Hid (Below w.heap.size w w4) := hide (HB3.out.trans (hb4.mono HB3.out.size))
      have HD4 := hide (HD3.out.later hb4)
      have J2 := hide (J.out w4 HB4.out)
      clear hb3 cc HF0 HF1 hb4
      have o4 : w4.ownsRow w3.heap.size 65 5 (.slice (some ⟨w3.heap.size, 0, none⟩) 0 0) 0 [] := by rw [hw4]; exact own_new w3 65 #[] 0 5 rfl (by omega)
      have HO4 := hide o4
      have hs34 : w4.heap.size = w3.heap.size + 1 := by rw [hw4]; simp
      have HS34 := hide hs34
      clear o4 hs34
      go_wp2_with fail
      rw [← hw4]
      clear hw4 c0 c1 c0' c1'
      refine J2.out.mono ?_
      rintro e w5 ⟨a5, c5, rfl, hi5, hb5⟩
      have HO5 := hide (own_below HO4.out hb5)
      have HI5 := hide hi5
      have HB5 : Hid (Below w.heap.size w w5) := hide (HB4.out.trans (hb5.mono HB4.out.size))
      have HD5 := hide (HD4.out.later hb5)
      have hs5 : w3.heap.size ≤ w5.heap.size := by have := hb5.size; have := HS34.out; omega
      have HS3 := hide HB3.out.size
      have hlt3 : w.heap.size + 2 < w3.heap.size := HD3.out.lt
      clear hb5 hi5 HO4 HB4 HD4
      go_wp2_with (first
        | (at_builtin; go_loud (refine append_copy _ rfl _ _ rfl w3.heap.size ⟨w3.heap.size, 0, none⟩ HO5.out a5 c5 L2 (by omega) rfl rfl HI5.out hs5 ?_); intro v6 w6 own6 hb6; obtain ⟨a6, c6, rfl, hr6⟩ := GO.out w6 _ v6 own6; have HO6 := hide own6; have HR6 := hide hr6; have HB6 : Hid (Below w.heap.size w w6) := hide (HB5.out.trans (hb6.mono HS3.out)); have HD6 : Hid (CellR w6 (w.heap.size + 2) (.slice none 0 0)) := hide (by unfold CellR; rw [hb6.block _ hlt3]; exact HD5.out); clear own6 hr6 hb6 HI5 HO5 HD5)
        | fail)
      obtain ⟨w7, hw7⟩ : ∃ w7, w7 = w6.alloc (.cells #[.slice a6 L2.length c6] 41) := ⟨_, rfl⟩
      have hb7 : Below w6.heap.size w6 w7 := by rw [hw7]; exact (Below.refl _ _).alloc (Nat.le_refl _) _
      have hx7 : CellR w7 w6.heap.size (.slice a6 L2.length c6) := by rw [hw7]; exact CellR.new w6 _
      have HX7 := hide hx7
      have HB7 : Hid (Below w.heap.size w w7) := hide (HB6.out.trans (hb7.mono HB6.out.size))
      have HD7 := hide (HD6.out.later hb7)
      have HO7 := hide (own_below HO6.out hb7)
      have G7 := hide (G5.out w7 a6 c6 (HR6.out.later hb7))
      have HS6 : Hid (w.heap.size + 2 < w6.heap.size) := hide HD6.out.lt
      rw [← hw7]
      clear hw7 hb7 hx7 HO6 HR6 HB6 HD6
      refine G7.out.mono ?_
      rintro e w8 ⟨rfl, hb8⟩
      have HX8 := hide (HX7.out.later hb8)
      have HB8 : Hid (Below w.heap.size w w8) := hide (HB7.out.trans (hb8.mono HB7.out.size))
      have HD8 := hide (HD7.out.later hb8)
      have HO8 := hide (own_below HO7.out hb8)
      have q1 := HX8.out.cell
      have q2 := HD8.out.cell
      have q3 := HD8.out.fz
      clear hb8 HX7 HB7 HD7 HO7 G7
      cases bb with
      | true =>
        have hLL := HE.out (by first | rfl | trivial)
        have HO9 := hide (own_aside HO8.out (g := w.heap.size + 2) hlt3 0 (.slice a6 L2.length c6))
        clear HE HE2
        go_wp2
        refine bodyPost_ret (results_cell_tmp rfl _ _ (w.heap.size + 2) 41 _ (0, 0) _ (.bool true) rfl rfl (HD8.out.put _) Tryd.underlying41 rfl Tryd.sizeRope) rfl ?_
        exact ⟨_, rfl, by rw [hLL]; exact own_mono HO9.out HS3.out, HB8.out.setCell (by show w.heap.size ≤ w.heap.size + 2; omega) _⟩
      | false =>
        have hLL := HE2.out (by first | rfl | trivial)
        clear HE HE2
        go_wp2
        refine bodyPost_ret (results_cell_tmp rfl _ _ (w.heap.size + 2) 41 _ (0, 0) _ (.bool false) rfl rfl (HD8.out.put _) Tryd.underlying41 rfl Tryd.sizeRope) rfl ?_
        exact ⟨_, rfl, by rw [hLL]; exact World.ownsRow_nil _ _ _ _, HB8.out.setCell (by show w.heap.size ≤ w.heap.size + 2; omega) _⟩
end Go.Proofs.YtgacajnljplmiabDoor
