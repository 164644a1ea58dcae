/- The program's reading of a rope: its root. The program's functions over ropes: GoodRope, TextIn, RopeOf, JoinRopes, Rebalance. The program's functions over ropes, on: Rebalance, PiecesOf, IsBalanced. The program's functions over ropes, on: IsBalanced, SplitRope, ByteAt. The program's functions over ropes, on: SplitRope, ByteAt. The program's ByteAt. -/
import Derived.Test.YtkjioadmebkaoaaDoorRopA
import Derived.Deep.AppendLies
import Derived.Deep.RegionLaw
set_option linter.unusedVariables false
namespace Go.Proofs.YtkjioadmebkaoaaDoor
open Go.RowKit
open Doc1

/-- A row of boughs that is read. -/
structure BoIn (w : World) (a : Option Addr) (cap : Nat) (l : List Bg) : Prop where
  le : l.length ≤ cap
  mx : cap ≤ maxLen
  ad : l ≠ [] → ∃ g, a = some ⟨g, 0, none⟩ ∧ g < w.heap.size ∧ CLs w g (encBo l)
theorem BoIn.later {w w1 : World} {a : Option Addr} {cap : Nat} {l : List Bg} (h : BoIn w a cap l) (hb : Below w.heap.size w w1) : BoIn w1 a cap l :=
  ⟨h.le, h.mx, fun hl => by obtain ⟨g, e, hg, hc⟩ := h.ad hl; exact ⟨g, e, Nat.lt_of_lt_of_le hg hb.size, hc.later hb hg⟩⟩
theorem BoOwn.inn {w : World} {B : Nat} {v : Value} {l : List Bg} (h : BoOwn w B v l) : ∃ a cap, v = .slice a l.length cap ∧ BoIn w a cap l := by
  obtain ⟨a, cap, rfl, h1, h2⟩ := own_shp h
  refine ⟨a, cap, rfl, h1, h2, fun hl => ?_⟩
  obtain ⟨g, c, e, -, -, -, z6, z7, -⟩ := BoOwn.shape h hl
  cases e
  exact ⟨g, rfl, z6, z7⟩
theorem BoCp.inn {w : World} {g : Nat} {l : List Bg} (h : BoCp w g l) (hm : l.length ≤ 2000000) : BoIn w (some ⟨g, 0, none⟩) l.length l :=
  ⟨Nat.le_refl _, by unfold maxLen; omega, fun _ => ⟨g, rfl, h.lt, h.at'⟩⟩
theorem Tryd.infoLimb : (Tryd.prog.info? 106).map (fun i => (i.zero, i.size, i.bytes)) = some (some .nilIface, 1, 16) := by kernel_rfl
/-- A row of limbs of one's own. -/
def LmOwn (w : World) (B : Nat) (v : Value) (st : List Lm) : Prop := w.ownsRow B 106 1 v st.length (st.map lv)
theorem LmOwn.app {w : World} {B : Nat} {v : Value} {st : List Lm} {t : Lm} (h : w.ownsRow B 106 1 v (st.length + 1) (st.map lv ++ [lv t])) : LmOwn w B v (st ++ [t]) := by
  unfold LmOwn
  rw [List.length_append, List.map_append]
  exact h
theorem LmOwn.cut2 {w : World} {B g n cap : Nat} {x : List Lm} {a b : Lm} (h : LmOwn w B (.slice (some ⟨g, 0, none⟩) n cap) (x ++ [a] ++ [b])) (hn : n = x.length + 1 + 1) : LmOwn w B (.slice (some ⟨g, 0, none⟩) x.length cap) x := by
  subst hn
  unfold LmOwn at h ⊢
  rw [List.map_append, List.length_append, List.length_append] at h
  have h1 := own_cut (n := x.length + 1) h (by simp)
  rw [List.map_append] at h1
  exact own_cut (n := x.length) h1 (by simp)
theorem ent_join (a : Array Value) (w : World) : (callFunc 69 a).run Tryd.prog w = .ok (.enter 69 a) w := by kernel_rfl

theorem step_join {w : World} {ops : Array Oper} {o : Oper} {a : Act} {K : Act → World → Prop} {Q : Exit → Act → World → Prop} {E : Prop} (hgd : o.guard = none) (x y : Operand) (tx ty : TypeId)
    (ho : o.op = .call { callee := .value (.func 69), args := #[x, y], argTypes := #[tx, ty] }) (p q : Lm) (hp : p.sz ≤ 1000000) (hq : q.sz ≤ 1000000) (hx : a.eval x = lv p) (hy : a.eval y = lv q) (r : Value) (hr : lv (.jn p q) = r) (h : ∀ w', Below w.heap.size w w' → K (a.put o.dst r) w') :
    if Region.wanted o (yielded ops a.tmps) = true then Oper.wp Tryd.prog o a w K Q else E := by
  have hw : Region.wanted o (yielded ops a.tmps) = true := by simp [Region.wanted, hgd]
  rw [if_pos hw]
  subst hr
  have hm := ent_join
  unfold Oper.wp execOp
  simp only [ho, resolve, invoke, hx, hy, Sem.run_bind, List.map_toArray, List.map_cons, List.map_nil]
  simp [go_sem, hm]
  refine (joinLimbs_any (some p) (some q) w hp hq).mono ?_
  rintro e w' ⟨rfl, hR⟩
  exact h w' hR
/-- The root of a rope, and whether it is good. -/
noncomputable def rtO (l : List Bg) : Option Lm := (dc l).getD none
noncomputable def rtB (l : List Bg) : Bool := (dc l).isSome
def RtPost (o : Option Lm) (b : Bool) (w : World) (e : Ending) (w' : World) : Prop := e = .returned (.tuple #[lvO o, .bool b]) ∧ Below w.heap.size w w'
theorem rdL_take {l : List Bg} {k : Nat} {st : List Lm} (h : rdL [] (l.take k) = some st) (hk : k < l.length) : rdL [] (l.take (k + 1)) = rdS st l[k] := by
  rw [List.take_succ_eq_append_getElem hk, rdL_app, h, Option.bind_some]
  simp only [rdL]
  cases rdS st l[k] <;> rfl
theorem rdL_bad {l : List Bg} {k : Nat} (h : rdL [] (l.take k) = none) : rdL [] l = none := by
  rw [← List.take_append_drop k l, rdL_app, h]; rfl
theorem lv_is (t : Lm) : ∃ T x, lv t = .iface T x := by
  obtain ⟨T, x, -, h, -⟩ := lv_size t
  exact ⟨T, x, h⟩
theorem nbs_mem {st : List Lm} {t : Lm} (h : t ∈ st) : t.nb ≤ nbs st := by
  induction st with
  | nil => cases h
  | cons x st ih =>
    have e : nbs (x :: st) = x.nb + nbs st := by simp [nbs]
    rcases List.mem_cons.1 h with rfl | c
    · omega
    · have := ih c; omega
theorem nbs_len (st : List Lm) : st.length ≤ nbs st := by
  induction st with
  | nil => simp
  | cons x st ih =>
    have e : nbs (x :: st) = x.nb + nbs st := by simp [nbs]
    have := Lm.nb_pos x
    rw [List.length_cons]; omega

set_option maxRecDepth 100000 in
set_option maxHeartbeats 8000000 in
theorem rootOf_any (a : Option Addr) (cap : Nat) (l : List Bg) (w : World) (h : BoIn w a cap l) (hT : Tab w) (hl : l.length ≤ 1048576) (hx : ∀ i (hi : i < l.length), l[i].text.size ≤ 1048576) :
    Calls Tryd.prog 63 #[.agg #[.slice a l.length cap]] w (RtPost (rtO l) (rtB l) w) := by
  obtain ⟨i0, hi0, hz0, hz1, hz2⟩ := info_parts Tryd.infoLimb
  obtain ⟨O, hO⟩ : ∃ O, rtO l = O := ⟨_, rfl⟩
  obtain ⟨Bl, hBl⟩ : ∃ Bl, rtB l = Bl := ⟨_, rfl⟩
  have HD : Hid (dc l = none → O = none ∧ Bl = false) := hide (fun c => by rw [← hO, ← hBl]; unfold rtO rtB; rw [c]; exact ⟨rfl, rfl⟩)
  have HY : Hid (∀ o, dc l = some o → O = o ∧ Bl = true) := hide (fun o c => by rw [← hO, ← hBl]; unfold rtO rtB; rw [c]; exact ⟨rfl, rfl⟩)
  rw [hO, hBl]
  clear hO hBl
  unfold RtPost
  have hcm := h.mx
  have hcl := h.le
  unfold maxLen at hcm
  by_cases h2 : l.length ≤ 200
  · have hd2 : decide ((200 : Int) < (l.length : Int)) = false := by rw [decide_eq_false_iff_not]; omega
    have HI := hide h
    have HTb := hide hT
    have HX := hide hx
    obtain ⟨w1, hw1⟩ : ∃ w1, w1 = w.alloc (.cells #[.slice a l.length cap] 26) := ⟨_, rfl⟩
    have hs1 : w1.heap.size = w.heap.size + 1 := by rw [hw1]; simp
    have hg1 : w1.heap[w.heap.size]? = some (.cells #[.slice a l.length cap] 26) := by rw [hw1]; exact heap_alloc_new w _
    have HB1 : Hid (Below w.heap.size w w1) := hide (by rw [hw1]; exact (Below.refl _ _).alloc (Nat.le_refl _) _)
    have HG1 := hide hg1
    clear h hT hx hg1 hl
    go_enter Tryd.func63, Tryd.ntmps63
    go_wp2
    rw [← hw1]
    clear hw1
    go_loopw [4, 17] (fun v vi wr => ∃ (k : Nat) (st : List Lm), k ≤ l.length ∧ vi = .int .i64 (k : Int) ∧ Hid (rdL [] (l.take k) = some st) ∧ ∃ a0 n0 c0, v = .slice a0 n0 c0 ∧ n0 = st.length ∧ Hid (LmOwn wr w1.heap.size (.slice a0 n0 c0) st ∧ Below w1.heap.size w1 wr)) (fun _ vi _ => l.length - (intOf vi).toNat)
    case atStart => exact ⟨0, [], by omega, rfl, hide rfl, none, 0, 0, rfl, rfl, hide ⟨World.ownsRow_nil _ _ _ _, Below.refl _ _⟩⟩
    case round =>
      obtain ⟨k, st, hk, rfl, HRD, a0, n0, c0, rfl, rfl, HR⟩ := hrel
      have HOK := hide (rdL_ok _ HRD.out (fun t ht => by cases ht))
      have hnl : st.length ≤ k := by
        have h1 := HOK.out.2.1
        have h2 := nbs_len st
        rw [List.length_take] at h1
        have h3 : nbs [] = 0 := rfl
        omega
      by_cases hlt : k < l.length
      · have hne : l ≠ [] := fun c => by rw [c] at hlt; simp at hlt
        have hbw : Hid (Below w.heap.size w wr) := hide (HB1.out.trans (HR.out.2.mono (by omega)))
        obtain ⟨g, rfl, hg, hcs⟩ := (HI.out.later hbw.out).ad hne
        obtain ⟨b0, b1, b2, b3, b4⟩ := hcs.bgat k hlt
        have HT2 : Hid (rdL [] (l.take (k + 1)) = rdS st l[k]) := hide (rdL_take HRD.out hlt)
        have htx := HX.out k hlt
        obtain ⟨b, hb⟩ : ∃ b, l[k] = b := ⟨_, rfl⟩
        rw [hb] at b0 b1 b2 b3 b4 HT2 htx
        have ewl : IntKind.i64.wrap ((st.length : Int) - 1) = (st.length : Int) - 1 := by rw [IntKind.wrap_i64]; omega
        obtain ⟨wb, hwb⟩ : ∃ wb, wb = wr.alloc (.cells #[.int .i64 b.left, .int .i64 b.right, .string b.text, .int .i64 b.size, .int .i64 b.deep] 36) := ⟨_, rfl⟩
        have ctx : wb.cell? ⟨wr.heap.size, 2, none⟩ = some (.string b.text) := by rw [hwb, cell_of_row _ _ 2 _ _ (0, 0) (heap_alloc_new wr _)]; rfl
        have hbb : Below w1.heap.size w1 wb := by rw [hwb]; exact HR.out.2.alloc HR.out.2.size _
        have hob : LmOwn wb w1.heap.size (.slice a0 st.length c0) st := by rw [hwb]; exact World.ownsRow.alloc HR.out.1 _
        have hsb : wb.heap.size = wr.heap.size + 1 := by rw [hwb]; simp
        have HTw : Hid (Tab wb) := hide (HTb.out.below (HB1.out.trans (hbb.mono (by omega))))
        have PI := hide (isPiece_any b.text wb HTw.out (by omega))
        have HSB := hide hsb
        clear hb hcs hsb
        by_cases hp : gpc b.text = true
        · rw [hp] at PI
          have HN : Hid (rdL [] (l.take (k + 1)) = some (st ++ [.pc b.text])) := hide (by rw [HT2.out]; unfold rdS; rw [if_pos hp])
          have HOB := hide (And.intro hob hbb)
          have hBs := hbb.size
          clear hob hbb HR hp HOK HRD
          go_wp2_with fail
          rw [← hwb]
          clear hwb
          refine PI.out.mono ?_
          rintro e w' ⟨rfl, hw⟩
          replace hw := hw.symm
          subst hw
          go_wp2_with (at_builtin; go_loud (refine wpList_append_loc _ rfl _ _ 201 rfl w1.heap.size 106 i0 .nilIface 1 16 Tryd.underlying201 hi0 hz0 hz1 hz2 rfl (by decide) _ _ _ rfl (World.ownsRow.alloc HOB.out.1 _) ⟨wb.heap.size, 0, none⟩ 1 1 [.iface 200 (.string b.text)] rfl rfl (World.news_of_block (cs := #[.iface 200 (.string b.text)]) (t := 106) (fr := (0, 0)) (heap_alloc_new wb _)) (by simp [Value.oneCell']) (by unfold maxLen; omega) (by omega) (by simp; omega) ?_); intro v3 w3 own3 grow3 loc3; have HR3 : Hid (LmOwn w3 w1.heap.size v3 (st ++ [.pc b.text]) ∧ Below w1.heap.size w1 w3) := hide ⟨LmOwn.app own3, below_append HOB.out.2 HOB.out.1 hBs grow3⟩; clear own3 grow3 loc3 HOB)
          obtain ⟨a3, c3, rfl, -⟩ := own_shp HR3.out.1
          exact ⟨⟨k + 1, st ++ [.pc b.text], by omega, by go_num, HN, a3, _, c3, rfl, rfl, HR3⟩, by simp [intOf]; omega⟩
        · rw [Bool.not_eq_true] at hp
          rw [hp] at PI
          by_cases h3 : st.length < 2
          · have HN : Hid (dc l = none) := hide (dc_bad (rdL_bad (k := k + 1) (by rw [HT2.out]; unfold rdS; rw [hp]; simp [h3])))
            have hd3 : decide ((st.length : Int) - 1 < 1) = true := by rw [decide_eq_true_iff]; omega
            obtain ⟨rfl, rfl⟩ := HD.out HN.out
            have HBE : Hid (Below w.heap.size w wb) := hide (HB1.out.trans (hbb.mono (by omega)))
            clear hob hbb HR hp HOK HRD
            go_wp2_with fail
            rw [← hwb]
            clear hwb
            refine PI.out.mono ?_
            rintro e w' ⟨rfl, hw⟩
            replace hw := hw.symm
            subst hw
            go_wp2
            go_ret2
            exact ⟨rfl, HBE.out⟩
          · obtain ⟨x, p, q, rfl, hxl⟩ := two_last (st := st) (by omega)
            have HN : Hid (rdL [] (l.take (k + 1)) = some (x ++ [.jn p q])) := hide (by
              rw [HT2.out]; unfold rdS; rw [hp]
              simp only [Bool.false_eq_true, if_false, if_neg h3]
              rw [(last_two x p q).1, (last_two x p q).2.1, (last_two x p q).2.2])
            obtain ⟨gl, cc, e0, z1, z2, z3, z4, z5, -⟩ := own_cat hob (by simp)
            simp only [Value.slice.injEq] at e0
            obtain ⟨rfl, -, rfl⟩ := e0
            have cp : wb.cell? ⟨gl, x.length, none⟩ = some (lv p) := z5 _ _ (by rw [List.map_append, List.map_append, List.append_assoc, List.getElem?_append_right (by simp)]; simp)
            have cq : wb.cell? ⟨gl, x.length + 1, none⟩ = some (lv q) := z5 _ _ (by rw [List.map_append, List.getElem?_append_right (by simp)]; simp)
            have gp := HOK.out.1 p (by simp)
            have gq := HOK.out.1 q (by simp)
            have np := nbs_mem (st := x ++ [p] ++ [q]) (t := p) (by simp)
            have nq := nbs_mem (st := x ++ [p] ++ [q]) (t := q) (by simp)
            have hnb := HOK.out.2.1
            rw [List.length_take, show nbs [] = 0 from rfl] at hnb
            have sp : p.sz ≤ 1000000 := by have := (gd_sz gp).2; omega
            have sq : q.sz ≤ 1000000 := by have := (gd_sz gq).2; omega
            obtain ⟨n, hn⟩ : ∃ n, (x ++ [p] ++ [q]).length = n := ⟨_, rfl⟩
            obtain ⟨m, hm⟩ : ∃ m, x.length = m := ⟨_, rfl⟩
            obtain ⟨z, hz⟩ : ∃ z, z = m + 1 := ⟨_, rfl⟩
            have hnm : n = m + 2 := by rw [← hn, ← hm]; simp
            have hnb2 : n ≤ 201 := by rw [← hn]; omega
            rw [hn] at hob z1 ewl ⊢
            rw [hm, ← hz] at cq
            rw [hm] at cp
            have HOC : Hid (∀ w', Below wb.heap.size wb w' → w'.ownsRow w1.heap.size 106 1 (.slice (some ⟨gl, 0, none⟩) m c0) m (x.map lv)) := hide (fun w' hb => by
              have h1 := own_below (LmOwn.cut2 hob (by rw [hm]; omega)) hb
              rw [hm] at h1
              exact h1)
            have hmn : m < n := by omega
            have hzn : z < n := by omega
            have ew1 : IntKind.i64.wrap ((n : Int) - 1) = (z : Int) := by rw [IntKind.wrap_i64]; omega
            have ew2 : IntKind.i64.wrap ((z : Int) - 1) = (m : Int) := by rw [IntKind.wrap_i64]; omega
            have hd3 : decide ((z : Int) < 1) = false := by rw [decide_eq_false_iff_not]; omega
            have hcut : ∀ w, (Instr.slice 201 (.slice (some ⟨gl, 0, none⟩) n c0) none (some (.int .i64 (m : Int))) none).run Tryd.prog w = .ok (.slice (some ⟨gl, 0, none⟩) m c0) w := fun w => by
              have : m ≤ c0 := by omega
              simp [go_sem, Tryd.underlying201, this]
            have HBB := hide hbb
            have hBs := hbb.size
            have hmx : m ≤ 200 := by omega
            obtain ⟨Tp, xp, hlp⟩ := lv_is p
            obtain ⟨Tq, xq, hlq⟩ := lv_is q
            rw [hlp] at cp
            rw [hlq] at cq
            obtain ⟨Tr, xr, hlr⟩ := lv_is (.jn p q)
            have HLR := hide hlr
            have HLP := hide (And.intro hlp hlq)
            have HSP := hide (And.intro sp sq)
            have HMX : Hid (x.length = m) := hide hm
            clear hob hbb HR hp HOK HRD hn hm hz hnm ewl h3 hnl gp gq np nq hnb sp sq hlp hlq hlr z5 hxl HT2 hk
            go_wp2_with fail
            rw [← hwb]
            clear hwb
            refine PI.out.mono ?_
            rintro e w' ⟨rfl, hw⟩
            replace hw := hw.symm
            subst hw
            clear b0 b1 b2 b3 b4
            go_wp2_with fail
            go_region_law
              (first
                | (refine step_join (by rfl) _ _ _ _ (by rfl) p q HSP.out.1 HSP.out.2 (by rw [HLP.out.1]; rfl) (by rw [HLP.out.2]; rfl) (.iface Tr xr) HLR.out ?_; intro wj hbj; have hbj' : Below wb.heap.size wb wj := (by first | exact hbj | exact (Below.refl _ _).drew.trans hbj); have hsj := hbj'.size)
                | (refine step_append_lies _ (by rfl) _ _ _ (by rfl) w1.heap.size 106 i0 _ 1 16 Tryd.underlying201 hi0 hz0 hz1 hz2 rfl (by omega) (.slice (some ⟨gl, 0, none⟩) m c0) m (x.map lv) (by rfl) ((HOC.out _ hbj').alloc _) ⟨wj.heap.size, 0, none⟩ 1 1 [.iface Tr xr] (by rfl) (by rfl) (World.news_of_block (cs := #[.iface Tr xr]) (t := 106) (fr := (0, 0)) (heap_alloc_new wj _)) (by simp [Value.oneCell']) (by omega) (by unfold maxLen; omega) (by omega) (by simp; omega) (wj.heap.size + 1) (by simp) ?_; intro gg cap' w5 hown1 hgrow hat hlt5))
            all_goals
              have HR5 : Hid (LmOwn w5 w1.heap.size (.slice (some ⟨gg, 0, none⟩) (m + 1) cap') (x ++ [.jn p q]) ∧ Below w1.heap.size w1 w5) := hide ⟨by
                have hm := HMX.out
                rw [← HLR.out, ← hm] at hown1
                rw [← hm]
                exact LmOwn.app hown1, below_append (HBB.out.trans (hbj'.mono hBs)) (HOC.out _ hbj') (by omega) hgrow⟩
              have HMQ : Hid (m + 1 = (x ++ [Lm.jn p q]).length) := hide (by rw [← HMX.out]; simp)
              clear hown1 hgrow hat hlt5 HOC HBB hbj hbj' hsj
              go_wp2
              exact ⟨⟨k + 1, _, by omega, by go_num, HN, _, _, _, rfl, HMQ.out, HR5⟩, by simp [intOf]; omega⟩
      · have hke : k = l.length := by omega
        have HRL : Hid (rdL [] l = some st) := hide (by have := HRD.out; rw [hke, List.take_of_length_le (Nat.le_refl _)] at this; exact this)
        have HBW : Hid (Below w.heap.size w wr) := hide (HB1.out.trans (HR.out.2.mono (by omega)))
        by_cases hl0 : l = []
        · have hst : st.length = 0 := by have := HRL.out; rw [hl0] at this; cases this; rfl
          have hdc : dc l = some none := dc_some (o := none) hl0
          obtain ⟨rfl, rfl⟩ := HY.out none hdc
          rw [hst]
          clear hdc hst hl0 hke HR HOK
          go_wp2
          go_ret2
          exact ⟨rfl, HBW.out⟩
        · obtain ⟨t, r, rfl, gt, nt, d1, d2⟩ := dc_rd hl0 HRL.out
          obtain ⟨gl, cc, e0, z1, z2, z3, z4, z5, -⟩ := own_cat HR.out.1 (by simp)
          simp only [Value.slice.injEq] at e0
          obtain ⟨rfl, -, rfl⟩ := e0
          have ct : wr.cell? ⟨gl, 0, none⟩ = some (lv t) := z5 _ _ rfl
          obtain ⟨gr, rfl, hgr, hcr⟩ := (HI.out.later HBW.out).ad hl0
          have hst : (t :: r).length = r.length + 1 := rfl
          rw [hst] at hnl ⊢
          have hst0 : (((r.length + 1 : Nat) : Int) == 0) = false := by rw [beq_eq_false_iff_ne]; omega
          obtain ⟨n, hn⟩ : ∃ n, r.length + 1 = n := ⟨_, rfl⟩
          have hn0 : 0 < n := by omega
          rw [hn] at hnl hst0 ⊢
          have hsz := (gd_sz gt).2
          have RW := hide (ropeWith_some t wr (by omega) (by omega))
          have hgb : wr.heap[w.heap.size]? = some (.cells #[.slice (some ⟨gr, 0, none⟩) l.length cap] 26) := by rw [HR.out.2.block _ (by omega)]; exact HG1.out
          have hsr : w.heap.size < wr.heap.size := by have := HR.out.2.size; omega
          obtain ⟨T, xt, hlt2⟩ := lv_is t
          rw [hlt2] at RW ct
          have HLT := hide hlt2
          have HCR := hide hcr
          have D1 := hide d1
          have D2 := hide d2
          clear hn hst HR HOK hsz gt d1 d2 hke hlt2 hcr z5 z3 z1
          by_cases hfit : fit (some t) = true
          · have hok : okB (some t) = t.pd 0 := by unfold okB; rw [hfit]; rfl
            rw [hok, hfit] at RW
            unfold RpPost at RW
            have hfp : t.nb ≤ 200 ∧ t.sz ≤ 300 := by unfold fit nbO szO at hfit; simpa using hfit
            go_wp2_with fail
            refine RW.out.mono ?_
            rintro e w2 ⟨v2, rfl, own2, hb2⟩
            obtain ⟨g2, c2, rfl, y1, y2, y3, y4, y5, -⟩ := BoOwn.shape own2 (pd_ne t 0)
            have HB2 : Hid (Below w.heap.size w w2) := hide (HBW.out.trans (hb2.mono (by omega)))
            have hs2 := hb2.size
            obtain ⟨w3, hw3⟩ : ∃ w3, w3 = w2.alloc (.cells #[.slice (some ⟨g2, 0, none⟩) (t.pd 0).length c2] 26) := ⟨_, rfl⟩
            have hb3 : Below w2.heap.size w2 w3 := by rw [hw3]; exact (Below.refl _ _).alloc (Nat.le_refl _) _
            have cb : w3.cell? ⟨w2.heap.size, 0, none⟩ = some (.slice (some ⟨g2, 0, none⟩) (t.pd 0).length c2) := by rw [hw3, cell_of_row _ _ 0 _ _ (0, 0) (heap_alloc_new w2 _)]; rfl
            have cr : w3.cell? ⟨w.heap.size, 0, none⟩ = some (.slice (some ⟨gr, 0, none⟩) l.length cap) := by
              rw [World.cell?_of_block (hb3.block _ (by show w.heap.size < _; omega)), World.cell?_of_block (hb2.block _ (by show w.heap.size < _; omega)), cell_of_row _ _ 0 _ _ (0, 0) hgb]; rfl
            have cr2 := cr
            rw [hw3] at cr2
            have hgl2 : gl < w2.heap.size := by omega
            have cl3 : w3.cell? ⟨gl, 0, none⟩ = some (.iface T xt) := by
              rw [World.cell?_of_block (hb3.block _ (by show gl < _; omega)), World.cell?_of_block (hb2.block _ (by show gl < _; omega))]; exact ct
            have HB3 : Hid (Below w.heap.size w w3) := hide (HB2.out.trans (hb3.mono HB2.out.size))
            have hs3 := hb3.size
            have EQ : Hid (Calls Tryd.prog 145 #[.slice (some ⟨g2, 0, none⟩) (t.pd 0).length c2, .slice (some ⟨gr, 0, none⟩) l.length cap] w3 fun e w' => e = .returned (.bool (decide (t.pd 0 = l))) ∧ Below w3.heap.size w3 w') := hide (by
              by_cases hll : (t.pd 0).length = l.length
              · have hl3 : (t.pd 0).length ≤ 200 := by rw [Lm.pd_len]; exact hfp.1
                exact equalBo_at g2 gr c2 cap (t.pd 0) l w3 (by omega) hll ⟨y1, y2⟩ ⟨hcl, by unfold maxLen; omega⟩ (y5.later hb3 y4) ((HCR.out.later hb2 hgr).later hb3 (by omega)) (by omega) (by omega)
              · rw [decide_eq_false (fun c => hll (by rw [c]))]
                exact equalBo_len _ _ _ _ _ _ w3 hll)
            clear own2 hb2 hb3 y5 HCR HB2 ct hok
            by_cases he : t.pd 0 = l
            · obtain ⟨rfl, rfl⟩ := HY.out _ (D1.out.2 ⟨hfp, he⟩)
              rw [decide_eq_true he] at EQ
              clear he D1 D2 HY HD
              go_wp2_with fail
              rw [← hw3]
              clear hw3
              refine EQ.out.mono ?_
              rintro e w4 ⟨rfl, hb4⟩
              have cl4 : w4.cell? ⟨gl, 0, none⟩ = some (.iface T xt) := by rw [World.cell?_of_block (hb4.block _ (by show gl < _; omega))]; exact cl3
              have HB4 : Hid (Below w.heap.size w w4) := hide (HB3.out.trans (hb4.mono HB3.out.size))
              clear hb4
              go_wp2
              go_ret2
              exact ⟨by rw [show lvO (some t) = .iface T xt from HLT.out] <;> rfl, HB4.out⟩
            · obtain ⟨rfl, rfl⟩ := HD.out (D2.out (fun c => he c.2))
              rw [decide_eq_false he] at EQ
              clear he D1 D2 HY HD
              go_wp2_with fail
              rw [← hw3]
              clear hw3
              refine EQ.out.mono ?_
              rintro e w4 ⟨rfl, hb4⟩
              have HB4 : Hid (Below w.heap.size w w4) := hide (HB3.out.trans (hb4.mono HB3.out.size))
              clear hb4
              go_wp2
              go_ret2
              exact ⟨rfl, HB4.out⟩
          · rw [Bool.not_eq_true] at hfit
            rw [hfit] at RW
            unfold RpPost at RW
            have hfp : ¬ (t.nb ≤ 200 ∧ t.sz ≤ 300) := fun c => by unfold fit nbO szO at hfit; simp [c] at hfit
            obtain ⟨rfl, rfl⟩ := HD.out (D2.out (fun c => hfp c.1))
            clear D1 D2 HY HD hfit hfp
            go_wp2_with fail
            refine RW.out.mono ?_
            rintro e w2 ⟨v2, rfl, own2, hb2⟩
            obtain ⟨a2, c2, rfl, -⟩ := own_shp own2
            have HB2 : Hid (Below w.heap.size w (w2.alloc (.cells #[.slice a2 (okB (some t)).length c2] 26))) := hide ((HBW.out.trans (hb2.mono (by omega))).alloc (by have := hb2.size; omega) _)
            clear own2 hb2
            go_wp2
            go_ret2
            exact ⟨rfl, HB2.out⟩
  · have hd2 : decide ((200 : Int) < (l.length : Int)) = true := by rw [decide_eq_true_iff]; omega
    obtain ⟨rfl, rfl⟩ := HD.out (dc_long (by omega))
    go_enter Tryd.func63, Tryd.ntmps63
    go_wp2
    go_ret2
    exact ⟨rfl, (Below.refl _ _).alloc (Nat.le_refl _) _⟩
end Go.Proofs.YtkjioadmebkaoaaDoor

set_option linter.unusedVariables false
namespace Go.Proofs.YtkjioadmebkaoaaDoor
open Go.RowKit
open Doc1

/-- A rope that comes in. -/
structure RIn (w : World) (a : Option Addr) (cap : Nat) (l : List Bg) : Prop where
  inn : BoIn w a cap l
  len : l.length ≤ 1048576
  txt : ∀ i (hi : i < l.length), l[i].text.size ≤ 1048576

theorem RIn.later {w w1 : World} {a : Option Addr} {cap : Nat} {l : List Bg} (h : RIn w a cap l) (hb : Below w.heap.size w w1) : RIn w1 a cap l := ⟨h.inn.later hb, h.len, h.txt⟩

theorem root_of {w : World} {a : Option Addr} {cap : Nat} {l : List Bg} (h : RIn w a cap l) (hT : Tab w) : Calls Tryd.prog 63 #[.agg #[.slice a l.length cap]] w (RtPost (rtO l) (rtB l) w) := rootOf_any a cap l w h.inn hT h.len h.txt

theorem rt_ok (l : List Bg) : gdO (rtO l) ∧ nbO (rtO l) ≤ 200 ∧ szO (rtO l) ≤ 300 := by
  unfold rtO
  cases h : dc l with
  | none => exact ⟨(fun s hs => by cases hs), (by simp [nbO]), (by simp [szO])⟩
  | some o => exact (RO_bo (dc_ro h)).2

theorem pcO_len (o : Option Lm) : (pcO o).length ≤ nbO o := by
  cases o with
  | none => exact Nat.le_refl _
  | some t => have := Lm.nb_pcs t; simp only [pcO, nbO]; have := Lm.nb_pos t; omega

theorem pcO_tot (o : Option Lm) : tot (pcO o) = szO o := (szO_pc o).symm

/-- A result that lies in a block of one cell. -/
def CellR (w : World) (c : Nat) (x : Value) : Prop := w.heap[c]? = some (.cells #[x] 26)

theorem CellR.later {w w1 : World} {c : Nat} {x : Value} (h : CellR w c x) (hb : Below w.heap.size w w1) : CellR w1 c x := by
  have hc : c < w.heap.size := (Array.getElem?_eq_some_iff.1 h).1
  unfold CellR; rw [hb.block c hc]; exact h

theorem CellR.cell {w : World} {c : Nat} {x : Value} (h : CellR w c x) : w.cell? ⟨c, 0, none⟩ = some x := by rw [cell_of_row _ _ 0 _ _ (0, 0) h]; rfl

theorem CellR.fz {w : World} {c : Nat} {x : Value} (h : CellR w c x) : w.frozen? ⟨c, 0, none⟩ = false := frozen_of_row h 0

theorem CellR.lt {w : World} {c : Nat} {x : Value} (h : CellR w c x) : c < w.heap.size := (Array.getElem?_eq_some_iff.1 h).1

theorem CellR.put {w : World} {c : Nat} {x : Value} (h : CellR w c x) (y : Value) : CellR (w.setCell ⟨c, 0, none⟩ y) c y := cell_put h 0 y

theorem CellR.new (w : World) (x : Value) : CellR (w.alloc (.cells #[x] 26)) w.heap.size x := heap_alloc_new w _

theorem boxes2 (w : World) (x y : Value) : ((w.alloc (.cells #[x] 26)).alloc (.cells #[y] 26)).heap.size = w.heap.size + 2 ∧ Below w.heap.size w ((w.alloc (.cells #[x] 26)).alloc (.cells #[y] 26)) ∧ CellR ((w.alloc (.cells #[x] 26)).alloc (.cells #[y] 26)) w.heap.size x ∧ CellR ((w.alloc (.cells #[x] 26)).alloc (.cells #[y] 26)) (w.heap.size + 1) y := by
  refine ⟨by simp, ((Below.refl _ _).alloc (Nat.le_refl _) _).alloc (by simp) _, (CellR.new w x).later ((Below.refl _ _).alloc (Nat.le_refl _) _), ?_⟩
  have := CellR.new (w.alloc (.cells #[x] 26)) y
  rwa [show (w.alloc (.cells #[x] 26)).heap.size = w.heap.size + 1 by simp] at this

theorem boxes3 (w : World) (x y z : Value) : (((w.alloc (.cells #[x] 26)).alloc (.cells #[y] 26)).alloc (.cells #[z] 26)).heap.size = w.heap.size + 3 ∧ Below w.heap.size w (((w.alloc (.cells #[x] 26)).alloc (.cells #[y] 26)).alloc (.cells #[z] 26)) ∧ CellR (((w.alloc (.cells #[x] 26)).alloc (.cells #[y] 26)).alloc (.cells #[z] 26)) w.heap.size x ∧ CellR (((w.alloc (.cells #[x] 26)).alloc (.cells #[y] 26)).alloc (.cells #[z] 26)) (w.heap.size + 1) y ∧ CellR (((w.alloc (.cells #[x] 26)).alloc (.cells #[y] 26)).alloc (.cells #[z] 26)) (w.heap.size + 2) z := by
  obtain ⟨h1, h2, h3, h4⟩ := boxes2 w x y
  have hb := (Below.refl ((w.alloc (.cells #[x] 26)).alloc (.cells #[y] 26)).heap.size ((w.alloc (.cells #[x] 26)).alloc (.cells #[y] 26))).alloc (Nat.le_refl _) (.cells #[z] 26)
  refine ⟨by simp, h2.trans (hb.mono h2.size), h3.later hb, h4.later hb, ?_⟩
  have := CellR.new ((w.alloc (.cells #[x] 26)).alloc (.cells #[y] 26)) z
  rwa [h1] at this

set_option maxRecDepth 100000 in
set_option maxHeartbeats 4000000 in
theorem goodRopeI {w : World} {a : Option Addr} {cap : Nat} {l : List Bg} (h : RIn w a cap l) (hT : Tab w) :
    Calls Tryd.prog 13 #[.agg #[.slice a l.length cap]] w fun e w' => e = .returned (.bool (rtB l)) ∧ Below w.heap.size w w' := by
  have hb1 : Below w.heap.size w (w.alloc (.cells #[.slice a l.length cap] 26)) := (Below.refl _ _).alloc (Nat.le_refl _) _
  have R := hide (root_of (h.later hb1) (hT.below hb1))
  have HB1 := hide hb1
  unfold RtPost at R
  obtain ⟨vo, hvo⟩ : ∃ vo, lvO (rtO l) = vo := ⟨_, rfl⟩
  rw [hvo] at R
  clear hb1 h hT hvo
  go_enter Tryd.func13, Tryd.ntmps13
  go_wp2_with fail
  refine R.out.mono ?_
  rintro e w2 ⟨rfl, hb2⟩
  go_wp2
  go_ret
  exact ⟨rfl, HB1.out.trans (hb2.mono (by simp))⟩

set_option maxRecDepth 100000 in
set_option maxHeartbeats 4000000 in
theorem addPieces_opt (o : Option Lm) (w : World) (hn : nbO o ≤ 10000) (hz : szO o ≤ 100000) : Calls Tryd.prog 65 #[.slice none 0 0, lvO o] w fun e w' => ∃ v, e = .returned v ∧ PcOwn w' w.heap.size v (pcO o) ∧ Below w.heap.size w w' := by
  cases o with
  | none => exact (addPieces_none w.heap.size _ [] w (PcOwn.nil _ _) (Nat.le_refl _)).mono (fun e w' ⟨v, h1, h2, h3, _⟩ => ⟨v, h1, h2, h3.b⟩)
  | some t => exact (addPieces_any t w.heap.size _ [] w (PcOwn.nil _ _) (Nat.le_refl _) (by simp only [nbO] at hn; simp; omega) (by simp only [szO] at hz; omega)).mono (fun e w' ⟨v, h1, h2, h3, _⟩ => ⟨v, h1, h2, h3.b⟩)

set_option maxRecDepth 100000 in
set_option maxHeartbeats 4000000 in
theorem textInI {w : World} {a : Option Addr} {cap : Nat} {l : List Bg} (h : RIn w a cap l) (hT : Tab w) :
    Calls Tryd.prog 12 #[.agg #[.slice a l.length cap]] w fun e w' => e = .returned (.tuple #[.string (catB (pcO (rtO l))), .bool (rtB l)]) ∧ Below w.heap.size w w' := by
  have hb1 : Below w.heap.size w (w.alloc (.cells #[.slice a l.length cap] 26)) := (Below.refl _ _).alloc (Nat.le_refl _) _
  have R := hide (root_of (h.later hb1) (hT.below hb1))
  have HB1 := hide hb1
  unfold RtPost at R
  have hok := rt_ok l
  have A1 := hide (fun w => addPieces_opt (rtO l) w (by omega) (by omega))
  have hp := pcO_len (rtO l)
  have ht := pcO_tot (rtO l)
  have T1 := hide (fun (w : World) (B : Nat) (v : Value) (h : PcOwn w B v (pcO (rtO l))) => textOfPieces_own h (by omega) (by omega))
  obtain ⟨vo, hvo⟩ : ∃ vo, lvO (rtO l) = vo := ⟨_, rfl⟩
  rw [hvo] at R A1
  clear hb1 h hT hvo hok hp ht
  go_enter Tryd.func12, Tryd.ntmps12
  go_wp2_with fail
  refine R.out.mono ?_
  rintro e w2 ⟨rfl, hb2⟩
  have HB2 : Hid (Below w.heap.size w w2) := hide (HB1.out.trans (hb2.mono (by simp)))
  clear hb2
  go_wp2_with fail
  refine (A1.out w2).mono ?_
  rintro e w3 ⟨v3, rfl, own3, hb3⟩
  have HB3 : Hid (Below w.heap.size w w3) := hide (HB2.out.trans (hb3.mono HB2.out.size))
  have T2 := hide (T1.out w3 _ v3 own3)
  clear hb3 own3 T1
  go_wp2_with fail
  refine T2.out.mono ?_
  rintro e w4 ⟨rfl, hb4⟩
  have HB4 : Hid (Below w.heap.size w w4) := hide (HB3.out.trans (hb4.mono HB3.out.size))
  clear hb4
  go_wp2
  go_ret2
  exact ⟨rfl, HB4.out⟩

/-- A rope of a text. -/
noncomputable def roL (s : ByteArray) : List Bg := if good s.data.toList then okB (evn (cutL s)) else []

noncomputable def roB (s : ByteArray) : Bool := good s.data.toList && fit (evn (cutL s))

theorem cutP_app (s : ByteArray) (k : Nat) : catB ((List.range k).map (cutP s)) = s.extract 0 (min (8 * k) s.size) := by
  induction k with
  | zero => simp [catB]; rfl
  | succ k ih =>
    rw [List.range_succ, List.map_append, List.map_singleton, catB_snoc, ih]
    unfold cutP
    apply Doc1.ba_eq
    rw [apdB]
    simp only [ByteArray.data_extract, Array.toList_extract, List.extract_eq_take_drop]
    rw [List.drop_zero, Nat.sub_zero, Nat.sub_zero, show 8 * (k + 1) = 8 * k + 8 by omega]
    have hs : s.size = s.data.toList.length := szB s
    by_cases h : 8 * k ≤ s.size
    · rw [Nat.min_eq_left h]
      have : min (8 * k + 8) s.size = 8 * k + (min (8 * k + 8) s.size - 8 * k) := by omega
      rw [this, List.take_add, ← this]
    · rw [Nat.min_eq_right (by omega), Nat.min_eq_right (by omega), List.drop_eq_nil_of_le (by omega)]
      simp

theorem catB_cut (s : ByteArray) : catB (cutL s) = s := by
  unfold cutL
  rw [cutP_app, Nat.min_eq_right (by unfold cutN; omega), ByteArray.extract_zero_size]

theorem tot_cut (s : ByteArray) : tot (cutL s) = s.size := by rw [← catB_size, catB_cut]

theorem cutL_le (s : ByteArray) (hs : s.size ≤ 300) : (cutL s).length ≤ 38 := by rw [cutL_len]; unfold cutN; omega

theorem fit_cut (s : ByteArray) (hs : s.size ≤ 300) : fit (evn (cutL s)) = true := by
  unfold fit
  rw [nbO_evn, szO_evn, tot_cut]
  have := cutL_le s hs
  simp; omega

set_option maxRecDepth 100000 in
set_option maxHeartbeats 4000000 in
theorem ropeOfI (s : ByteArray) (w : World) (hs : s.size ≤ 1048576) (hT : Tab w) :
    Calls Tryd.prog 10 #[.string s] w (RpPost w (roL s) (roB s)) := by
  have hb1 : Below w.heap.size w (w.alloc (.cells #[.slice none 0 0] 26)) := (Below.refl _ _).alloc (Nat.le_refl _) _
  have G := hide (goodTextI_any s (w.alloc (.cells #[.slice none 0 0] 26)) hs (hT.below hb1))
  have hcr := CellR.new w (.slice none 0 0)
  have HB1 := hide hb1
  unfold RpPost
  cases hg : good s.data.toList with
  | false =>
    have e1 : roL s = [] := by unfold roL; rw [hg]; rfl
    have e2 : roB s = false := by unfold roB; rw [hg]; rfl
    rw [e1, e2]
    rw [hg] at G
    have hc := hcr.cell
    have hf := hcr.fz
    have HC := hide hcr
    clear hb1 hT hg hcr
    go_enter Tryd.func10, Tryd.ntmps10
    go_wp2_with fail
    refine G.out.mono ?_
    rintro e w1 ⟨rfl, hw⟩
    replace hw := hw.symm
    subst hw
    go_wp2
    refine bodyPost_ret (results_cell_tmp rfl _ _ w.heap.size 26 #[.slice none 0 0] (0, 0) _ (.bool false) rfl rfl (by first | exact HC.out | exact HC.out.put _) Tryd.underlying26 rfl Tryd.sizeRope) rfl ?_
    exact ⟨_, rfl, World.ownsRow_nil _ _ _ _, by first | exact HB1.out.setCell (Nat.le_refl _) _ | exact HB1.out⟩
  | true =>
    have h3 := good_len hg
    rw [← szB] at h3
    have hfit := fit_cut s h3
    have e1 : roL s = okB (evn (cutL s)) := by unfold roL; rw [hg]; rfl
    have e2 : roB s = fit (evn (cutL s)) := by unfold roB; rw [hg]; rfl
    rw [e1, e2]
    rw [hg] at G
    have hll := cutL_le s h3
    have htt := tot_cut s
    have C := hide (fun w => cutInPieces_any s w (by omega))
    have J := hide (fun (w : World) (B : Nat) (v : Value) (h : PcOwn w B v (cutL s)) => joinEvenly_own h (by omega) (by omega))
    have RW := hide (fun w => ropeWith_any (evn (cutL s)) w (by rw [szO_evn]; omega) (by rw [nbO_evn]; omega))
    obtain ⟨L, hL⟩ : ∃ L, okB (evn (cutL s)) = L := ⟨_, rfl⟩
    obtain ⟨bb, hbb⟩ : ∃ bb, fit (evn (cutL s)) = bb := ⟨_, rfl⟩
    obtain ⟨vo, hvo⟩ : ∃ vo, lvO (evn (cutL s)) = vo := ⟨_, rfl⟩
    rw [hL, hbb] at RW ⊢
    rw [hvo] at RW J
    have HC := hide hcr
    clear hb1 hT hg hcr hL hbb hvo hfit e1 e2 hll htt
    go_enter Tryd.func10, Tryd.ntmps10
    go_wp2_with fail
    refine G.out.mono ?_
    rintro e w1 ⟨rfl, hw⟩
    obtain ⟨w2, hw2⟩ : ∃ w2, w2 = w1 := ⟨_, rfl⟩
    rw [← hw2] at hw ⊢
    rw [← hw] at HC HB1
    clear hw hw2 G
    go_wp2_with fail
    refine (C.out w2).mono ?_
    rintro e w3 ⟨v3, rfl, own3, hb3⟩
    have J2 := hide (J.out w3 _ v3 own3)
    have HC3 := hide (HC.out.later hb3)
    have HB3 : Hid (Below w.heap.size w w3) := hide (HB1.out.trans (hb3.mono HB1.out.size))
    clear own3 hb3 HC HB1 J
    go_wp2_with fail
    refine J2.out.mono ?_
    rintro e w4 ⟨rfl, hb4⟩
    have HC4 := hide (HC3.out.later hb4)
    have HB4 : Hid (Below w.heap.size w w4) := hide (HB3.out.trans (hb4.mono HB3.out.size))
    clear hb4 HC3 HB3
    go_wp2_with fail
    refine (RW.out w4).mono ?_
    rintro e w5 ⟨v5, rfl, own5, hb5⟩
    obtain ⟨a5, c5, rfl, -⟩ := own_shp own5
    have HC5 := hide (HC4.out.later hb5)
    have hc := HC5.out.cell
    have hf := HC5.out.fz
    have HB5 : Hid (Below w.heap.size w w5) := hide (HB4.out.trans (hb5.mono HB4.out.size))
    have HO5 := hide (own_aside own5 HC4.out.lt 0 (.slice a5 L.length c5))
    have HS4 := hide HB4.out.size
    clear hb5 own5 HC4 HB4
    go_wp2
    refine bodyPost_ret (results_cell_tmp rfl _ _ w.heap.size 26 _ (0, 0) _ (.bool bb) rfl rfl (HC5.out.put _) Tryd.underlying26 rfl Tryd.sizeRope) rfl ?_
    exact ⟨_, rfl, own_mono HO5.out HS4.out, HB5.out.setCell (Nat.le_refl _) _⟩

/-- Two ropes joined. -/
noncomputable def jnL (l m : List Bg) : List Bg := if rtB l && rtB m then okB (jo (rtO l) (rtO m)) else []

noncomputable def jnB (l m : List Bg) : Bool := (rtB l && rtB m) && fit (jo (rtO l) (rtO m))

theorem jo_nb (a b : Option Lm) : nbO (jo a b) ≤ nbO a + nbO b + 1 := by
  cases a <;> cases b <;> simp [jo, nbO, Lm.nb]

set_option maxRecDepth 100000 in
set_option maxHeartbeats 4000000 in
theorem joinRopesI {w : World} {a a2 : Option Addr} {cap cap2 : Nat} {l m : List Bg} (h : RIn w a cap l) (h2 : RIn w a2 cap2 m) (hT : Tab w) :
    Calls Tryd.prog 18 #[.agg #[.slice a l.length cap], .agg #[.slice a2 m.length cap2]] w (RpPost w (jnL l m) (jnB l m)) := by
  obtain ⟨w1, hw1⟩ : ∃ w1, w1 = ((w.alloc (.cells #[.slice a l.length cap] 26)).alloc (.cells #[.slice a2 m.length cap2] 26)).alloc (.cells #[.slice none 0 0] 26) := ⟨_, rfl⟩
  obtain ⟨hs1, hb1, -, hc2, hc1⟩ := boxes3 w (.slice a l.length cap) (.slice a2 m.length cap2) (.slice none 0 0)
  rw [← hw1] at hs1 hb1 hc1 hc2
  have R1 := hide (root_of (h.later hb1) (hT.below hb1))
  have R2 := hide (fun w' (hb : Below w1.heap.size w1 w') => root_of (h2.later (hb1.trans (hb.mono hb1.size))) (hT.below (hb1.trans (hb.mono hb1.size))))
  unfold RtPost at R1 R2
  have ok1 := rt_ok l
  have ok2 := rt_ok m
  have J := hide (fun w => joinLimbs_any (rtO l) (rtO m) w (by omega) (by omega))
  have hjs := jo_sz (rtO l) (rtO m)
  have hjn := jo_nb (rtO l) (rtO m)
  have RW := hide (fun w => ropeWith_any (jo (rtO l) (rtO m)) w (by omega) (by omega))
  unfold RpPost at RW ⊢
  obtain ⟨L, hL⟩ : ∃ L, jnL l m = L := ⟨_, rfl⟩
  obtain ⟨bb, hbb⟩ : ∃ bb, jnB l m = bb := ⟨_, rfl⟩
  have HN : Hid ((rtB l && rtB m) = false → L = [] ∧ bb = false) := hide (fun c => by rw [← hL, ← hbb]; unfold jnL jnB; rw [c]; exact ⟨rfl, rfl⟩)
  have HY : Hid ((rtB l && rtB m) = true → L = okB (jo (rtO l) (rtO m)) ∧ bb = fit (jo (rtO l) (rtO m))) := hide (fun c => by rw [← hL, ← hbb]; unfold jnL jnB; rw [c]; exact ⟨rfl, rfl⟩)
  rw [hL, hbb]
  obtain ⟨v1, hv1⟩ : ∃ vo, lvO (rtO l) = vo := ⟨_, rfl⟩
  obtain ⟨v2, hv2⟩ : ∃ vo, lvO (rtO m) = vo := ⟨_, rfl⟩
  obtain ⟨v3, hv3⟩ : ∃ vo, lvO (jo (rtO l) (rtO m)) = vo := ⟨_, rfl⟩
  obtain ⟨L3, hL3⟩ : ∃ L3, okB (jo (rtO l) (rtO m)) = L3 := ⟨_, rfl⟩
  obtain ⟨b3, hb3⟩ : ∃ b3, fit (jo (rtO l) (rtO m)) = b3 := ⟨_, rfl⟩
  obtain ⟨bl, hbl⟩ : ∃ bl, rtB l = bl := ⟨_, rfl⟩
  obtain ⟨bm, hbm⟩ : ∃ bm, rtB m = bm := ⟨_, rfl⟩
  simp only [hv1, hv2, hv3, hL3, hb3, hbl, hbm] at R1 R2 J RW HN HY
  have HB1 := hide hb1
  have HC1 := hide hc1
  have HC2 := hide hc2
  clear hv1 hv2 hv3 hL3 hb3 hL hbb hbl hbm hjs hjn ok1 ok2 h h2 hT hb1 hc1 hc2
  go_enter Tryd.func18, Tryd.ntmps18
  go_wp2_with fail
  rw [← hw1]
  clear hw1
  refine R1.out.mono ?_
  rintro e w2 ⟨rfl, hb2⟩
  have HB2 : Hid (Below w.heap.size w w2) := hide (HB1.out.trans (hb2.mono HB1.out.size))
  have HC12 := hide (HC1.out.later hb2)
  have cc := (HC2.out.later hb2).cell
  have R3 := hide (R2.out w2 hb2)
  clear hb2 R2 HC1 HC2 HB1
  go_wp2_with fail
  refine R3.out.mono ?_
  rintro e w3 ⟨rfl, hb3⟩
  have HB3 : Hid (Below w.heap.size w w3) := hide (HB2.out.trans (hb3.mono HB2.out.size))
  have HC3 := hide (HC12.out.later hb3)
  clear hb3 HC12 HB2 cc
  cases hq : (bl && bm) with
  | false =>
    obtain ⟨rfl, rfl⟩ := HN.out hq
    have hc := HC3.out.cell
    have hf := HC3.out.fz
    have hq2 : bl = false ∨ (bl = true ∧ bm = false) := by cases bl <;> cases bm <;> simp_all
    clear HN HY hq
    rcases hq2 with rfl | ⟨rfl, rfl⟩
    all_goals
      go_wp2
      refine bodyPost_ret (results_cell_tmp rfl _ _ (w.heap.size + 2) 26 _ (0, 0) _ (.bool false) rfl rfl (HC3.out.put _) Tryd.underlying26 rfl Tryd.sizeRope) rfl ?_
      exact ⟨_, rfl, World.ownsRow_nil _ _ _ _, HB3.out.setCell (by show w.heap.size ≤ w.heap.size + 2; omega) _⟩
  | true =>
    obtain ⟨rfl, rfl⟩ := HY.out hq
    rw [Bool.and_eq_true] at hq
    obtain ⟨rfl, rfl⟩ := hq
    clear HN HY
    go_wp2_with fail
    refine (J.out w3).mono ?_
    rintro e w4 ⟨rfl, hb4⟩
    have HC4 := hide (HC3.out.later hb4)
    have HB4 : Hid (Below w.heap.size w w4) := hide (HB3.out.trans (hb4.mono HB3.out.size))
    clear hb4 HC3 HB3
    go_wp2_with fail
    refine (RW.out w4).mono ?_
    rintro e w5 ⟨v5, rfl, own5, hb5⟩
    obtain ⟨a5, c5, rfl, -⟩ := own_shp own5
    have HC5 := hide (HC4.out.later hb5)
    have hc := HC5.out.cell
    have hf := HC5.out.fz
    have HB5 : Hid (Below w.heap.size w w5) := hide (HB4.out.trans (hb5.mono HB4.out.size))
    have HO5 := hide (own_aside own5 HC4.out.lt 0 (.slice a5 L.length c5))
    have HS4 := hide HB4.out.size
    clear hb5 own5 HC4 HB4
    go_wp2
    refine bodyPost_ret (results_cell_tmp rfl _ _ (w.heap.size + 2) 26 _ (0, 0) _ (.bool bb) rfl rfl (HC5.out.put _) Tryd.underlying26 rfl Tryd.sizeRope) rfl ?_
    exact ⟨_, rfl, own_mono HO5.out HS4.out, HB5.out.setCell (by show w.heap.size ≤ w.heap.size + 2; omega) _⟩
end Go.Proofs.YtkjioadmebkaoaaDoor

set_option linter.unusedVariables false
namespace Go.Proofs.YtkjioadmebkaoaaDoor
open Go.RowKit
open Doc1

noncomputable def rbL (l : List Bg) : List Bg := if rtB l then okB (evn (pcO (rtO l))) else []

noncomputable def rbB (l : List Bg) : Bool := rtB l && fit (evn (pcO (rtO l)))

theorem Tryd.infoStr : (Tryd.prog.info? 9).map (fun i => (i.zero, i.size, i.bytes)) = some (some (.string ⟨#[]⟩), 1, 16) := by kernel_rfl

/-- A row of texts of one's own. -/
def TxOwn (w : World) (B : Nat) (v : Value) (l : List ByteArray) : Prop := w.ownsRow B 9 1 v l.length (stC l)

theorem TxOwn.app {w : World} {B : Nat} {v : Value} {l : List ByteArray} {s : ByteArray} (h : w.ownsRow B 9 1 v (l.length + 1) (stC l ++ [.string s])) : TxOwn w B v (l ++ [s]) := by
  unfold TxOwn
  rw [List.length_append]
  unfold stC at h ⊢
  rw [List.map_append]
  exact h

end Go.Proofs.YtkjioadmebkaoaaDoor

set_option linter.unusedVariables false
namespace Go.Proofs.YtkjioadmebkaoaaDoor
open Go.RowKit
open Doc1

/-- The numbers of Fibonacci from the second on. -/
def fb : Nat → Nat
  | 0 => 1
  | 1 => 2
  | n + 2 => fb n + fb (n + 1)

theorem fb_pos : ∀ n, 0 < fb n
  | 0 => by decide
  | 1 => by decide
  | n + 2 => by have := fb_pos n; simp only [fb]; omega

theorem fb_up (n : Nat) : fb n < fb (n + 1) ∧ fb (n + 1) ≤ 2 * fb n := by
  induction n with
  | zero => decide
  | succ n ih => have := fb_pos n; simp only [fb]; omega

theorem fb_mono {n m : Nat} (h : n ≤ m) : fb n ≤ fb m := by
  induction m with
  | zero => rw [Nat.le_zero.1 h]; exact Nat.le_refl _
  | succ m ih =>
    by_cases c : n ≤ m
    · have := ih c; have := fb_up m; omega
    · rw [show n = m + 1 by omega]; exact Nat.le_refl _

def lng (size deep : Nat) : Bool := decide (fb deep ≤ size)

/-- Boughs of a good rope: their numbers are small. -/
theorem pd_small (t : Lm) : ∀ (o : Nat), ∀ b ∈ t.pd o, ∃ (z d : Nat), b.size = (z : Int) ∧ b.deep = (d : Int) ∧ z ≤ t.sz ∧ d ≤ t.dp := by
  induction t with
  | pc s => intro o b hb; simp only [Lm.pd, List.mem_singleton] at hb; subst hb; exact ⟨s.size, 0, rfl, rfl, Nat.le_refl _, Nat.le_refl _⟩
  | jn a b iha ihb =>
    intro o x hx
    simp only [Lm.pd, List.mem_append, List.mem_singleton] at hx
    simp only [Lm.sz, Lm.dp]
    rcases hx with h | h | h
    · obtain ⟨z, d, h1, h2, h3, h4⟩ := iha _ _ h
      exact ⟨z, d, h1, h2, by omega, by omega⟩
    · obtain ⟨z, d, h1, h2, h3, h4⟩ := ihb _ _ h
      exact ⟨z, d, h1, h2, by omega, by omega⟩
    · subst h
      exact ⟨a.sz + b.sz, max a.dp b.dp + 1, rfl, rfl, Nat.le_refl _, Nat.le_refl _⟩

theorem rt_small {l : List Bg} (h : rtB l = true) : ∀ i (hi : i < l.length), ∃ (z d : Nat), l[i].size = (z : Int) ∧ l[i].deep = (d : Int) ∧ z ≤ 300 ∧ d ≤ 200 := by
  intro i hi
  unfold rtB at h
  obtain ⟨o, ho⟩ := Option.isSome_iff_exists.1 h
  obtain ⟨e, hg, hn, hz⟩ := RO_bo (dc_ro ho)
  cases o with
  | none => rw [e] at hi; simp [bo] at hi
  | some t =>
    obtain ⟨b, hb⟩ : ∃ b, l[i] = b := ⟨_, rfl⟩
    have hm : b ∈ l := hb ▸ List.getElem_mem hi
    rw [hb]
    rw [e] at hm
    obtain ⟨z, d, h1, h2, h3, h4⟩ := pd_small t 0 _ hm
    have := Lm.dp_lt t
    simp only [nbO, szO] at hn hz
    exact ⟨z, d, h1, h2, by omega, by omega⟩

def lngB (b : Bg) : Bool := lng b.size.toNat b.deep.toNat

noncomputable def blB (l : List Bg) : Bool := rtB l && l.all lngB

end Go.Proofs.YtkjioadmebkaoaaDoor

set_option linter.unusedVariables false
namespace Go.Proofs.YtkjioadmebkaoaaDoor
open Go.RowKit
open Doc1

theorem good_of {l m : List UInt8} (h : good l = true) (hs : ∀ c ∈ m, c ∈ l) (hl : m.length ≤ l.length) : good m = true := by
  unfold good allOk at h ⊢
  simp only [Bool.and_eq_true, decide_eq_true_eq, List.all_eq_true] at h ⊢
  exact ⟨fun c hc => h.1 c (hs c hc), by omega⟩

theorem ext_list (s : ByteArray) (a b : Nat) : (s.extract a b).data.toList = (s.data.toList.take b).drop a := by
  simp only [ByteArray.data_extract, Array.toList_extract, List.extract_eq_take_drop, List.drop_take]

theorem gpc_ext {s : ByteArray} (h : gpc s = true) {a b : Nat} (hab : a < b) (hb : b ≤ s.size) : gpc (s.extract a b) = true := by
  have h8 := gpc_bd h
  have hg : good (s.extract a b).data.toList = true := good_of (gpc_good h) (fun c hc => by rw [ext_list] at hc; exact List.mem_of_mem_take (List.mem_of_mem_drop hc)) (by rw [← szB, ← szB, ByteArray.size_extract]; omega)
  unfold gpc
  rw [hg]
  simp only [ByteArray.size_extract, Bool.and_true, Bool.and_eq_true, decide_eq_true_eq]
  omega

theorem spl_nb (t : Lm) : ∀ n, nbO (spl t n).1 ≤ t.nb ∧ nbO (spl t n).2 ≤ t.nb := by
  induction t with
  | pc s => intro n; simp only [spl]; split; · simp [nbO, Lm.nb]
            · split <;> simp [nbO, Lm.nb]
  | jn a b iha ihb =>
    intro n
    simp only [spl, Lm.nb]
    split
    · simp [nbO, Lm.nb]
    · split
      · simp [nbO, Lm.nb]
      · split
        · refine ⟨?_, ?_⟩
          · have := (iha n).1; show nbO (spl a n).1 ≤ _; omega
          · have h1 := jo_nb (spl a n).2 (some b); have := (iha n).2; show nbO (jo (spl a n).2 (some b)) ≤ _; rw [show nbO (some b) = b.nb from rfl] at h1; omega
        · refine ⟨?_, ?_⟩
          · have h1 := jo_nb (some a) (spl b (n - a.sz)).1; have := (ihb (n - a.sz)).1; show nbO (jo (some a) (spl b (n - a.sz)).1) ≤ _; rw [show nbO (some a) = a.nb from rfl] at h1; omega
          · have := (ihb (n - a.sz)).2; show nbO (spl b (n - a.sz)).2 ≤ _; omega

theorem gdO_some {t : Lm} (h : t.gd) : gdO (some t) := h

theorem gdO_none : gdO none := fun s hs => by cases hs

theorem spl_gd (t : Lm) : ∀ n, n ≤ t.sz → t.gd → gdO (spl t n).1 ∧ gdO (spl t n).2 := by
  induction t with
  | pc s =>
    intro n hn h
    simp only [Lm.sz] at hn
    have hp := gd_pc.1 h
    simp only [spl]
    split
    · exact ⟨gdO_none, h⟩
    · split
      · exact ⟨h, gdO_none⟩
      · exact ⟨gd_pc.2 (gpc_ext hp (by omega) hn), gd_pc.2 (gpc_ext hp (by omega) (Nat.le_refl _))⟩
  | jn a b iha ihb =>
    intro n hn h
    simp only [Lm.sz] at hn
    obtain ⟨ga, gb⟩ := gd_jn.1 h
    simp only [spl]
    split
    · exact ⟨gdO_none, h⟩
    · split
      · exact ⟨h, gdO_none⟩
      · split
        · rename_i h1 h2 h3
          exact ⟨(iha n h3 ga).1, jo_gd (iha n h3 ga).2 gb⟩
        · rename_i h1 h2 h3
          exact ⟨jo_gd ga (ihb (n - a.sz) (by omega) gb).1, (ihb (n - a.sz) (by omega) gb).2⟩

/-- The text of a tree. -/
def txO (o : Option Lm) : List UInt8 := (catB (pcO o)).data.toList

theorem txO_jo (a b : Option Lm) : txO (jo a b) = txO a ++ txO b := by unfold txO; rw [jo_pc, catB_app, apdB]

theorem txO_len (o : Option Lm) : (txO o).length = szO o := by unfold txO; rw [← szB, catB_size, pcO_tot]

theorem txO_none : txO none = [] := rfl

theorem txO_pc (s : ByteArray) : txO (some (.pc s)) = s.data.toList := by unfold txO; rw [catB_list]; simp [pcO, Lm.pcs]

theorem txO_jn (a b : Lm) : txO (some (.jn a b)) = txO (some a) ++ txO (some b) := txO_jo (some a) (some b)

theorem spl_tx (t : Lm) : ∀ n, n ≤ t.sz → txO (spl t n).1 = (txO (some t)).take n ∧ txO (spl t n).2 = (txO (some t)).drop n := by
  induction t with
  | pc s =>
    intro n hn
    simp only [Lm.sz] at hn
    have hs := szB s
    rw [txO_pc]
    simp only [spl]
    split
    · subst n; simp [txO_none, txO_pc]
    · split
      · subst n; rw [List.take_of_length_le (by omega), List.drop_eq_nil_of_le (by omega)]; exact ⟨txO_pc s, rfl⟩
      · rw [txO_pc, txO_pc, ext_list, ext_list]
        rw [List.drop_zero]
        exact ⟨rfl, by rw [List.take_of_length_le (by omega)]⟩
  | jn a b iha ihb =>
    intro n hn
    simp only [Lm.sz] at hn
    have la := txO_len (some a)
    have lb := txO_len (some b)
    simp only [szO] at la lb
    simp only [spl]
    split
    · subst n; simp [txO_none]
    · split
      · subst n
        have hl : (txO (some (.jn a b))).length = a.sz + b.sz := by rw [txO_len]; rfl
        rw [List.take_of_length_le (by omega), List.drop_eq_nil_of_le (by omega)]
        exact ⟨rfl, rfl⟩
      · split
        · rename_i h1 h2 h3
          have := iha n h3
          rw [txO_jn]
          refine ⟨?_, ?_⟩
          · show txO (spl a n).1 = _
            rw [this.1, List.take_append_of_le_length (by omega)]
          · show txO (jo (spl a n).2 (some b)) = _
            rw [txO_jo, this.2, List.drop_append_of_le_length (by omega)]
        · rename_i h1 h2 h3
          have := ihb (n - a.sz) (by omega)
          rw [txO_jn]
          refine ⟨?_, ?_⟩
          · show txO (jo (some a) (spl b (n - a.sz)).1) = _
            rw [txO_jo, this.1, List.take_append, show (txO (some a)).take n = txO (some a) from List.take_of_length_le (by omega), la]
          · show txO (spl b (n - a.sz)).2 = _
            rw [this.2, List.drop_append, show (txO (some a)).drop n = [] from List.drop_eq_nil_of_le (by omega), la]; rfl

noncomputable def spOk (l : List Bg) (n : Int) : Bool := rtB l && (decide (0 ≤ n) && decide (n ≤ (szO (rtO l) : Int)))

noncomputable def spL1 (l : List Bg) (n : Int) : List Bg := if spOk l n then bo (splO (rtO l) n.toNat).1 else []

noncomputable def spL2 (l : List Bg) (n : Int) : List Bg := if spOk l n then bo (splO (rtO l) n.toNat).2 else []

theorem splO_ok (o : Option Lm) (n : Nat) (hn : n ≤ szO o) (hz : szO o ≤ 300) (hb : nbO o ≤ 200) : okB (splO o n).1 = bo (splO o n).1 ∧ okB (splO o n).2 = bo (splO o n).2 ∧ nbO (splO o n).1 ≤ 200 ∧ nbO (splO o n).2 ≤ 200 ∧ szO (splO o n).1 ≤ 300 ∧ szO (splO o n).2 ≤ 300 := by
  cases o with
  | none => exact ⟨rfl, rfl, by simp [splO, nbO], by simp [splO, nbO], by simp [splO, szO], by simp [splO, szO]⟩
  | some t =>
    simp only [nbO, szO] at hn hz hb
    have h1 := spl_nb t n
    have h2 := spl_sz t n hn
    have k1 : fit (spl t n).1 = true := by unfold fit; simp; omega
    have k2 : fit (spl t n).2 = true := by unfold fit; simp; omega
    exact ⟨by unfold okB splO; rw [k1]; rfl, by unfold okB splO; rw [k2]; rfl, by simp only [splO]; omega, by simp only [splO]; omega, by simp only [splO]; omega, by simp only [splO]; omega⟩

theorem CellR.other {w : World} {c d : Nat} {x : Value} (h : CellR w c x) (hd : d ≠ c) (y : Value) : CellR (w.setCell ⟨d, 0, none⟩ y) c x := by
  unfold CellR at h ⊢
  rw [Below.heap_setCell _ _ _ _ (fun e => hd e.symm)]
  exact h

/-- Two ropes that a function tells. -/
def Rp2Post (w : World) (l m : List Bg) (b : Bool) (e : Ending) (w' : World) : Prop := ∃ v u, e = .returned (.tuple #[.agg #[v], .agg #[u], .bool b]) ∧ BoOwn w' w.heap.size v l ∧ BoOwn w' w.heap.size u m ∧ (∀ y z, v.ownBlock = some y → u.ownBlock = some z → y ≠ z) ∧ Below w.heap.size w w'

set_option maxRecDepth 100000 in
set_option maxHeartbeats 4000000 in
theorem splitRopeI {w : World} {a : Option Addr} {cap : Nat} {l : List Bg} (n : Int) (h : RIn w a cap l) (hT : Tab w) :
    Calls Tryd.prog 21 #[.agg #[.slice a l.length cap], .int .i64 n] w (Rp2Post w (spL1 l n) (spL2 l n) (spOk l n)) := by
  obtain ⟨w1, hw1⟩ : ∃ w1, w1 = ((w.alloc (.cells #[.slice a l.length cap] 26)).alloc (.cells #[.slice none 0 0] 26)).alloc (.cells #[.slice none 0 0] 26) := ⟨_, rfl⟩
  obtain ⟨hs1, hb1, -, hc1, hc2⟩ := boxes3 w (.slice a l.length cap) (.slice none 0 0) (.slice none 0 0)
  rw [← hw1] at hs1 hb1 hc1 hc2
  have R1 := hide (root_of (h.later hb1) (hT.below hb1))
  unfold RtPost at R1
  have ok1 := rt_ok l
  have HB1 := hide hb1
  have HC1 := hide hc1
  have HC2 := hide hc2
  unfold Rp2Post
  have LO := hide (lengthOf_any (rtO l))
  have SP := hide (fun (k : Nat) w (hk : k ≤ szO (rtO l)) => splitLimb_opt (rtO l) k w hk ok1.1 (by omega))
  have SO := hide (fun (k : Nat) (hk : k ≤ szO (rtO l)) => splO_ok (rtO l) k hk ok1.2.2 ok1.2.1)
  have HN : Hid (spOk l n = false → spL1 l n = [] ∧ spL2 l n = []) := hide (fun c => by unfold spL1 spL2; rw [c]; exact ⟨rfl, rfl⟩)
  have HY : Hid (spOk l n = true → spL1 l n = bo (splO (rtO l) n.toNat).1 ∧ spL2 l n = bo (splO (rtO l) n.toNat).2) := hide (fun c => by unfold spL1 spL2; rw [c]; exact ⟨rfl, rfl⟩)
  have HD : Hid (spOk l n = (rtB l && (decide (0 ≤ n) && decide (n ≤ (szO (rtO l) : Int))))) := hide rfl
  obtain ⟨L1, hL1⟩ : ∃ L, spL1 l n = L := ⟨_, rfl⟩
  obtain ⟨L2, hL2⟩ : ∃ L, spL2 l n = L := ⟨_, rfl⟩
  obtain ⟨bb, hbb⟩ : ∃ bb, spOk l n = bb := ⟨_, rfl⟩
  obtain ⟨o, ho⟩ : ∃ o, rtO l = o := ⟨_, rfl⟩
  obtain ⟨bl, hbl⟩ : ∃ bl, rtB l = bl := ⟨_, rfl⟩
  rw [hL1, hL2, hbb] at HN HY ⊢
  rw [hbb] at HD
  rw [ho] at R1 LO SP SO HY HD
  rw [hbl] at R1 HD
  have hoz : szO o ≤ 300 := by rw [← ho]; exact ok1.2.2
  have RW := hide (fun q w (h1 : nbO q ≤ 200) (h2 : szO q ≤ 300) => ropeWith_any q w (by omega) (by omega))
  unfold RpPost at RW
  obtain ⟨v1, hv1⟩ : ∃ vo, lvO o = vo := ⟨_, rfl⟩
  rw [hv1] at R1 LO SP
  clear hL1 hL2 hbb ho hbl ok1 h hT hb1 hc1 hc2 hv1
  go_enter Tryd.func21, Tryd.ntmps21
  go_wp2_with fail
  rw [← hw1]
  clear hw1
  refine R1.out.mono ?_
  rintro e w2 ⟨rfl, hb2⟩
  have HB2 : Hid (Below w.heap.size w w2) := hide (HB1.out.trans (hb2.mono HB1.out.size))
  have HA2 := hide (HC1.out.later hb2)
  have HZ2 := hide (HC2.out.later hb2)
  clear hb2 HC1 HC2 HB1 R1
  cases bl with
  | false =>
    obtain rfl : bb = false := HD.out
    obtain ⟨rfl, rfl⟩ := HN.out (by first | rfl | trivial)
    have q1 := HA2.out.cell
    have q2 := HA2.out.fz
    have q3 := HZ2.out.cell
    have q4 := HZ2.out.fz
    clear HN HY HD
    go_wp2
    refine bodyPost_ret (results_cells_tmp rfl _ _ (w.heap.size + 1) (w.heap.size + 1 + 1) 26 26 _ _ (0, 0) (0, 0) _ (.bool false) rfl rfl rfl ((HA2.out.put _).other (by omega) _) ((HZ2.out.other (by omega) _).put _) Tryd.underlying26 rfl Tryd.sizeRope Tryd.sizeRope) rfl ?_
    exact ⟨_, _, rfl, World.ownsRow_nil _ _ _ _, World.ownsRow_nil _ _ _ _, (fun y z h => by cases h), (HB2.out.setCell (by show w.heap.size ≤ w.heap.size + 1; omega) _).setCell (by show w.heap.size ≤ w.heap.size + 1 + 1; omega) _⟩
  | true =>
    rw [Bool.true_and] at HD
    by_cases h0 : 0 ≤ n
    · obtain ⟨k, rfl⟩ : ∃ k : Nat, n = (k : Int) := ⟨n.toNat, by omega⟩
      have e0 : decide ((k : Int) < 0) = false := by rw [decide_eq_false_iff_not]; omega
      go_wp2_with fail
      refine (LO.out w2).mono ?_
      rintro e w3 ⟨rfl, hb3⟩
      have HB3 : Hid (Below w.heap.size w w3) := hide (HB2.out.trans (hb3.mono HB2.out.size))
      have HA3 := hide (HA2.out.later hb3)
      have HZ3 := hide (HZ2.out.later hb3)
      clear hb3 HA2 HZ2 HB2
      by_cases h1 : k ≤ szO o
      · have e1 : decide ((szO o : Int) < (k : Int)) = false := by rw [decide_eq_false_iff_not]; omega
        obtain rfl : bb = true := by have := HD.out; rw [decide_eq_true h0, decide_eq_true (by omega)] at this; exact this
        obtain ⟨E1, E2⟩ := HY.out (by first | rfl | trivial)
        rw [Int.toNat_natCast] at E1 E2
        obtain ⟨s1, s2, s3, s4, s5, s6⟩ := SO.out k h1
        have S := hide (fun w => SP.out k w h1)
        have W1 := hide (fun w => RW.out (splO o k).1 w s3 s5)
        have W2 := hide (fun w => RW.out (splO o k).2 w s4 s6)
        rw [s1, ← E1] at W1
        rw [s2, ← E2] at W2
        obtain ⟨f1, hf1⟩ : ∃ L, fit (splO o k).1 = L := ⟨_, rfl⟩
        obtain ⟨f2, hf2⟩ : ∃ L, fit (splO o k).2 = L := ⟨_, rfl⟩
        obtain ⟨u1, hu1⟩ : ∃ L, lvO (splO o k).1 = L := ⟨_, rfl⟩
        obtain ⟨u2, hu2⟩ : ∃ L, lvO (splO o k).2 = L := ⟨_, rfl⟩
        simp only [hf1, hf2, hu1, hu2] at S W1 W2
        clear E1 E2 hf1 hf2 hu1 hu2 s1 s2 s3 s4 s5 s6 SP SO RW HN HY HD
        go_wp2_with fail
        refine (S.out w3).mono ?_
        rintro e w4 ⟨rfl, hb4⟩
        have HB4 : Hid (Below w.heap.size w w4) := hide (HB3.out.trans (hb4.mono HB3.out.size))
        have HA4 := hide (HA3.out.later hb4)
        have HZ4 := hide (HZ3.out.later hb4)
        clear hb4 HA3 HZ3 HB3
        go_wp2_with fail
        refine (W1.out w4).mono ?_
        rintro e w5 ⟨v5, rfl, own5, hb5⟩
        obtain ⟨a5, c5, rfl, -⟩ := own_shp own5
        obtain ⟨w6, hw6⟩ : ∃ w6, w6 = w5.alloc (.cells #[.slice a5 L1.length c5] 26) := ⟨_, rfl⟩
        have hb6 : Below w5.heap.size w5 w6 := by rw [hw6]; exact (Below.refl _ _).alloc (Nat.le_refl _) _
        have hx6 : CellR w6 w5.heap.size (.slice a5 L1.length c5) := by rw [hw6]; exact CellR.new w5 _
        have hs6 : w6.heap.size = w5.heap.size + 1 := by rw [hw6]; simp
        have hb46 : Below w4.heap.size w4 w6 := hb5.trans (hb6.mono hb5.size)
        have HB6 : Hid (Below w.heap.size w w6) := hide (HB4.out.trans (hb46.mono HB4.out.size))
        have HA6 := hide (HA4.out.later hb46)
        have HZ6 := hide (HZ4.out.later hb46)
        have HX6 := hide hx6
        have HO6 := hide (own_below own5 hb6)
        have HL6 : Hid (∀ y, (Value.slice a5 L1.length c5).ownBlock = some y → y < w5.heap.size) := hide (BoOwn.lt own5)
        have HS4 := hide HB4.out.size
        have HLT := hide HA4.out.lt
        have HLZ := hide HZ4.out.lt
        have HSS := hide hs6
        have HS5 := hide hb5.size
        clear hb5 hb6 hx6 hb46 own5 HA4 HZ4 HB4 hs6
        go_wp2_with fail
        rw [← hw6]
        clear hw6
        refine (W2.out w6).mono ?_
        rintro e w7 ⟨v7, rfl, own7, hb7⟩
        obtain ⟨a7, c7, rfl, -⟩ := own_shp own7
        obtain ⟨w8, hw8⟩ : ∃ w8, w8 = w7.alloc (.cells #[.slice a7 L2.length c7] 26) := ⟨_, rfl⟩
        have hb8 : Below w7.heap.size w7 w8 := by rw [hw8]; exact (Below.refl _ _).alloc (Nat.le_refl _) _
        have hx8 : CellR w8 w7.heap.size (.slice a7 L2.length c7) := by rw [hw8]; exact CellR.new w7 _
        have hb68 : Below w6.heap.size w6 w8 := hb7.trans (hb8.mono hb7.size)
        have HB8 : Hid (Below w.heap.size w w8) := hide (HB6.out.trans (hb68.mono HB6.out.size))
        have HA8 := hide (HA6.out.later hb68)
        have HZ8 := hide (HZ6.out.later hb68)
        have HX8 := hide (HX6.out.later hb68)
        have HO8 := hide (own_below HO6.out hb68)
        have HP8 := hide (own_below own7 hb8)
        have p1 := HX8.out.cell
        have p2 := hx8.cell
        have q1 := HA8.out.cell
        have q2 := HA8.out.fz
        have q3 := HZ8.out.cell
        have q4 := HZ8.out.fz
        have HDIS : Hid (∀ y z, (Value.slice a5 L1.length c5).ownBlock = some y → (Value.slice a7 L2.length c7).ownBlock = some z → y ≠ z) := hide (fun y z hy hz => by have h1 := HL6.out y hy; have h2 := (World.ownsRow.lt own7 z hz).1; have := HSS.out; omega)
        have HS7 := hide hb7.size
        have nn : w.heap.size + 1 + 1 < w5.heap.size ∧ w.heap.size + 1 + 1 < w7.heap.size := by
          have := HLZ.out; have := HS5.out; have := HS7.out; have := HSS.out; omega
        have n1 : ¬ w.heap.size + 1 = w5.heap.size := by omega
        have n2 : ¬ w.heap.size + 1 + 1 = w5.heap.size := by omega
        have n3 : ¬ w.heap.size + 1 = w7.heap.size := by omega
        have n4 : ¬ w.heap.size + 1 + 1 = w7.heap.size := by omega
        have m1 : ¬ w5.heap.size = w.heap.size + 1 := by omega
        have m2 : ¬ w5.heap.size = w.heap.size + 1 + 1 := by omega
        have m3 : ¬ w7.heap.size = w.heap.size + 1 := by omega
        have m4 : ¬ w7.heap.size = w.heap.size + 1 + 1 := by omega
        have HO9 := hide (own_aside (own_aside HO8.out (g := w.heap.size + 1) HLT.out 0 (.slice a5 L1.length c5)) (g := w.heap.size + 1 + 1) HLZ.out 0 (.slice a7 L2.length c7))
        have HP9 := hide (own_aside (own_aside HP8.out (g := w.heap.size + 1) (by have := HLT.out; have := HS5.out; have := HSS.out; omega) 0 (.slice a5 L1.length c5)) (g := w.heap.size + 1 + 1) (by have := HLZ.out; have := HS5.out; have := HSS.out; omega) 0 (.slice a7 L2.length c7))
        have HE9 : Hid (Below w.heap.size w ((w8.setCell ⟨w.heap.size + 1, 0, none⟩ (.slice a5 L1.length c5)).setCell ⟨w.heap.size + 1 + 1, 0, none⟩ (.slice a7 L2.length c7))) := hide ((HB8.out.setCell (by show w.heap.size ≤ w.heap.size + 1; omega) _).setCell (by show w.heap.size ≤ w.heap.size + 1 + 1; omega) _)
        have HS6 : Hid (w.heap.size ≤ w6.heap.size) := hide HB6.out.size
        clear hb7 hb8 hx8 hb68 own7 HA6 HZ6 HB6 HX6 HO6 nn
        go_wp2
        rw [← hw8]
        clear hw8
        go_region
        go_wp2
        have r1 := ((HA8.out.put (.slice a5 L1.length c5)).other (d := w.heap.size + 1 + 1) (by omega) (.slice a7 L2.length c7))
        have r2 := ((HZ8.out.other (d := w.heap.size + 1) (by omega) (.slice a5 L1.length c5)).put (.slice a7 L2.length c7))
        refine bodyPost_ret (results_cells_tmp rfl _ _ (w.heap.size + 1) (w.heap.size + 1 + 1) 26 26 _ _ (0, 0) (0, 0) _ (.bool true) rfl rfl rfl r1 r2 Tryd.underlying26 rfl Tryd.sizeRope Tryd.sizeRope) rfl ?_
        exact ⟨_, _, rfl, own_mono (own_below HO9.out (Below.refl _ _).drew) HS4.out, own_mono (own_below HP9.out (Below.refl _ _).drew) HS6.out, HDIS.out, HE9.out.drew⟩
      · have e1 : decide ((szO o : Int) < (k : Int)) = true := by rw [decide_eq_true_iff]; omega
        obtain rfl : bb = false := by have := HD.out; rw [decide_eq_false (show ¬ (k : Int) ≤ (szO o : Int) by omega), Bool.and_false] at this; exact this
        obtain ⟨rfl, rfl⟩ := HN.out (by first | rfl | trivial)
        have q1 := HA3.out.cell
        have q2 := HA3.out.fz
        have q3 := HZ3.out.cell
        have q4 := HZ3.out.fz
        clear HN HY HD
        go_wp2
        refine bodyPost_ret (results_cells_tmp rfl _ _ (w.heap.size + 1) (w.heap.size + 1 + 1) 26 26 _ _ (0, 0) (0, 0) _ (.bool false) rfl rfl rfl ((HA3.out.put _).other (by omega) _) ((HZ3.out.other (by omega) _).put _) Tryd.underlying26 rfl Tryd.sizeRope Tryd.sizeRope) rfl ?_
        exact ⟨_, _, rfl, World.ownsRow_nil _ _ _ _, World.ownsRow_nil _ _ _ _, (fun y z h => by cases h), (HB3.out.setCell (by show w.heap.size ≤ w.heap.size + 1; omega) _).setCell (by show w.heap.size ≤ w.heap.size + 1 + 1; omega) _⟩
    · have e0 : decide (n < 0) = true := by rw [decide_eq_true_iff]; omega
      obtain rfl : bb = false := by have := HD.out; rw [decide_eq_false h0, Bool.false_and] at this; exact this
      obtain ⟨rfl, rfl⟩ := HN.out (by first | rfl | trivial)
      have q1 := HA2.out.cell
      have q2 := HA2.out.fz
      have q3 := HZ2.out.cell
      have q4 := HZ2.out.fz
      clear HN HY HD
      go_wp2
      refine bodyPost_ret (results_cells_tmp rfl _ _ (w.heap.size + 1) (w.heap.size + 1 + 1) 26 26 _ _ (0, 0) (0, 0) _ (.bool false) rfl rfl rfl ((HA2.out.put _).other (by omega) _) ((HZ2.out.other (by omega) _).put _) Tryd.underlying26 rfl Tryd.sizeRope Tryd.sizeRope) rfl ?_
      exact ⟨_, _, rfl, World.ownsRow_nil _ _ _ _, World.ownsRow_nil _ _ _ _, (fun y z h => by cases h), (HB2.out.setCell (by show w.heap.size ≤ w.heap.size + 1; omega) _).setCell (by show w.heap.size ≤ w.heap.size + 1 + 1; omega) _⟩

/-- The byte at a place, and how many are gone through. -/
def bat : Lm → Nat → UInt8 × Nat
  | .pc s, n => (s.data.toList.getD n 0, 1)
  | .jn a b, n => if a.sz ≤ n then ((bat b (n - a.sz)).1, (bat b (n - a.sz)).2 + 1) else ((bat a n).1, (bat a n).2 + 1)

theorem bat_dp (t : Lm) : ∀ n, (bat t n).2 ≤ t.dp + 1 := by
  induction t with
  | pc s => intro n; simp [bat, Lm.dp]
  | jn a b iha ihb =>
    intro n
    simp only [bat, Lm.dp]
    split
    · have := ihb (n - a.sz); simp only; omega
    · have := iha n; simp only; omega

theorem bat_tx (t : Lm) : ∀ n, n < t.sz → (bat t n).1 = (txO (some t)).getD n 0 := by
  induction t with
  | pc s => intro n hn; rw [txO_pc]; rfl
  | jn a b iha ihb =>
    intro n hn
    simp only [Lm.sz] at hn
    have la := txO_len (some a)
    simp only [szO] at la
    rw [txO_jn]
    simp only [bat]
    split
    · rename_i h; rw [ihb _ (by omega), List.getD_eq_getElem?_getD, List.getD_eq_getElem?_getD, List.getElem?_append_right (by omega), la]
    · rename_i h; rw [iha _ (by omega), List.getD_eq_getElem?_getD, List.getD_eq_getElem?_getD, List.getElem?_append_left (by omega)]

theorem bya_pc (s : ByteArray) (w : World) : (method 407 200 (.string s) "loop.example/g00253/impl.byteAt").run Tryd.prog w = .ok (246, .string s) w := by kernel_rfl

theorem bya_jn (x y z : Value) (w : World) : (method 407 205 (.agg #[x, y, z]) "loop.example/g00253/impl.byteAt").run Tryd.prog w = .ok (249, .agg #[x, y, z]) w := by kernel_rfl

theorem entb_pc (a : Array Value) (w : World) : (callFunc 246 a).run Tryd.prog w = .ok (.enter 246 a) w := by kernel_rfl

theorem entb_jn (a : Array Value) (w : World) : (callFunc 249 a).run Tryd.prog w = .ok (.enter 249 a) w := by kernel_rfl

def BaPost (t : Lm) (n : Nat) (w : World) (e : Ending) (w' : World) : Prop := e = .returned (.tuple #[.int .u8 ((bat t n).1.toNat : Int), .int .i64 ((bat t n).2 : Int)]) ∧ Below w.heap.size w w'

def BaC (t : Lm) : Prop := ∃ T x K, lv t = .iface T x ∧ (∀ a w, (callFunc K a).run Tryd.prog w = .ok (.enter K a) w) ∧ (∀ w, (method 407 T x "loop.example/g00253/impl.byteAt").run Tryd.prog w = .ok (K, x) w) ∧ ∀ (n : Nat) w, n < t.sz → Calls Tryd.prog K #[x, .int .i64 (n : Int)] w (BaPost t n w)

set_option maxRecDepth 100000 in
set_option maxHeartbeats 4000000 in
theorem pieceByte (s : ByteArray) (n : Nat) (w : World) (hn : n < s.size) : Calls Tryd.prog 246 #[.string s, .int .i64 (n : Int)] w (BaPost (.pc s) n w) := by
  unfold BaPost
  have e : (bat (.pc s) n).1 = s[n] := by
    show s.data.toList.getD n 0 = _
    rw [List.getD_eq_getElem?_getD, List.getElem?_eq_getElem (by rw [← szB]; exact hn)]
    rfl
  rw [e, show (bat (.pc s) n).2 = 1 from rfl]
  clear e
  go_enter Tryd.func246, Tryd.ntmps246
  go_wp2
  go_ret2
  exact ⟨rfl, Below.refl _ _⟩

set_option maxRecDepth 100000 in
set_option maxHeartbeats 4000000 in
theorem jointByte (a b : Lm) (ha : BaC a) (hb : BaC b) (n : Nat) (w : World) (hn : n < a.sz + b.sz) (hz : a.sz + b.sz ≤ 100000) (hd : a.dp + b.dp ≤ 100000) : Calls Tryd.prog 249 #[.agg #[lv a, lv b, .int .i64 ((a.sz + b.sz : Nat) : Int)], .int .i64 (n : Int)] w (BaPost (.jn a b) n w) := by
  obtain ⟨T1, x1, K1, e1, ka, ma, ca⟩ := ha
  obtain ⟨T2, x2, K2, e2, kb, mb, cb⟩ := hb
  obtain ⟨T1', x1', K1', e1', ks, ms, cs⟩ := lv_size a
  rw [e1] at e1'
  cases e1'
  rw [e1, e2]
  have CS := hide cs
  obtain ⟨z, hz2⟩ : ∃ z : Int, ((a.sz + b.sz : Nat) : Int) = z := ⟨_, rfl⟩
  rw [hz2]
  unfold BaPost
  have HZ := hide (And.intro hn hz)
  have dpa := bat_dp a
  have dpb := bat_dp b
  clear cs hz2
  by_cases hc : a.sz ≤ n
  · have hc' : decide ((a.sz : Int) ≤ (n : Int)) = true := by rw [decide_eq_true_iff]; omega
    have e : bat (.jn a b) n = ((bat b (n - a.sz)).1, (bat b (n - a.sz)).2 + 1) := by simp only [bat]; rw [if_pos hc]
    rw [e]
    have C := hide (fun w => cb (n - a.sz) w (by omega))
    unfold BaPost at C
    have ew : IntKind.i64.wrap ((n : Int) - (a.sz : Int)) = ((n - a.sz : Nat) : Int) := by rw [IntKind.wrap_i64]; omega
    have hd2 := dpb (n - a.sz)
    obtain ⟨d, hdd⟩ : ∃ d : Nat, n - a.sz = d := ⟨_, rfl⟩
    rw [hdd] at ew C hd2 ⊢
    obtain ⟨cv, hcv⟩ : ∃ c, ((bat b d).1.toNat : Int) = c := ⟨_, rfl⟩
    obtain ⟨q, hq⟩ : ∃ q, (bat b d).2 = q := ⟨_, rfl⟩
    rw [hcv, hq] at C
    rw [hq] at hd2
    simp only [hcv, hq]
    clear ca cb e hcv hq hdd e1 e2 hn hz
    have c0 : (w.alloc (.cells #[.iface T1 x1, .iface T2 x2, .int .i64 z] 205)).cell? ⟨w.heap.size, 0, none⟩ = some (.iface T1 x1) ∧ (w.alloc (.cells #[.iface T1 x1, .iface T2 x2, .int .i64 z] 205)).cell? ⟨w.heap.size, 1, none⟩ = some (.iface T2 x2) := cells3 (Below.refl _ _)
    go_enter Tryd.func249, Tryd.ntmps249
    go_wp2_with fail
    refine (CS.out _).mono ?_
    rintro e w2 ⟨rfl, hb2⟩
    have hsz : (w.alloc (.cells #[.iface T1 x1, .iface T2 x2, .int .i64 z] 205)).heap.size = w.heap.size + 1 := by simp
    rw [hsz] at hb2
    have CC := cells3 hb2
    have HB2 : Hid (Below w.heap.size w w2) := hide (((Below.refl _ _).alloc (Nat.le_refl _) _).trans (hb2.mono (by omega)))
    have hs2 := hb2.size
    rw [hsz] at hs2
    clear hb2 hsz c0
    go_wp2_with fail
    go_region_held3 (fun w' => w'.cell? ⟨w.heap.size, 0, none⟩ = some (.iface T1 x1) ∧ w'.cell? ⟨w.heap.size, 1, none⟩ = some (.iface T2 x2))
      (first | assumption | exact CC | exact CC3)
      ((refine (CS.out _).mono ?_; rintro e w3 ⟨rfl, hb3⟩; have CC3 : w3.cell? ⟨w.heap.size, 0, none⟩ = some (.iface T1 x1) ∧ w3.cell? ⟨w.heap.size, 1, none⟩ = some (.iface T2 x2) := ⟨(World.cell?_of_block (hb3.block _ (by show w.heap.size < _; simp; omega))).trans CC.1, (World.cell?_of_block (hb3.block _ (by show w.heap.size < _; simp; omega))).trans CC.2⟩))
    go_wp2_with fail
    refine (C.out _).mono ?_
    rintro e w4 ⟨rfl, hb4⟩
    have HB3 : Hid (Below w.heap.size w w3) := hide (HB2.out.trans (((Below.refl _ _).drew.trans hb3).mono HB2.out.size))
    have HB4 : Hid (Below w.heap.size w w4) := hide (HB3.out.trans (hb4.mono HB3.out.size))
    clear hb3 hb4
    go_wp2
    go_ret2
    exact ⟨rfl, HB4.out⟩
  · have hc' : decide ((a.sz : Int) ≤ (n : Int)) = false := by rw [decide_eq_false_iff_not]; omega
    have e : bat (.jn a b) n = ((bat a n).1, (bat a n).2 + 1) := by simp only [bat]; rw [if_neg hc]
    rw [e]
    have C := hide (fun w => ca n w (by omega))
    unfold BaPost at C
    have hd2 := dpa n
    obtain ⟨cv, hcv⟩ : ∃ c, ((bat a n).1.toNat : Int) = c := ⟨_, rfl⟩
    obtain ⟨q, hq⟩ : ∃ q, (bat a n).2 = q := ⟨_, rfl⟩
    rw [hcv, hq] at C
    rw [hq] at hd2
    simp only [hcv, hq]
    clear ca cb e hcv hq e1 e2 hn hz
    go_enter Tryd.func249, Tryd.ntmps249
    go_wp2_with fail
    refine (CS.out _).mono ?_
    rintro e w2 ⟨rfl, hb2⟩
    have HB2 : Hid (Below w.heap.size w w2) := hide (((Below.refl _ _).alloc (Nat.le_refl _) _).trans (hb2.mono (by simp)))
    clear hb2
    go_wp2_with fail
    refine (C.out _).mono ?_
    rintro e w4 ⟨rfl, hb4⟩
    have HB4 : Hid (Below w.heap.size w w4) := hide (HB2.out.trans (hb4.mono HB2.out.size))
    clear hb4
    go_wp2
    go_ret2
    exact ⟨rfl, HB4.out⟩

/-- Each limb tells its bytes so (function 249 of joints). -/
theorem baC_all (t : Lm) (hz : t.sz ≤ 100000) (hn : t.nb ≤ 100000) : BaC t := by
  induction t with
  | pc s => exact ⟨_, _, _, rfl, entb_pc, bya_pc s, fun n w h => pieceByte s n w h⟩
  | jn a b iha ihb =>
    simp only [Lm.sz, Lm.nb] at hz hn
    have := Lm.dp_lt a
    have := Lm.dp_lt b
    exact ⟨_, _, _, rfl, entb_jn, bya_jn _ _ _, fun n w h => jointByte a b (iha (by omega) (by omega)) (ihb (by omega) (by omega)) n w (by simpa [Lm.sz] using h) (by omega) (by omega)⟩
end Go.Proofs.YtkjioadmebkaoaaDoor

set_option linter.unusedVariables false
namespace Go.Proofs.YtkjioadmebkaoaaDoor
open Go.RowKit
open Doc1

theorem own_new (w : World) (e : TypeId) (cs : Array Value) (n size : Nat) (hn : cs.size = n * size) (hl : n ≤ 1000000) : (w.alloc (.cells cs e)).ownsRow w.heap.size e size (.slice (some ⟨w.heap.size, 0, none⟩) n n) n cs.toList :=
  ⟨by rw [Array.length_toList]; exact hn, .inr ⟨w.heap.size, n, cs, rfl, Nat.le_refl _, heap_alloc_new w _, Nat.le_refl _, by unfold maxLen; omega, hn, List.take_of_length_le (by rw [Array.length_toList]; omega)⟩⟩

noncomputable def byOk (l : List Bg) (n : Int) : Bool := rtB l && (decide (0 ≤ n) && decide (n < (szO (rtO l) : Int)))

def batO : Option Lm → Nat → UInt8 × Nat
  | none, _ => (0, 0)
  | some t, n => bat t n

noncomputable def byS (l : List Bg) (n : Int) : ByteArray := if byOk l n then ⟨#[(batO (rtO l) n.toNat).1]⟩ else ⟨#[]⟩

noncomputable def byN (l : List Bg) (n : Int) : Nat := if byOk l n then (batO (rtO l) n.toNat).2 else 0

set_option maxRecDepth 100000 in
set_option maxHeartbeats 4000000 in
theorem byteAtI {w : World} {a : Option Addr} {cap : Nat} {l : List Bg} (n : Int) (h : RIn w a cap l) (hT : Tab w) :
    Calls Tryd.prog 16 #[.agg #[.slice a l.length cap], .int .i64 n] w fun e w' => e = .returned (.tuple #[.string (byS l n), .int .i64 (byN l n : Int), .bool (byOk l n)]) ∧ Below w.heap.size w w' := by
  have hb1 : Below w.heap.size w (w.alloc (.cells #[.slice a l.length cap] 26)) := (Below.refl _ _).alloc (Nat.le_refl _) _
  have R1 := hide (root_of (h.later hb1) (hT.below hb1))
  have HB1 := hide hb1
  unfold RtPost at R1
  have ok1 := rt_ok l
  have LO := hide (lengthOf_any (rtO l))
  have HN : Hid (byOk l n = false → byS l n = ⟨#[]⟩ ∧ byN l n = 0) := hide (fun c => by unfold byS byN; rw [c]; exact ⟨rfl, rfl⟩)
  have HY : Hid (byOk l n = true → byS l n = ⟨#[(batO (rtO l) n.toNat).1]⟩ ∧ byN l n = (batO (rtO l) n.toNat).2) := hide (fun c => by unfold byS byN; rw [c]; exact ⟨rfl, rfl⟩)
  have HD : Hid (byOk l n = (rtB l && (decide (0 ≤ n) && decide (n < (szO (rtO l) : Int))))) := hide rfl
  obtain ⟨S, hS⟩ : ∃ S, byS l n = S := ⟨_, rfl⟩
  obtain ⟨N, hN⟩ : ∃ N, byN l n = N := ⟨_, rfl⟩
  obtain ⟨bb, hbb⟩ : ∃ bb, byOk l n = bb := ⟨_, rfl⟩
  obtain ⟨o, ho⟩ : ∃ o, rtO l = o := ⟨_, rfl⟩
  obtain ⟨bl, hbl⟩ : ∃ bl, rtB l = bl := ⟨_, rfl⟩
  rw [hS, hN, hbb] at HN HY ⊢
  rw [hbb] at HD
  rw [ho] at R1 LO HY HD ok1
  rw [hbl] at R1 HD
  clear hS hN hbb ho hbl h hT hb1
  cases bl with
  | false =>
    obtain rfl : bb = false := HD.out
    obtain ⟨rfl, rfl⟩ := HN.out (by first | rfl | trivial)
    obtain ⟨v1, hv1⟩ : ∃ vo, lvO o = vo := ⟨_, rfl⟩
    rw [hv1] at R1
    clear HN HY HD hv1
    go_enter Tryd.func16, Tryd.ntmps16
    go_wp2_with fail
    refine R1.out.mono ?_
    rintro e w2 ⟨rfl, hb2⟩
    have HB2 : Hid (Below w.heap.size w w2) := hide (HB1.out.trans (hb2.mono (by simp)))
    clear hb2
    go_wp2
    go_ret3
    exact ⟨rfl, HB2.out⟩
  | true =>
    rw [Bool.true_and] at HD
    by_cases h0 : 0 ≤ n
    · obtain ⟨k, rfl⟩ : ∃ k : Nat, n = (k : Int) := ⟨n.toNat, by omega⟩
      have e0 : decide ((k : Int) < 0) = false := by rw [decide_eq_false_iff_not]; omega
      by_cases h1 : k < szO o
      · obtain ⟨t, rfl⟩ : ∃ t, o = some t := by cases o with | none => simp [szO] at h1 | some t => exact ⟨t, rfl⟩
        simp only [nbO, szO] at ok1 h1
        have e1 : decide ((t.sz : Int) ≤ (k : Int)) = false := by rw [decide_eq_false_iff_not]; omega
        obtain rfl : bb = true := by have := HD.out; rw [decide_eq_true h0, decide_eq_true (by simp only [szO]; omega)] at this; exact this
        obtain ⟨E1, E2⟩ := HY.out (by first | rfl | trivial)
        rw [Int.toNat_natCast] at E1 E2
        obtain ⟨T, x, K, hl, ka, ma, ca⟩ := baC_all t (by omega) (by omega)
        rw [show lvO (some t) = .iface T x from hl] at R1 LO
        rw [show szO (some t) = t.sz from rfl] at LO
        have CA := hide (fun w => ca k w h1)
        unfold BaPost at CA
        rw [show batO (some t) k = bat t k from rfl] at E1 E2
        obtain ⟨c, hc⟩ : ∃ c, (bat t k).1 = c := ⟨_, rfl⟩
        rw [hc] at E1 CA
        rw [← E2] at CA
        have HE := hide E1
        clear ca hl E1 E2 hc HN HY HD
        go_enter Tryd.func16, Tryd.ntmps16
        go_wp2_with fail
        refine R1.out.mono ?_
        rintro e w2 ⟨rfl, hb2⟩
        have HB2 : Hid (Below w.heap.size w w2) := hide (HB1.out.trans (hb2.mono (by simp)))
        clear hb2
        go_wp2_with fail
        refine (LO.out w2).mono ?_
        rintro e w3 ⟨rfl, hb3⟩
        have HB3 : Hid (Below w.heap.size w w3) := hide (HB2.out.trans (hb3.mono HB2.out.size))
        clear hb3
        go_wp2_with fail
        refine (CA.out w3).mono ?_
        rintro e w4 ⟨rfl, hb4⟩
        have HB4 : Hid (Below w.heap.size w w4) := hide (HB3.out.trans (hb4.mono HB3.out.size))
        have HB5 : Hid (Below w.heap.size w (w4.alloc (.cells #[.int .u8 (c.toNat : Int)] 5))) := hide (HB4.out.alloc HB4.out.size _)
        have hcv : (convert 22 9 (.slice (some ⟨w4.heap.size, 0, none⟩) 1 1)).run Tryd.prog (w4.alloc (.cells #[.int .u8 (c.toNat : Int)] 5)) = .ok (.string ⟨#[c]⟩) (w4.alloc (.cells #[.int .u8 (c.toNat : Int)] 5)) := ByOwn.conv (B := w4.heap.size) (own_new w4 5 #[.int .u8 (c.toNat : Int)] 1 1 rfl (by omega))
        clear hb4
        go_wp2
        go_ret3
        exact ⟨by rw [HE.out] <;> rfl, HB5.out⟩
      · have e1 : decide ((szO o : Int) ≤ (k : Int)) = true := by rw [decide_eq_true_iff]; omega
        obtain rfl : bb = false := by have := HD.out; rw [decide_eq_false (show ¬ (k : Int) < (szO o : Int) by omega), Bool.and_false] at this; exact this
        obtain ⟨rfl, rfl⟩ := HN.out (by first | rfl | trivial)
        obtain ⟨v1, hv1⟩ : ∃ vo, lvO o = vo := ⟨_, rfl⟩
        rw [hv1] at R1 LO
        clear HN HY HD hv1
        go_enter Tryd.func16, Tryd.ntmps16
        go_wp2_with fail
        refine R1.out.mono ?_
        rintro e w2 ⟨rfl, hb2⟩
        have HB2 : Hid (Below w.heap.size w w2) := hide (HB1.out.trans (hb2.mono (by simp)))
        clear hb2
        go_wp2_with fail
        refine (LO.out w2).mono ?_
        rintro e w3 ⟨rfl, hb3⟩
        have HB3 : Hid (Below w.heap.size w w3) := hide (HB2.out.trans (hb3.mono HB2.out.size))
        clear hb3
        go_wp2
        go_ret3
        exact ⟨rfl, HB3.out⟩
    · have e0 : decide (n < 0) = true := by rw [decide_eq_true_iff]; omega
      obtain rfl : bb = false := by have := HD.out; rw [decide_eq_false h0, Bool.false_and] at this; exact this
      obtain ⟨rfl, rfl⟩ := HN.out (by first | rfl | trivial)
      obtain ⟨v1, hv1⟩ : ∃ vo, lvO o = vo := ⟨_, rfl⟩
      rw [hv1] at R1
      clear HN HY HD hv1
      go_enter Tryd.func16, Tryd.ntmps16
      go_wp2_with fail
      refine R1.out.mono ?_
      rintro e w2 ⟨rfl, hb2⟩
      have HB2 : Hid (Below w.heap.size w w2) := hide (HB1.out.trans (hb2.mono (by simp)))
      clear hb2
      go_wp2
      go_ret3
      exact ⟨rfl, HB2.out⟩
end Go.Proofs.YtkjioadmebkaoaaDoor
