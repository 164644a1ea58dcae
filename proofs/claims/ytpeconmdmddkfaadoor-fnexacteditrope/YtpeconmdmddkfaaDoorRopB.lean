/- The program's reading of a rope: its root. The program's functions over ropes: GoodRope, TextIn, RopeOf, JoinRopes, Rebalance. The program's functions over ropes, on: Rebalance, PiecesOf, IsBalanced. The program's functions over ropes, on: IsBalanced, SplitRope, ByteAt. The program's functions over ropes, on: SplitRope, ByteAt. The program's ByteAt. -/
import Derived.Test.YtpeconmdmddkfaaDoorRopA
import Derived.Deep.AppendLies
import Derived.Deep.RegionLaw
set_option linter.unusedVariables false
namespace Go.Proofs.YtpeconmdmddkfaaDoor
open Go.RowKit
open Doc1

/-- A row of boughs that is read. -/
structure BoIn (w : World) (a : Option Addr) (cap : Nat) (l : List Bg) : Prop where
  le : l.length ≤ cap
  mx : cap ≤ maxLen
  ad : l ≠ [] → ∃ g, a = some ⟨g, 0, none⟩ ∧ g < w.heap.size ∧ CLs w g (encBo l)
theorem BoIn.later {w w1 : World} {a : Option Addr} {cap : Nat} {l : List Bg} (h : BoIn w a cap l) (hb : Below w.heap.size w w1) : BoIn w1 a cap l :=
  ⟨h.le, h.mx, fun hl => by obtain ⟨g, e, hg, hc⟩ := h.ad hl; exact ⟨g, e, Nat.lt_of_lt_of_le hg hb.size, hc.later hb hg⟩⟩
theorem BoOwn.inn {w : World} {B : Nat} {v : Value} {l : List Bg} (h : BoOwn w B v l) : ∃ a cap, v = .slice a l.length cap ∧ BoIn w a cap l := by
  obtain ⟨a, cap, rfl, h1, h2⟩ := own_shp h
  refine ⟨a, cap, rfl, h1, h2, fun hl => ?_⟩
  obtain ⟨g, c, e, -, -, -, z6, z7, -⟩ := BoOwn.shape h hl
  cases e
  exact ⟨g, rfl, z6, z7⟩
theorem BoCp.inn {w : World} {g : Nat} {l : List Bg} (h : BoCp w g l) (hm : l.length ≤ 2000000) : BoIn w (some ⟨g, 0, none⟩) l.length l :=
  ⟨Nat.le_refl _, by unfold maxLen; omega, fun _ => ⟨g, rfl, h.lt, h.at'⟩⟩
theorem Tryd.infoLimb : (Tryd.prog.info? 131).map (fun i => (i.zero, i.size, i.bytes)) = some (some .nilIface, 1, 16) := by kernel_rfl
/-- A row of limbs of one's own. -/
def LmOwn (w : World) (B : Nat) (v : Value) (st : List Lm) : Prop := w.ownsRow B 131 1 v st.length (st.map lv)
theorem LmOwn.app {w : World} {B : Nat} {v : Value} {st : List Lm} {t : Lm} (h : w.ownsRow B 131 1 v (st.length + 1) (st.map lv ++ [lv t])) : LmOwn w B v (st ++ [t]) := by
  unfold LmOwn
  rw [List.length_append, List.map_append]
  exact h
theorem LmOwn.cut2 {w : World} {B g n cap : Nat} {x : List Lm} {a b : Lm} (h : LmOwn w B (.slice (some ⟨g, 0, none⟩) n cap) (x ++ [a] ++ [b])) (hn : n = x.length + 1 + 1) : LmOwn w B (.slice (some ⟨g, 0, none⟩) x.length cap) x := by
  subst hn
  unfold LmOwn at h ⊢
  rw [List.map_append, List.length_append, List.length_append] at h
  have h1 := own_cut (n := x.length + 1) h (by simp)
  rw [List.map_append] at h1
  exact own_cut (n := x.length) h1 (by simp)
theorem ent_join (a : Array Value) (w : World) : (callFunc 141 a).run Tryd.prog w = .ok (.enter 141 a) w := by kernel_rfl

theorem step_join {w : World} {ops : Array Oper} {o : Oper} {a : Act} {K : Act → World → Prop} {Q : Exit → Act → World → Prop} {E : Prop} (hgd : o.guard = none) (x y : Operand) (tx ty : TypeId)
    (ho : o.op = .call { callee := .value (.func 141), args := #[x, y], argTypes := #[tx, ty] }) (p q : Lm) (hp : p.sz ≤ 1000000) (hq : q.sz ≤ 1000000) (hx : a.eval x = lv p) (hy : a.eval y = lv q) (r : Value) (hr : lv (.jn p q) = r) (h : ∀ w', Below w.heap.size w w' → K (a.put o.dst r) w') :
    if Region.wanted o (yielded ops a.tmps) = true then Oper.wp Tryd.prog o a w K Q else E := by
  have hw : Region.wanted o (yielded ops a.tmps) = true := by simp [Region.wanted, hgd]
  rw [if_pos hw]
  subst hr
  have hm := ent_join
  unfold Oper.wp execOp
  simp only [ho, resolve, invoke, hx, hy, Sem.run_bind, List.map_toArray, List.map_cons, List.map_nil]
  simp [go_sem, hm]
  refine (joinLimbs_any (some p) (some q) w hp hq).mono ?_
  rintro e w' ⟨rfl, hR⟩
  exact h w' hR
/-- The root of a rope, and whether it is good. -/
noncomputable def rtO (l : List Bg) : Option Lm := (dc l).getD none
noncomputable def rtB (l : List Bg) : Bool := (dc l).isSome
def RtPost (o : Option Lm) (b : Bool) (w : World) (e : Ending) (w' : World) : Prop := e = .returned (.tuple #[lvO o, .bool b]) ∧ Below w.heap.size w w'
theorem rdL_take {l : List Bg} {k : Nat} {st : List Lm} (h : rdL [] (l.take k) = some st) (hk : k < l.length) : rdL [] (l.take (k + 1)) = rdS st l[k] := by
  rw [List.take_succ_eq_append_getElem hk, rdL_app, h, Option.bind_some]
  simp only [rdL]
  cases rdS st l[k] <;> rfl
theorem rdL_bad {l : List Bg} {k : Nat} (h : rdL [] (l.take k) = none) : rdL [] l = none := by
  rw [← List.take_append_drop k l, rdL_app, h]; rfl
theorem lv_is (t : Lm) : ∃ T x, lv t = .iface T x := by
  obtain ⟨T, x, -, h, -⟩ := lv_size t
  exact ⟨T, x, h⟩
theorem nbs_mem {st : List Lm} {t : Lm} (h : t ∈ st) : t.nb ≤ nbs st := by
  induction st with
  | nil => cases h
  | cons x st ih =>
    have e : nbs (x :: st) = x.nb + nbs st := by simp [nbs]
    rcases List.mem_cons.1 h with rfl | c
    · omega
    · have := ih c; omega
theorem nbs_len (st : List Lm) : st.length ≤ nbs st := by
  induction st with
  | nil => simp
  | cons x st ih =>
    have e : nbs (x :: st) = x.nb + nbs st := by simp [nbs]
    have := Lm.nb_pos x
    rw [List.length_cons]; omega

set_option maxRecDepth 100000 in
set_option maxHeartbeats 8000000 in
theorem rootOf_any (a : Option Addr) (cap : Nat) (l : List Bg) (w : World) (h : BoIn w a cap l) (hT : Tab w) (hl : l.length ≤ 1048576) (hx : ∀ i (hi : i < l.length), l[i].text.size ≤ 1048576) :
    Calls Tryd.prog 90 #[.agg #[.slice a l.length cap]] w (RtPost (rtO l) (rtB l) w) := by
  obtain ⟨i0, hi0, hz0, hz1, hz2⟩ := info_parts Tryd.infoLimb
  obtain ⟨O, hO⟩ : ∃ O, rtO l = O := ⟨_, rfl⟩
  obtain ⟨Bl, hBl⟩ : ∃ Bl, rtB l = Bl := ⟨_, rfl⟩
  have HD : Hid (dc l = none → O = none ∧ Bl = false) := hide (fun c => by rw [← hO, ← hBl]; unfold rtO rtB; rw [c]; exact ⟨rfl, rfl⟩)
  have HY : Hid (∀ o, dc l = some o → O = o ∧ Bl = true) := hide (fun o c => by rw [← hO, ← hBl]; unfold rtO rtB; rw [c]; exact ⟨rfl, rfl⟩)
  rw [hO, hBl]
  clear hO hBl
  unfold RtPost
  have hcm := h.mx
  have hcl := h.le
  unfold maxLen at hcm
  by_cases h2 : l.length ≤ 200
  · have hd2 : decide ((200 : Int) < (l.length : Int)) = false := by rw [decide_eq_false_iff_not]; omega
    have HI := hide h
    have HTb := hide hT
    have HX := hide hx
    obtain ⟨w1, hw1⟩ : ∃ w1, w1 = w.alloc (.cells #[.slice a l.length cap] 62) := ⟨_, rfl⟩
    have hs1 : w1.heap.size = w.heap.size + 1 := by rw [hw1]; simp
    have hg1 : w1.heap[w.heap.size]? = some (.cells #[.slice a l.length cap] 62) := by rw [hw1]; exact heap_alloc_new w _
    have HB1 : Hid (Below w.heap.size w w1) := hide (by rw [hw1]; exact (Below.refl _ _).alloc (Nat.le_refl _) _)
    have HG1 := hide hg1
    clear h hT hx hg1 hl
    go_enter Tryd.func90, Tryd.ntmps90
    go_wp2
    rw [← hw1]
    clear hw1
    go_loopw [4, 17] (fun v vi wr => ∃ (k : Nat) (st : List Lm), k ≤ l.length ∧ vi = .int .i64 (k : Int) ∧ Hid (rdL [] (l.take k) = some st) ∧ ∃ a0 n0 c0, v = .slice a0 n0 c0 ∧ n0 = st.length ∧ Hid (LmOwn wr w1.heap.size (.slice a0 n0 c0) st ∧ Below w1.heap.size w1 wr)) (fun _ vi _ => l.length - (intOf vi).toNat)
    case atStart => exact ⟨0, [], by omega, rfl, hide rfl, none, 0, 0, rfl, rfl, hide ⟨World.ownsRow_nil _ _ _ _, Below.refl _ _⟩⟩
    case round =>
      obtain ⟨k, st, hk, rfl, HRD, a0, n0, c0, rfl, rfl, HR⟩ := hrel
      have HOK := hide (rdL_ok _ HRD.out (fun t ht => by cases ht))
      have hnl : st.length ≤ k := by
        have h1 := HOK.out.2.1
        have h2 := nbs_len st
        rw [List.length_take] at h1
        have h3 : nbs [] = 0 := rfl
        omega
      by_cases hlt : k < l.length
      · have hne : l ≠ [] := fun c => by rw [c] at hlt; simp at hlt
        have hbw : Hid (Below w.heap.size w wr) := hide (HB1.out.trans (HR.out.2.mono (by omega)))
        obtain ⟨g, rfl, hg, hcs⟩ := (HI.out.later hbw.out).ad hne
        obtain ⟨b0, b1, b2, b3, b4⟩ := hcs.bgat k hlt
        have HT2 : Hid (rdL [] (l.take (k + 1)) = rdS st l[k]) := hide (rdL_take HRD.out hlt)
        have htx := HX.out k hlt
        obtain ⟨b, hb⟩ : ∃ b, l[k] = b := ⟨_, rfl⟩
        rw [hb] at b0 b1 b2 b3 b4 HT2 htx
        have ewl : IntKind.i64.wrap ((st.length : Int) - 1) = (st.length : Int) - 1 := by rw [IntKind.wrap_i64]; omega
        obtain ⟨wb, hwb⟩ : ∃ wb, wb = wr.alloc (.cells #[.int .i64 b.left, .int .i64 b.right, .string b.text, .int .i64 b.size, .int .i64 b.deep] 184) := ⟨_, rfl⟩
        have ctx : wb.cell? ⟨wr.heap.size, 2, none⟩ = some (.string b.text) := by rw [hwb, cell_of_row _ _ 2 _ _ (0, 0) (heap_alloc_new wr _)]; rfl
        have hbb : Below w1.heap.size w1 wb := by rw [hwb]; exact HR.out.2.alloc HR.out.2.size _
        have hob : LmOwn wb w1.heap.size (.slice a0 st.length c0) st := by rw [hwb]; exact World.ownsRow.alloc HR.out.1 _
        have hsb : wb.heap.size = wr.heap.size + 1 := by rw [hwb]; simp
        have HTw : Hid (Tab wb) := hide (HTb.out.below (HB1.out.trans (hbb.mono (by omega))))
        have PI := hide (isPiece_any b.text wb HTw.out (by omega))
        have HSB := hide hsb
        clear hb hcs hsb
        by_cases hp : gpc b.text = true
        · rw [hp] at PI
          have HN : Hid (rdL [] (l.take (k + 1)) = some (st ++ [.pc b.text])) := hide (by rw [HT2.out]; unfold rdS; rw [if_pos hp])
          have HOB := hide (And.intro hob hbb)
          have hBs := hbb.size
          clear hob hbb HR hp HOK HRD
          go_wp2_with fail
          rw [← hwb]
          clear hwb
          refine PI.out.mono ?_
          rintro e w' ⟨rfl, hw⟩
          replace hw := hw.symm
          subst hw
          go_wp2_with (at_builtin; go_loud (refine wpList_append_loc _ rfl _ _ 188 rfl w1.heap.size 131 i0 .nilIface 1 16 Tryd.underlying188 hi0 hz0 hz1 hz2 rfl (by decide) _ _ _ rfl (World.ownsRow.alloc HOB.out.1 _) ⟨wb.heap.size, 0, none⟩ 1 1 [.iface 189 (.string b.text)] rfl rfl (World.news_of_block (cs := #[.iface 189 (.string b.text)]) (t := 131) (fr := (0, 0)) (heap_alloc_new wb _)) (by simp [Value.oneCell']) (by unfold maxLen; omega) (by omega) (by simp; omega) ?_); intro v3 w3 own3 grow3 loc3; have HR3 : Hid (LmOwn w3 w1.heap.size v3 (st ++ [.pc b.text]) ∧ Below w1.heap.size w1 w3) := hide ⟨LmOwn.app own3, below_append HOB.out.2 HOB.out.1 hBs grow3⟩; clear own3 grow3 loc3 HOB)
          obtain ⟨a3, c3, rfl, -⟩ := own_shp HR3.out.1
          exact ⟨⟨k + 1, st ++ [.pc b.text], by omega, by go_num, HN, a3, _, c3, rfl, rfl, HR3⟩, by simp [intOf]; omega⟩
        · rw [Bool.not_eq_true] at hp
          rw [hp] at PI
          by_cases h3 : st.length < 2
          · have HN : Hid (dc l = none) := hide (dc_bad (rdL_bad (k := k + 1) (by rw [HT2.out]; unfold rdS; rw [hp]; simp [h3])))
            have hd3 : decide ((st.length : Int) - 1 < 1) = true := by rw [decide_eq_true_iff]; omega
            obtain ⟨rfl, rfl⟩ := HD.out HN.out
            have HBE : Hid (Below w.heap.size w wb) := hide (HB1.out.trans (hbb.mono (by omega)))
            clear hob hbb HR hp HOK HRD
            go_wp2_with fail
            rw [← hwb]
            clear hwb
            refine PI.out.mono ?_
            rintro e w' ⟨rfl, hw⟩
            replace hw := hw.symm
            subst hw
            go_wp2
            go_ret2
            exact ⟨rfl, HBE.out⟩
          · obtain ⟨x, p, q, rfl, hxl⟩ := two_last (st := st) (by omega)
            have HN : Hid (rdL [] (l.take (k + 1)) = some (x ++ [.jn p q])) := hide (by
              rw [HT2.out]; unfold rdS; rw [hp]
              simp only [Bool.false_eq_true, if_false, if_neg h3]
              rw [(last_two x p q).1, (last_two x p q).2.1, (last_two x p q).2.2])
            obtain ⟨gl, cc, e0, z1, z2, z3, z4, z5, -⟩ := own_cat hob (by simp)
            simp only [Value.slice.injEq] at e0
            obtain ⟨rfl, -, rfl⟩ := e0
            have cp : wb.cell? ⟨gl, x.length, none⟩ = some (lv p) := z5 _ _ (by rw [List.map_append, List.map_append, List.append_assoc, List.getElem?_append_right (by simp)]; simp)
            have cq : wb.cell? ⟨gl, x.length + 1, none⟩ = some (lv q) := z5 _ _ (by rw [List.map_append, List.getElem?_append_right (by simp)]; simp)
            have gp := HOK.out.1 p (by simp)
            have gq := HOK.out.1 q (by simp)
            have np := nbs_mem (st := x ++ [p] ++ [q]) (t := p) (by simp)
            have nq := nbs_mem (st := x ++ [p] ++ [q]) (t := q) (by simp)
            have hnb := HOK.out.2.1
            rw [List.length_take, show nbs [] = 0 from rfl] at hnb
            have sp : p.sz ≤ 1000000 := by have := (gd_sz gp).2; omega
            have sq : q.sz ≤ 1000000 := by have := (gd_sz gq).2; omega
            obtain ⟨n, hn⟩ : ∃ n, (x ++ [p] ++ [q]).length = n := ⟨_, rfl⟩
            obtain ⟨m, hm⟩ : ∃ m, x.length = m := ⟨_, rfl⟩
            obtain ⟨z, hz⟩ : ∃ z, z = m + 1 := ⟨_, rfl⟩
            have hnm : n = m + 2 := by rw [← hn, ← hm]; simp
            have hnb2 : n ≤ 201 := by rw [← hn]; omega
            rw [hn] at hob z1 ewl ⊢
            rw [hm, ← hz] at cq
            rw [hm] at cp
            have HOC : Hid (∀ w', Below wb.heap.size wb w' → w'.ownsRow w1.heap.size 131 1 (.slice (some ⟨gl, 0, none⟩) m c0) m (x.map lv)) := hide (fun w' hb => by
              have h1 := own_below (LmOwn.cut2 hob (by rw [hm]; omega)) hb
              rw [hm] at h1
              exact h1)
            have hmn : m < n := by omega
            have hzn : z < n := by omega
            have ew1 : IntKind.i64.wrap ((n : Int) - 1) = (z : Int) := by rw [IntKind.wrap_i64]; omega
            have ew2 : IntKind.i64.wrap ((z : Int) - 1) = (m : Int) := by rw [IntKind.wrap_i64]; omega
            have hd3 : decide ((z : Int) < 1) = false := by rw [decide_eq_false_iff_not]; omega
            have hcut : ∀ w, (Instr.slice 188 (.slice (some ⟨gl, 0, none⟩) n c0) none (some (.int .i64 (m : Int))) none).run Tryd.prog w = .ok (.slice (some ⟨gl, 0, none⟩) m c0) w := fun w => by
              have : m ≤ c0 := by omega
              simp [go_sem, Tryd.underlying188, this]
            have HBB := hide hbb
            have hBs := hbb.size
            have hmx : m ≤ 200 := by omega
            obtain ⟨Tp, xp, hlp⟩ := lv_is p
            obtain ⟨Tq, xq, hlq⟩ := lv_is q
            rw [hlp] at cp
            rw [hlq] at cq
            obtain ⟨Tr, xr, hlr⟩ := lv_is (.jn p q)
            have HLR := hide hlr
            have HLP := hide (And.intro hlp hlq)
            have HSP := hide (And.intro sp sq)
            have HMX : Hid (x.length = m) := hide hm
            clear hob hbb HR hp HOK HRD hn hm hz hnm ewl h3 hnl gp gq np nq hnb sp sq hlp hlq hlr z5 hxl HT2 hk
            go_wp2_with fail
            rw [← hwb]
            clear hwb
            refine PI.out.mono ?_
            rintro e w' ⟨rfl, hw⟩
            replace hw := hw.symm
            subst hw
            clear b0 b1 b2 b3 b4
            go_wp2_with fail
            go_region_law
              (first
                | (refine step_join (by rfl) _ _ _ _ (by rfl) p q HSP.out.1 HSP.out.2 (by rw [HLP.out.1]; rfl) (by rw [HLP.out.2]; rfl) (.iface Tr xr) HLR.out ?_; intro wj hbj; have hbj' : Below wb.heap.size wb wj := (by first | exact hbj | exact (Below.refl _ _).drew.trans hbj); have hsj := hbj'.size)
                | (refine step_append_lies _ (by rfl) _ _ _ (by rfl) w1.heap.size 131 i0 _ 1 16 Tryd.underlying188 hi0 hz0 hz1 hz2 rfl (by omega) (.slice (some ⟨gl, 0, none⟩) m c0) m (x.map lv) (by rfl) ((HOC.out _ hbj').alloc _) ⟨wj.heap.size, 0, none⟩ 1 1 [.iface Tr xr] (by rfl) (by rfl) (World.news_of_block (cs := #[.iface Tr xr]) (t := 131) (fr := (0, 0)) (heap_alloc_new wj _)) (by simp [Value.oneCell']) (by omega) (by unfold maxLen; omega) (by omega) (by simp; omega) (wj.heap.size + 1) (by simp) ?_; intro gg cap' w5 hown1 hgrow hat hlt5))
            all_goals
              have HR5 : Hid (LmOwn w5 w1.heap.size (.slice (some ⟨gg, 0, none⟩) (m + 1) cap') (x ++ [.jn p q]) ∧ Below w1.heap.size w1 w5) := hide ⟨by
                have hm := HMX.out
                rw [← HLR.out, ← hm] at hown1
                rw [← hm]
                exact LmOwn.app hown1, below_append (HBB.out.trans (hbj'.mono hBs)) (HOC.out _ hbj') (by omega) hgrow⟩
              have HMQ : Hid (m + 1 = (x ++ [Lm.jn p q]).length) := hide (by rw [← HMX.out]; simp)
              clear hown1 hgrow hat hlt5 HOC HBB hbj hbj' hsj
              go_wp2
              exact ⟨⟨k + 1, _, by omega, by go_num, HN, _, _, _, rfl, HMQ.out, HR5⟩, by simp [intOf]; omega⟩
      · have hke : k = l.length := by omega
        have HRL : Hid (rdL [] l = some st) := hide (by have := HRD.out; rw [hke, List.take_of_length_le (Nat.le_refl _)] at this; exact this)
        have HBW : Hid (Below w.heap.size w wr) := hide (HB1.out.trans (HR.out.2.mono (by omega)))
        by_cases hl0 : l = []
        · have hst : st.length = 0 := by have := HRL.out; rw [hl0] at this; cases this; rfl
          have hdc : dc l = some none := dc_some (o := none) hl0
          obtain ⟨rfl, rfl⟩ := HY.out none hdc
          rw [hst]
          clear hdc hst hl0 hke HR HOK
          go_wp2
          go_ret2
          exact ⟨rfl, HBW.out⟩
        · obtain ⟨t, r, rfl, gt, nt, d1, d2⟩ := dc_rd hl0 HRL.out
          obtain ⟨gl, cc, e0, z1, z2, z3, z4, z5, -⟩ := own_cat HR.out.1 (by simp)
          simp only [Value.slice.injEq] at e0
          obtain ⟨rfl, -, rfl⟩ := e0
          have ct : wr.cell? ⟨gl, 0, none⟩ = some (lv t) := z5 _ _ rfl
          obtain ⟨gr, rfl, hgr, hcr⟩ := (HI.out.later HBW.out).ad hl0
          have hst : (t :: r).length = r.length + 1 := rfl
          rw [hst] at hnl ⊢
          have hst0 : (((r.length + 1 : Nat) : Int) == 0) = false := by rw [beq_eq_false_iff_ne]; omega
          obtain ⟨n, hn⟩ : ∃ n, r.length + 1 = n := ⟨_, rfl⟩
          have hn0 : 0 < n := by omega
          rw [hn] at hnl hst0 ⊢
          have hsz := (gd_sz gt).2
          have RW := hide (ropeWith_some t wr (by omega) (by omega))
          have hgb : wr.heap[w.heap.size]? = some (.cells #[.slice (some ⟨gr, 0, none⟩) l.length cap] 62) := by rw [HR.out.2.block _ (by omega)]; exact HG1.out
          have hsr : w.heap.size < wr.heap.size := by have := HR.out.2.size; omega
          obtain ⟨T, xt, hlt2⟩ := lv_is t
          rw [hlt2] at RW ct
          have HLT := hide hlt2
          have HCR := hide hcr
          have D1 := hide d1
          have D2 := hide d2
          clear hn hst HR HOK hsz gt d1 d2 hke hlt2 hcr z5 z3 z1
          by_cases hfit : fit (some t) = true
          · have hok : okB (some t) = t.pd 0 := by unfold okB; rw [hfit]; rfl
            rw [hok, hfit] at RW
            unfold RpPost at RW
            have hfp : t.nb ≤ 200 ∧ t.sz ≤ 300 := by unfold fit nbO szO at hfit; simpa using hfit
            go_wp2_with fail
            refine RW.out.mono ?_
            rintro e w2 ⟨v2, rfl, own2, hb2⟩
            obtain ⟨g2, c2, rfl, y1, y2, y3, y4, y5, -⟩ := BoOwn.shape own2 (pd_ne t 0)
            have HB2 : Hid (Below w.heap.size w w2) := hide (HBW.out.trans (hb2.mono (by omega)))
            have hs2 := hb2.size
            obtain ⟨w3, hw3⟩ : ∃ w3, w3 = w2.alloc (.cells #[.slice (some ⟨g2, 0, none⟩) (t.pd 0).length c2] 62) := ⟨_, rfl⟩
            have hb3 : Below w2.heap.size w2 w3 := by rw [hw3]; exact (Below.refl _ _).alloc (Nat.le_refl _) _
            have cb : w3.cell? ⟨w2.heap.size, 0, none⟩ = some (.slice (some ⟨g2, 0, none⟩) (t.pd 0).length c2) := by rw [hw3, cell_of_row _ _ 0 _ _ (0, 0) (heap_alloc_new w2 _)]; rfl
            have cr : w3.cell? ⟨w.heap.size, 0, none⟩ = some (.slice (some ⟨gr, 0, none⟩) l.length cap) := by
              rw [World.cell?_of_block (hb3.block _ (by show w.heap.size < _; omega)), World.cell?_of_block (hb2.block _ (by show w.heap.size < _; omega)), cell_of_row _ _ 0 _ _ (0, 0) hgb]; rfl
            have cr2 := cr
            rw [hw3] at cr2
            have hgl2 : gl < w2.heap.size := by omega
            have cl3 : w3.cell? ⟨gl, 0, none⟩ = some (.iface T xt) := by
              rw [World.cell?_of_block (hb3.block _ (by show gl < _; omega)), World.cell?_of_block (hb2.block _ (by show gl < _; omega))]; exact ct
            have HB3 : Hid (Below w.heap.size w w3) := hide (HB2.out.trans (hb3.mono HB2.out.size))
            have hs3 := hb3.size
            have EQ : Hid (Calls Tryd.prog 142 #[.slice (some ⟨g2, 0, none⟩) (t.pd 0).length c2, .slice (some ⟨gr, 0, none⟩) l.length cap] w3 fun e w' => e = .returned (.bool (decide (t.pd 0 = l))) ∧ Below w3.heap.size w3 w') := hide (by
              by_cases hll : (t.pd 0).length = l.length
              · have hl3 : (t.pd 0).length ≤ 200 := by rw [Lm.pd_len]; exact hfp.1
                exact equalBo_at g2 gr c2 cap (t.pd 0) l w3 (by omega) hll ⟨y1, y2⟩ ⟨hcl, by unfold maxLen; omega⟩ (y5.later hb3 y4) ((HCR.out.later hb2 hgr).later hb3 (by omega)) (by omega) (by omega)
              · rw [decide_eq_false (fun c => hll (by rw [c]))]
                exact equalBo_len _ _ _ _ _ _ w3 hll)
            clear own2 hb2 hb3 y5 HCR HB2 ct hok
            by_cases he : t.pd 0 = l
            · obtain ⟨rfl, rfl⟩ := HY.out _ (D1.out.2 ⟨hfp, he⟩)
              rw [decide_eq_true he] at EQ
              clear he D1 D2 HY HD
              go_wp2_with fail
              rw [← hw3]
              clear hw3
              refine EQ.out.mono ?_
              rintro e w4 ⟨rfl, hb4⟩
              have cl4 : w4.cell? ⟨gl, 0, none⟩ = some (.iface T xt) := by rw [World.cell?_of_block (hb4.block _ (by show gl < _; omega))]; exact cl3
              have HB4 : Hid (Below w.heap.size w w4) := hide (HB3.out.trans (hb4.mono HB3.out.size))
              clear hb4
              go_wp2
              go_ret2
              exact ⟨by rw [show lvO (some t) = .iface T xt from HLT.out] <;> rfl, HB4.out⟩
            · obtain ⟨rfl, rfl⟩ := HD.out (D2.out (fun c => he c.2))
              rw [decide_eq_false he] at EQ
              clear he D1 D2 HY HD
              go_wp2_with fail
              rw [← hw3]
              clear hw3
              refine EQ.out.mono ?_
              rintro e w4 ⟨rfl, hb4⟩
              have HB4 : Hid (Below w.heap.size w w4) := hide (HB3.out.trans (hb4.mono HB3.out.size))
              clear hb4
              go_wp2
              go_ret2
              exact ⟨rfl, HB4.out⟩
          · rw [Bool.not_eq_true] at hfit
            rw [hfit] at RW
            unfold RpPost at RW
            have hfp : ¬ (t.nb ≤ 200 ∧ t.sz ≤ 300) := fun c => by unfold fit nbO szO at hfit; simp [c] at hfit
            obtain ⟨rfl, rfl⟩ := HD.out (D2.out (fun c => hfp c.1))
            clear D1 D2 HY HD hfit hfp
            go_wp2_with fail
            refine RW.out.mono ?_
            rintro e w2 ⟨v2, rfl, own2, hb2⟩
            obtain ⟨a2, c2, rfl, -⟩ := own_shp own2
            have HB2 : Hid (Below w.heap.size w (w2.alloc (.cells #[.slice a2 (okB (some t)).length c2] 62))) := hide ((HBW.out.trans (hb2.mono (by omega))).alloc (by have := hb2.size; omega) _)
            clear own2 hb2
            go_wp2
            go_ret2
            exact ⟨rfl, HB2.out⟩
  · have hd2 : decide ((200 : Int) < (l.length : Int)) = true := by rw [decide_eq_true_iff]; omega
    obtain ⟨rfl, rfl⟩ := HD.out (dc_long (by omega))
    go_enter Tryd.func90, Tryd.ntmps90
    go_wp2
    go_ret2
    exact ⟨rfl, (Below.refl _ _).alloc (Nat.le_refl _) _⟩
end Go.Proofs.YtpeconmdmddkfaaDoor

set_option linter.unusedVariables false
namespace Go.Proofs.YtpeconmdmddkfaaDoor
open Go.RowKit
open Doc1

/-- A rope that comes in. -/
structure RIn (w : World) (a : Option Addr) (cap : Nat) (l : List Bg) : Prop where
  inn : BoIn w a cap l
  len : l.length ≤ 1048576
  txt : ∀ i (hi : i < l.length), l[i].text.size ≤ 1048576

theorem RIn.later {w w1 : World} {a : Option Addr} {cap : Nat} {l : List Bg} (h : RIn w a cap l) (hb : Below w.heap.size w w1) : RIn w1 a cap l := ⟨h.inn.later hb, h.len, h.txt⟩

theorem root_of {w : World} {a : Option Addr} {cap : Nat} {l : List Bg} (h : RIn w a cap l) (hT : Tab w) : Calls Tryd.prog 90 #[.agg #[.slice a l.length cap]] w (RtPost (rtO l) (rtB l) w) := rootOf_any a cap l w h.inn hT h.len h.txt

theorem rt_ok (l : List Bg) : gdO (rtO l) ∧ nbO (rtO l) ≤ 200 ∧ szO (rtO l) ≤ 300 := by
  unfold rtO
  cases h : dc l with
  | none => exact ⟨(fun s hs => by cases hs), (by simp [nbO]), (by simp [szO])⟩
  | some o => exact (RO_bo (dc_ro h)).2

theorem pcO_len (o : Option Lm) : (pcO o).length ≤ nbO o := by
  cases o with
  | none => exact Nat.le_refl _
  | some t => have := Lm.nb_pcs t; simp only [pcO, nbO]; have := Lm.nb_pos t; omega

theorem pcO_tot (o : Option Lm) : tot (pcO o) = szO o := (szO_pc o).symm

/-- A result that lies in a block of one cell. -/
def CellR (w : World) (c : Nat) (x : Value) : Prop := w.heap[c]? = some (.cells #[x] 62)

theorem CellR.later {w w1 : World} {c : Nat} {x : Value} (h : CellR w c x) (hb : Below w.heap.size w w1) : CellR w1 c x := by
  have hc : c < w.heap.size := (Array.getElem?_eq_some_iff.1 h).1
  unfold CellR; rw [hb.block c hc]; exact h

theorem CellR.cell {w : World} {c : Nat} {x : Value} (h : CellR w c x) : w.cell? ⟨c, 0, none⟩ = some x := by rw [cell_of_row _ _ 0 _ _ (0, 0) h]; rfl

theorem CellR.fz {w : World} {c : Nat} {x : Value} (h : CellR w c x) : w.frozen? ⟨c, 0, none⟩ = false := frozen_of_row h 0

theorem CellR.lt {w : World} {c : Nat} {x : Value} (h : CellR w c x) : c < w.heap.size := (Array.getElem?_eq_some_iff.1 h).1

theorem CellR.put {w : World} {c : Nat} {x : Value} (h : CellR w c x) (y : Value) : CellR (w.setCell ⟨c, 0, none⟩ y) c y := cell_put h 0 y

theorem CellR.new (w : World) (x : Value) : CellR (w.alloc (.cells #[x] 62)) w.heap.size x := heap_alloc_new w _

theorem boxes2 (w : World) (x y : Value) : ((w.alloc (.cells #[x] 62)).alloc (.cells #[y] 62)).heap.size = w.heap.size + 2 ∧ Below w.heap.size w ((w.alloc (.cells #[x] 62)).alloc (.cells #[y] 62)) ∧ CellR ((w.alloc (.cells #[x] 62)).alloc (.cells #[y] 62)) w.heap.size x ∧ CellR ((w.alloc (.cells #[x] 62)).alloc (.cells #[y] 62)) (w.heap.size + 1) y := by
  refine ⟨by simp, ((Below.refl _ _).alloc (Nat.le_refl _) _).alloc (by simp) _, (CellR.new w x).later ((Below.refl _ _).alloc (Nat.le_refl _) _), ?_⟩
  have := CellR.new (w.alloc (.cells #[x] 62)) y
  rwa [show (w.alloc (.cells #[x] 62)).heap.size = w.heap.size + 1 by simp] at this

theorem boxes3 (w : World) (x y z : Value) : (((w.alloc (.cells #[x] 62)).alloc (.cells #[y] 62)).alloc (.cells #[z] 62)).heap.size = w.heap.size + 3 ∧ Below w.heap.size w (((w.alloc (.cells #[x] 62)).alloc (.cells #[y] 62)).alloc (.cells #[z] 62)) ∧ CellR (((w.alloc (.cells #[x] 62)).alloc (.cells #[y] 62)).alloc (.cells #[z] 62)) w.heap.size x ∧ CellR (((w.alloc (.cells #[x] 62)).alloc (.cells #[y] 62)).alloc (.cells #[z] 62)) (w.heap.size + 1) y ∧ CellR (((w.alloc (.cells #[x] 62)).alloc (.cells #[y] 62)).alloc (.cells #[z] 62)) (w.heap.size + 2) z := by
  obtain ⟨h1, h2, h3, h4⟩ := boxes2 w x y
  have hb := (Below.refl ((w.alloc (.cells #[x] 62)).alloc (.cells #[y] 62)).heap.size ((w.alloc (.cells #[x] 62)).alloc (.cells #[y] 62))).alloc (Nat.le_refl _) (.cells #[z] 62)
  refine ⟨by simp, h2.trans (hb.mono h2.size), h3.later hb, h4.later hb, ?_⟩
  have := CellR.new ((w.alloc (.cells #[x] 62)).alloc (.cells #[y] 62)) z
  rwa [h1] at this

set_option maxRecDepth 100000 in
set_option maxHeartbeats 4000000 in
theorem addPieces_opt (o : Option Lm) (w : World) (hn : nbO o ≤ 10000) (hz : szO o ≤ 100000) : Calls Tryd.prog 92 #[.slice none 0 0, lvO o] w fun e w' => ∃ v, e = .returned v ∧ PcOwn w' w.heap.size v (pcO o) ∧ Below w.heap.size w w' := by
  cases o with
  | none => exact (addPieces_none w.heap.size _ [] w (PcOwn.nil _ _) (Nat.le_refl _)).mono (fun e w' ⟨v, h1, h2, h3, _⟩ => ⟨v, h1, h2, h3.b⟩)
  | some t => exact (addPieces_any t w.heap.size _ [] w (PcOwn.nil _ _) (Nat.le_refl _) (by simp only [nbO] at hn; simp; omega) (by simp only [szO] at hz; omega)).mono (fun e w' ⟨v, h1, h2, h3, _⟩ => ⟨v, h1, h2, h3.b⟩)

/-- A rope of a text. -/
noncomputable def roL (s : ByteArray) : List Bg := if good s.data.toList then okB (evn (cutL s)) else []

noncomputable def roB (s : ByteArray) : Bool := good s.data.toList && fit (evn (cutL s))

theorem cutP_app (s : ByteArray) (k : Nat) : catB ((List.range k).map (cutP s)) = s.extract 0 (min (8 * k) s.size) := by
  induction k with
  | zero => simp [catB]; rfl
  | succ k ih =>
    rw [List.range_succ, List.map_append, List.map_singleton, catB_snoc, ih]
    unfold cutP
    apply Doc1.ba_eq
    rw [apdB]
    simp only [ByteArray.data_extract, Array.toList_extract, List.extract_eq_take_drop]
    rw [List.drop_zero, Nat.sub_zero, Nat.sub_zero, show 8 * (k + 1) = 8 * k + 8 by omega]
    have hs : s.size = s.data.toList.length := szB s
    by_cases h : 8 * k ≤ s.size
    · rw [Nat.min_eq_left h]
      have : min (8 * k + 8) s.size = 8 * k + (min (8 * k + 8) s.size - 8 * k) := by omega
      rw [this, List.take_add, ← this]
    · rw [Nat.min_eq_right (by omega), Nat.min_eq_right (by omega), List.drop_eq_nil_of_le (by omega)]
      simp

theorem catB_cut (s : ByteArray) : catB (cutL s) = s := by
  unfold cutL
  rw [cutP_app, Nat.min_eq_right (by unfold cutN; omega), ByteArray.extract_zero_size]

theorem tot_cut (s : ByteArray) : tot (cutL s) = s.size := by rw [← catB_size, catB_cut]

theorem cutL_le (s : ByteArray) (hs : s.size ≤ 300) : (cutL s).length ≤ 38 := by rw [cutL_len]; unfold cutN; omega

theorem fit_cut (s : ByteArray) (hs : s.size ≤ 300) : fit (evn (cutL s)) = true := by
  unfold fit
  rw [nbO_evn, szO_evn, tot_cut]
  have := cutL_le s hs
  simp; omega

/-- Two ropes joined. -/
noncomputable def jnL (l m : List Bg) : List Bg := if rtB l && rtB m then okB (jo (rtO l) (rtO m)) else []

noncomputable def jnB (l m : List Bg) : Bool := (rtB l && rtB m) && fit (jo (rtO l) (rtO m))

theorem jo_nb (a b : Option Lm) : nbO (jo a b) ≤ nbO a + nbO b + 1 := by
  cases a <;> cases b <;> simp [jo, nbO, Lm.nb]

end Go.Proofs.YtpeconmdmddkfaaDoor

set_option linter.unusedVariables false
namespace Go.Proofs.YtpeconmdmddkfaaDoor
open Go.RowKit
open Doc1

noncomputable def rbL (l : List Bg) : List Bg := if rtB l then okB (evn (pcO (rtO l))) else []

noncomputable def rbB (l : List Bg) : Bool := rtB l && fit (evn (pcO (rtO l)))

theorem Tryd.infoStr : (Tryd.prog.info? 9).map (fun i => (i.zero, i.size, i.bytes)) = some (some (.string ⟨#[]⟩), 1, 16) := by kernel_rfl

/-- A row of texts of one's own. -/
def TxOwn (w : World) (B : Nat) (v : Value) (l : List ByteArray) : Prop := w.ownsRow B 9 1 v l.length (stC l)

theorem TxOwn.app {w : World} {B : Nat} {v : Value} {l : List ByteArray} {s : ByteArray} (h : w.ownsRow B 9 1 v (l.length + 1) (stC l ++ [.string s])) : TxOwn w B v (l ++ [s]) := by
  unfold TxOwn
  rw [List.length_append]
  unfold stC at h ⊢
  rw [List.map_append]
  exact h

end Go.Proofs.YtpeconmdmddkfaaDoor

set_option linter.unusedVariables false
namespace Go.Proofs.YtpeconmdmddkfaaDoor
open Go.RowKit
open Doc1

/-- The numbers of Fibonacci from the second on. -/
def fb : Nat → Nat
  | 0 => 1
  | 1 => 2
  | n + 2 => fb n + fb (n + 1)

theorem fb_pos : ∀ n, 0 < fb n
  | 0 => by decide
  | 1 => by decide
  | n + 2 => by have := fb_pos n; simp only [fb]; omega

theorem fb_up (n : Nat) : fb n < fb (n + 1) ∧ fb (n + 1) ≤ 2 * fb n := by
  induction n with
  | zero => decide
  | succ n ih => have := fb_pos n; simp only [fb]; omega

theorem fb_mono {n m : Nat} (h : n ≤ m) : fb n ≤ fb m := by
  induction m with
  | zero => rw [Nat.le_zero.1 h]; exact Nat.le_refl _
  | succ m ih =>
    by_cases c : n ≤ m
    · have := ih c; have := fb_up m; omega
    · rw [show n = m + 1 by omega]; exact Nat.le_refl _

def lng (size deep : Nat) : Bool := decide (fb deep ≤ size)

/-- Boughs of a good rope: their numbers are small. -/
theorem pd_small (t : Lm) : ∀ (o : Nat), ∀ b ∈ t.pd o, ∃ (z d : Nat), b.size = (z : Int) ∧ b.deep = (d : Int) ∧ z ≤ t.sz ∧ d ≤ t.dp := by
  induction t with
  | pc s => intro o b hb; simp only [Lm.pd, List.mem_singleton] at hb; subst hb; exact ⟨s.size, 0, rfl, rfl, Nat.le_refl _, Nat.le_refl _⟩
  | jn a b iha ihb =>
    intro o x hx
    simp only [Lm.pd, List.mem_append, List.mem_singleton] at hx
    simp only [Lm.sz, Lm.dp]
    rcases hx with h | h | h
    · obtain ⟨z, d, h1, h2, h3, h4⟩ := iha _ _ h
      exact ⟨z, d, h1, h2, by omega, by omega⟩
    · obtain ⟨z, d, h1, h2, h3, h4⟩ := ihb _ _ h
      exact ⟨z, d, h1, h2, by omega, by omega⟩
    · subst h
      exact ⟨a.sz + b.sz, max a.dp b.dp + 1, rfl, rfl, Nat.le_refl _, Nat.le_refl _⟩

theorem rt_small {l : List Bg} (h : rtB l = true) : ∀ i (hi : i < l.length), ∃ (z d : Nat), l[i].size = (z : Int) ∧ l[i].deep = (d : Int) ∧ z ≤ 300 ∧ d ≤ 200 := by
  intro i hi
  unfold rtB at h
  obtain ⟨o, ho⟩ := Option.isSome_iff_exists.1 h
  obtain ⟨e, hg, hn, hz⟩ := RO_bo (dc_ro ho)
  cases o with
  | none => rw [e] at hi; simp [bo] at hi
  | some t =>
    obtain ⟨b, hb⟩ : ∃ b, l[i] = b := ⟨_, rfl⟩
    have hm : b ∈ l := hb ▸ List.getElem_mem hi
    rw [hb]
    rw [e] at hm
    obtain ⟨z, d, h1, h2, h3, h4⟩ := pd_small t 0 _ hm
    have := Lm.dp_lt t
    simp only [nbO, szO] at hn hz
    exact ⟨z, d, h1, h2, by omega, by omega⟩

def lngB (b : Bg) : Bool := lng b.size.toNat b.deep.toNat

noncomputable def blB (l : List Bg) : Bool := rtB l && l.all lngB

end Go.Proofs.YtpeconmdmddkfaaDoor

set_option linter.unusedVariables false
namespace Go.Proofs.YtpeconmdmddkfaaDoor
open Go.RowKit
open Doc1

theorem good_of {l m : List UInt8} (h : good l = true) (hs : ∀ c ∈ m, c ∈ l) (hl : m.length ≤ l.length) : good m = true := by
  unfold good allOk at h ⊢
  simp only [Bool.and_eq_true, decide_eq_true_eq, List.all_eq_true] at h ⊢
  exact ⟨fun c hc => h.1 c (hs c hc), by omega⟩

theorem ext_list (s : ByteArray) (a b : Nat) : (s.extract a b).data.toList = (s.data.toList.take b).drop a := by
  simp only [ByteArray.data_extract, Array.toList_extract, List.extract_eq_take_drop, List.drop_take]

theorem gpc_ext {s : ByteArray} (h : gpc s = true) {a b : Nat} (hab : a < b) (hb : b ≤ s.size) : gpc (s.extract a b) = true := by
  have h8 := gpc_bd h
  have hg : good (s.extract a b).data.toList = true := good_of (gpc_good h) (fun c hc => by rw [ext_list] at hc; exact List.mem_of_mem_take (List.mem_of_mem_drop hc)) (by rw [← szB, ← szB, ByteArray.size_extract]; omega)
  unfold gpc
  rw [hg]
  simp only [ByteArray.size_extract, Bool.and_true, Bool.and_eq_true, decide_eq_true_eq]
  omega

theorem spl_nb (t : Lm) : ∀ n, nbO (spl t n).1 ≤ t.nb ∧ nbO (spl t n).2 ≤ t.nb := by
  induction t with
  | pc s => intro n; simp only [spl]; split; · simp [nbO, Lm.nb]
            · split <;> simp [nbO, Lm.nb]
  | jn a b iha ihb =>
    intro n
    simp only [spl, Lm.nb]
    split
    · simp [nbO, Lm.nb]
    · split
      · simp [nbO, Lm.nb]
      · split
        · refine ⟨?_, ?_⟩
          · have := (iha n).1; show nbO (spl a n).1 ≤ _; omega
          · have h1 := jo_nb (spl a n).2 (some b); have := (iha n).2; show nbO (jo (spl a n).2 (some b)) ≤ _; rw [show nbO (some b) = b.nb from rfl] at h1; omega
        · refine ⟨?_, ?_⟩
          · have h1 := jo_nb (some a) (spl b (n - a.sz)).1; have := (ihb (n - a.sz)).1; show nbO (jo (some a) (spl b (n - a.sz)).1) ≤ _; rw [show nbO (some a) = a.nb from rfl] at h1; omega
          · have := (ihb (n - a.sz)).2; show nbO (spl b (n - a.sz)).2 ≤ _; omega

theorem gdO_some {t : Lm} (h : t.gd) : gdO (some t) := h

theorem gdO_none : gdO none := fun s hs => by cases hs

theorem spl_gd (t : Lm) : ∀ n, n ≤ t.sz → t.gd → gdO (spl t n).1 ∧ gdO (spl t n).2 := by
  induction t with
  | pc s =>
    intro n hn h
    simp only [Lm.sz] at hn
    have hp := gd_pc.1 h
    simp only [spl]
    split
    · exact ⟨gdO_none, h⟩
    · split
      · exact ⟨h, gdO_none⟩
      · exact ⟨gd_pc.2 (gpc_ext hp (by omega) hn), gd_pc.2 (gpc_ext hp (by omega) (Nat.le_refl _))⟩
  | jn a b iha ihb =>
    intro n hn h
    simp only [Lm.sz] at hn
    obtain ⟨ga, gb⟩ := gd_jn.1 h
    simp only [spl]
    split
    · exact ⟨gdO_none, h⟩
    · split
      · exact ⟨h, gdO_none⟩
      · split
        · rename_i h1 h2 h3
          exact ⟨(iha n h3 ga).1, jo_gd (iha n h3 ga).2 gb⟩
        · rename_i h1 h2 h3
          exact ⟨jo_gd ga (ihb (n - a.sz) (by omega) gb).1, (ihb (n - a.sz) (by omega) gb).2⟩

/-- The text of a tree. -/
def txO (o : Option Lm) : List UInt8 := (catB (pcO o)).data.toList

theorem txO_jo (a b : Option Lm) : txO (jo a b) = txO a ++ txO b := by unfold txO; rw [jo_pc, catB_app, apdB]

theorem txO_len (o : Option Lm) : (txO o).length = szO o := by unfold txO; rw [← szB, catB_size, pcO_tot]

theorem txO_none : txO none = [] := rfl

theorem txO_pc (s : ByteArray) : txO (some (.pc s)) = s.data.toList := by unfold txO; rw [catB_list]; simp [pcO, Lm.pcs]

theorem txO_jn (a b : Lm) : txO (some (.jn a b)) = txO (some a) ++ txO (some b) := txO_jo (some a) (some b)

theorem spl_tx (t : Lm) : ∀ n, n ≤ t.sz → txO (spl t n).1 = (txO (some t)).take n ∧ txO (spl t n).2 = (txO (some t)).drop n := by
  induction t with
  | pc s =>
    intro n hn
    simp only [Lm.sz] at hn
    have hs := szB s
    rw [txO_pc]
    simp only [spl]
    split
    · subst n; simp [txO_none, txO_pc]
    · split
      · subst n; rw [List.take_of_length_le (by omega), List.drop_eq_nil_of_le (by omega)]; exact ⟨txO_pc s, rfl⟩
      · rw [txO_pc, txO_pc, ext_list, ext_list]
        rw [List.drop_zero]
        exact ⟨rfl, by rw [List.take_of_length_le (by omega)]⟩
  | jn a b iha ihb =>
    intro n hn
    simp only [Lm.sz] at hn
    have la := txO_len (some a)
    have lb := txO_len (some b)
    simp only [szO] at la lb
    simp only [spl]
    split
    · subst n; simp [txO_none]
    · split
      · subst n
        have hl : (txO (some (.jn a b))).length = a.sz + b.sz := by rw [txO_len]; rfl
        rw [List.take_of_length_le (by omega), List.drop_eq_nil_of_le (by omega)]
        exact ⟨rfl, rfl⟩
      · split
        · rename_i h1 h2 h3
          have := iha n h3
          rw [txO_jn]
          refine ⟨?_, ?_⟩
          · show txO (spl a n).1 = _
            rw [this.1, List.take_append_of_le_length (by omega)]
          · show txO (jo (spl a n).2 (some b)) = _
            rw [txO_jo, this.2, List.drop_append_of_le_length (by omega)]
        · rename_i h1 h2 h3
          have := ihb (n - a.sz) (by omega)
          rw [txO_jn]
          refine ⟨?_, ?_⟩
          · show txO (jo (some a) (spl b (n - a.sz)).1) = _
            rw [txO_jo, this.1, List.take_append, show (txO (some a)).take n = txO (some a) from List.take_of_length_le (by omega), la]
          · show txO (spl b (n - a.sz)).2 = _
            rw [this.2, List.drop_append, show (txO (some a)).drop n = [] from List.drop_eq_nil_of_le (by omega), la]; rfl

noncomputable def spOk (l : List Bg) (n : Int) : Bool := rtB l && (decide (0 ≤ n) && decide (n ≤ (szO (rtO l) : Int)))

noncomputable def spL1 (l : List Bg) (n : Int) : List Bg := if spOk l n then bo (splO (rtO l) n.toNat).1 else []

noncomputable def spL2 (l : List Bg) (n : Int) : List Bg := if spOk l n then bo (splO (rtO l) n.toNat).2 else []

theorem splO_ok (o : Option Lm) (n : Nat) (hn : n ≤ szO o) (hz : szO o ≤ 300) (hb : nbO o ≤ 200) : okB (splO o n).1 = bo (splO o n).1 ∧ okB (splO o n).2 = bo (splO o n).2 ∧ nbO (splO o n).1 ≤ 200 ∧ nbO (splO o n).2 ≤ 200 ∧ szO (splO o n).1 ≤ 300 ∧ szO (splO o n).2 ≤ 300 := by
  cases o with
  | none => exact ⟨rfl, rfl, by simp [splO, nbO], by simp [splO, nbO], by simp [splO, szO], by simp [splO, szO]⟩
  | some t =>
    simp only [nbO, szO] at hn hz hb
    have h1 := spl_nb t n
    have h2 := spl_sz t n hn
    have k1 : fit (spl t n).1 = true := by unfold fit; simp; omega
    have k2 : fit (spl t n).2 = true := by unfold fit; simp; omega
    exact ⟨by unfold okB splO; rw [k1]; rfl, by unfold okB splO; rw [k2]; rfl, by simp only [splO]; omega, by simp only [splO]; omega, by simp only [splO]; omega, by simp only [splO]; omega⟩

theorem CellR.other {w : World} {c d : Nat} {x : Value} (h : CellR w c x) (hd : d ≠ c) (y : Value) : CellR (w.setCell ⟨d, 0, none⟩ y) c x := by
  unfold CellR at h ⊢
  rw [Below.heap_setCell _ _ _ _ (fun e => hd e.symm)]
  exact h

/-- Two ropes that a function tells. -/
def Rp2Post (w : World) (l m : List Bg) (b : Bool) (e : Ending) (w' : World) : Prop := ∃ v u, e = .returned (.tuple #[.agg #[v], .agg #[u], .bool b]) ∧ BoOwn w' w.heap.size v l ∧ BoOwn w' w.heap.size u m ∧ (∀ y z, v.ownBlock = some y → u.ownBlock = some z → y ≠ z) ∧ Below w.heap.size w w'

/-- The byte at a place, and how many are gone through. -/
def bat : Lm → Nat → UInt8 × Nat
  | .pc s, n => (s.data.toList.getD n 0, 1)
  | .jn a b, n => if a.sz ≤ n then ((bat b (n - a.sz)).1, (bat b (n - a.sz)).2 + 1) else ((bat a n).1, (bat a n).2 + 1)

theorem bat_dp (t : Lm) : ∀ n, (bat t n).2 ≤ t.dp + 1 := by
  induction t with
  | pc s => intro n; simp [bat, Lm.dp]
  | jn a b iha ihb =>
    intro n
    simp only [bat, Lm.dp]
    split
    · have := ihb (n - a.sz); simp only; omega
    · have := iha n; simp only; omega

theorem bat_tx (t : Lm) : ∀ n, n < t.sz → (bat t n).1 = (txO (some t)).getD n 0 := by
  induction t with
  | pc s => intro n hn; rw [txO_pc]; rfl
  | jn a b iha ihb =>
    intro n hn
    simp only [Lm.sz] at hn
    have la := txO_len (some a)
    simp only [szO] at la
    rw [txO_jn]
    simp only [bat]
    split
    · rename_i h; rw [ihb _ (by omega), List.getD_eq_getElem?_getD, List.getD_eq_getElem?_getD, List.getElem?_append_right (by omega), la]
    · rename_i h; rw [iha _ (by omega), List.getD_eq_getElem?_getD, List.getD_eq_getElem?_getD, List.getElem?_append_left (by omega)]

def BaPost (t : Lm) (n : Nat) (w : World) (e : Ending) (w' : World) : Prop := e = .returned (.tuple #[.int .u8 ((bat t n).1.toNat : Int), .int .i64 ((bat t n).2 : Int)]) ∧ Below w.heap.size w w'

def BaC (t : Lm) : Prop := ∃ T x K, lv t = .iface T x ∧ (∀ a w, (callFunc K a).run Tryd.prog w = .ok (.enter K a) w) ∧ (∀ w, (method 364 T x "loop.example/g00253/impl.byteAt").run Tryd.prog w = .ok (K, x) w) ∧ ∀ (n : Nat) w, n < t.sz → Calls Tryd.prog K #[x, .int .i64 (n : Int)] w (BaPost t n w)

end Go.Proofs.YtpeconmdmddkfaaDoor

set_option linter.unusedVariables false
namespace Go.Proofs.YtpeconmdmddkfaaDoor
open Go.RowKit
open Doc1

theorem own_new (w : World) (e : TypeId) (cs : Array Value) (n size : Nat) (hn : cs.size = n * size) (hl : n ≤ 1000000) : (w.alloc (.cells cs e)).ownsRow w.heap.size e size (.slice (some ⟨w.heap.size, 0, none⟩) n n) n cs.toList :=
  ⟨by rw [Array.length_toList]; exact hn, .inr ⟨w.heap.size, n, cs, rfl, Nat.le_refl _, heap_alloc_new w _, Nat.le_refl _, by unfold maxLen; omega, hn, List.take_of_length_le (by rw [Array.length_toList]; omega)⟩⟩

noncomputable def byOk (l : List Bg) (n : Int) : Bool := rtB l && (decide (0 ≤ n) && decide (n < (szO (rtO l) : Int)))

def batO : Option Lm → Nat → UInt8 × Nat
  | none, _ => (0, 0)
  | some t, n => bat t n

noncomputable def byS (l : List Bg) (n : Int) : ByteArray := if byOk l n then ⟨#[(batO (rtO l) n.toNat).1]⟩ else ⟨#[]⟩

noncomputable def byN (l : List Bg) (n : Int) : Nat := if byOk l n then (batO (rtO l) n.toNat).2 else 0

end Go.Proofs.YtpeconmdmddkfaaDoor
