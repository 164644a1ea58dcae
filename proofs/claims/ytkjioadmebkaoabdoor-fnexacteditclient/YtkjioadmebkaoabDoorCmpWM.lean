/- The program's ComposeOps: what it holds between its rounds, and addBoth. The program's ComposeOps. The contract of impl.ComposeOps, whatever the arguments. -/
import Derived.Test.YtkjioadmebkaoabDoorOpW78
import Derived.Test.YtkjioadmebkaoabDoorCollM
import Derived.Test.YtkjioadmebkaoabDoorComp4
import Derived.Sort.QuietIn
namespace Go.Proofs.YtkjioadmebkaoabDoor
open Go.RowKit Go.Shelf
open Doc1

attribute [local go_sem] Oper.semAt_some

set_option maxRecDepth 100000 in
set_option maxHeartbeats 2000000 in
theorem addBoth_any {gb : Nat} {V : Nat → Value} {G : Gs} {W : World} (x y : St) (hx : x.k = 1 ∨ x.k = 2) (hy : y.k = 1 ∨ y.k = 3) (h : Gt gb V G W) {n : Nat} (hb : GB G n) (hn : n ≤ 1000000) :
    Calls Tryd.prog 74 #[.pointer (some ⟨gb, 0, none⟩), stV x, stV y] W fun e w' => e = .returned (.bool (cpB x y).isSome) ∧ ∃ V', Gt gb V' (gath G ((cpB x y).getD [])) w' ∧ Moves (OB gb V) W (OB gb V') w' := by
  obtain ⟨xk, xc⟩ := x
  obtain ⟨yk, yc⟩ := y
  simp only at hx hy
  have hB : ∀ o1 o2 : Obj, Below W.heap.size W ((W.alloc o1).alloc o2) := fun o1 o2 => ((Below.refl _ _).alloc (Nat.le_refl _) _).alloc (by simp) _
  have AX := hide (fun o1 o2 => add_any (⟨xk, xc⟩ : St) (by rcases hx with e | e <;> subst e <;> simp [sk]) (h.up (hB o1 o2)) hb hn)
  have AY := hide (fun o1 o2 => add_any (⟨yk, yc⟩ : St) (by rcases hy with e | e <;> subst e <;> simp [sk]) (h.up (hB o1 o2)) hb hn)
  have MV := hide (fun o1 o2 => moves_up (O := OB gb V) (hB o1 o2))
  have HV := hide (fun o1 o2 => h.up (hB o1 o2))
  unfold stV at AX AY ⊢
  simp only at AX AY ⊢
  clear h hB
  rcases hx with rfl | rfl
  · have e : cpB (⟨1, xc⟩ : St) ⟨yk, yc⟩ = some [⟨yk, yc⟩] := by simp [cpB]
    rw [e]
    clear e AX
    go_enter Tryd.func74, Tryd.ntmps74
    go_wp2_with fail
    refine (AY.out _ _).mono ?_
    rintro e w3 ⟨rfl, V', hV', mv⟩
    have HV' := hide hV'
    have HM := hide ((MV.out _ _).trans mv)
    clear hV' mv AY
    go_wp2
    go_ret
    exact ⟨rfl, V', HV'.out, HM.out⟩
  · rcases hy with rfl | rfl
    · have e : cpB (⟨2, xc⟩ : St) ⟨1, yc⟩ = some [⟨2, xc⟩] := by simp [cpB]
      rw [e]
      clear e AY
      go_enter Tryd.func74, Tryd.ntmps74
      go_wp2_with fail
      refine (AX.out _ _).mono ?_
      rintro e w3 ⟨rfl, V', hV', mv⟩
      have HV' := hide hV'
      have HM := hide ((MV.out _ _).trans mv)
      clear hV' mv AX
      go_wp2
      go_ret
      exact ⟨rfl, V', HV'.out, HM.out⟩
    · clear AX AY
      by_cases hc : xc = yc
      · subst hc
        have e : cpB (⟨2, xc⟩ : St) ⟨3, xc⟩ = some [] := by simp [cpB]
        rw [e]
        clear e
        go_enter Tryd.func74, Tryd.ntmps74
        go_wp2
        go_ret
        exact ⟨rfl, V, HV.out _ _, MV.out _ _⟩
      · have e : cpB (⟨2, xc⟩ : St) ⟨3, yc⟩ = none := by simp [cpB, hc]
        have hne : ((xc.toNat : Int) == (yc.toNat : Int)) = false := by
          rw [beq_eq_false_iff_ne]
          intro e
          exact hc (UInt8.toNat_inj.1 (by omega))
        rw [e]
        clear e hc
        go_enter Tryd.func74, Tryd.ntmps74
        go_wp2
        go_ret
        exact ⟨rfl, V, HV.out _ _, MV.out _ _⟩

/-- What ComposeOps holds: the gathering, the row of the other change's steps and how far it is read, and its answers. -/
structure CK (gb R0 R1 Bt Ba : Nat) (vS : Value) (ys T : List St) (at_ : Nat) (V : Nat → Value) (W : World) : Prop where
  g : Gt gb V (gath g0 T) W
  r0 : Bxd W R0 (.slice none 0 0)
  r1 : Bxd W R1 (.bool false)
  bt : Bxd W Bt vS
  ba : Bxd W Ba (.int .i64 (at_ : Int))
  os : W.ownsRow 0 109 2 vS ys.length (stC ys)
  nB : ∀ k, k ∈ [R0, R1, Bt, Ba] → ¬ OB gb V k
  nS : ∀ x, vS.ownBlock = some x → x ∉ [R0, R1, Bt, Ba] ∧ ¬ OB gb V x
def CO (gb R0 R1 Bt Ba : Nat) (vS : Value) (V : Nat → Value) (k : Nat) : Prop := OB gb V k ∨ k ∈ [R0, R1, Bt, Ba] ∨ vS.ownBlock = some k
theorem CK.lt {gb R0 R1 Bt Ba : Nat} {vS : Value} {ys T : List St} {at_ : Nat} {V : Nat → Value} {W : World} (h : CK gb R0 R1 Bt Ba vS ys T at_ V W) : ∀ k, CO gb R0 R1 Bt Ba vS V k → k < W.heap.size := by
  rintro k (hk | hk | hk)
  · exact h.g.ltO hk
  · simp only [List.mem_cons, List.not_mem_nil, or_false] at hk
    rcases hk with rfl | rfl | rfl | rfl
    · exact h.r0.lt
    · exact h.r1.lt
    · exact h.bt.lt
    · exact h.ba.lt
  · exact (h.os.lt k hk).2
theorem CK.kept {gb R0 R1 Bt Ba : Nat} {vS : Value} {ys T : List St} {at_ : Nat} {V : Nat → Value} {W W' : World} (h : CK gb R0 R1 Bt Ba vS ys T at_ V W) (hk : ∀ k, CO gb R0 R1 Bt Ba vS V k → W'.heap[k]? = W.heap[k]?) : CK gb R0 R1 Bt Ba vS ys T at_ V W' :=
  ⟨h.g.kept (fun k c => hk k (.inl c)), h.r0.block (hk _ (.inr (.inl (by simp)))), h.r1.block (hk _ (.inr (.inl (by simp)))), h.bt.block (hk _ (.inr (.inl (by simp)))), h.ba.block (hk _ (.inr (.inl (by simp)))), own_stays h.os (fun x hx => hk x (.inr (.inr hx))), h.nB, h.nS⟩
theorem CK.up {gb R0 R1 Bt Ba : Nat} {vS : Value} {ys T : List St} {at_ : Nat} {V : Nat → Value} {W W' : World} (h : CK gb R0 R1 Bt Ba vS ys T at_ V W) (hb : Below W.heap.size W W') : CK gb R0 R1 Bt Ba vS ys T at_ V W' := h.kept (fun k hk => hb.block k (h.lt k hk))
/-- Behind steps that are gathered. -/
theorem CK.add {gb R0 R1 Bt Ba : Nat} {vS : Value} {ys T : List St} {at_ : Nat} {V V' : Nat → Value} {W W' : World} (h : CK gb R0 R1 Bt Ba vS ys T at_ V W) {b : List St} (hg : Gt gb V' (gath (gath g0 T) b) W') (mv : Moves (OB gb V) W (OB gb V') W') :
    CK gb R0 R1 Bt Ba vS ys (T ++ b) at_ V' W' ∧ Moves (CO gb R0 R1 Bt Ba vS V) W (CO gb R0 R1 Bt Ba vS V') W' := by
  have far : ∀ k, k < W.heap.size → ¬ OB gb V k → W'.heap[k]? = W.heap[k]? ∧ ¬ OB gb V' k := fun k hk hn => ⟨mv.same k hk hn, fun c => hn (mv.own k hk c)⟩
  have l0 := h.r0.lt
  have l1 := h.r1.lt
  have l2 := h.bt.lt
  have l3 := h.ba.lt
  have hl : ∀ k, k ∈ [R0, R1, Bt, Ba] → k < W.heap.size := fun k hk => h.lt k (.inr (.inl hk))
  refine ⟨⟨by rw [gath_app]; exact hg, h.r0.block (far _ l0 (h.nB _ (by simp))).1, h.r1.block (far _ l1 (h.nB _ (by simp))).1, h.bt.block (far _ l2 (h.nB _ (by simp))).1, h.ba.block (far _ l3 (h.nB _ (by simp))).1, own_stays h.os (fun x hx => (far x (h.os.lt x hx).2 (h.nS x hx).2).1), fun k hk => (far k (hl k hk) (h.nB k hk)).2, fun x hx => ⟨(h.nS x hx).1, (far x (h.os.lt x hx).2 (h.nS x hx).2).2⟩⟩, ?_⟩
  refine ⟨mv.os, mv.tape, mv.output, mv.size, fun k hk hn => mv.same k hk (fun c => hn (.inl c)), fun k hk c => ?_⟩
  rcases c with c | c | c
  · exact .inl (mv.own k hk c)
  · exact .inr (.inl c)
  · exact .inr (.inr c)
/-- The other change's place goes on. -/
theorem CK.on {gb R0 R1 Bt Ba : Nat} {vS : Value} {ys T : List St} {at_ : Nat} {V : Nat → Value} {W : World} (h : CK gb R0 R1 Bt Ba vS ys T at_ V W) (hd : R0 ≠ Ba ∧ R1 ≠ Ba ∧ Bt ≠ Ba) :
    CK gb R0 R1 Bt Ba vS ys T (at_ + 1) V (W.setCell ⟨Ba, 0, none⟩ (.int .i64 ((at_ : Int) + 1))) ∧ Moves (CO gb R0 R1 Bt Ba vS V) W (CO gb R0 R1 Bt Ba vS V) (W.setCell ⟨Ba, 0, none⟩ (.int .i64 ((at_ : Int) + 1))) := by
  refine ⟨⟨h.g.kept (fun k c => Below.heap_setCell _ _ _ _ (fun e => h.nB Ba (by simp) (by have e2 : k = Ba := e; rw [← e2]; exact c))), h.r0.other hd.1 _, h.r1.other hd.2.1 _, h.bt.other hd.2.2 _, ?_, own_stays h.os (fun x hx => Below.heap_setCell _ _ _ _ (fun e => (h.nS x hx).1 (by simp [e]))), h.nB, h.nS⟩, (Moves.refl _ _).setCell (fun _ => .inr (.inl (by simp))) _⟩
  have := h.ba.set (.int .i64 ((at_ : Int) + 1))
  rw [show ((at_ + 1 : Nat) : Int) = (at_ : Int) + 1 by omega]
  exact this
def CmJ (gb R0 R1 Bt Ba : Nat) (vS : Value) (ys pre : List St) (O : Nat → Prop) (W : World) : Prop := ∃ T at_ V, CpI ys pre T at_ ∧ CK gb R0 R1 Bt Ba vS ys T at_ V W ∧ (∀ x ∈ T, sk x) ∧ O = CO gb R0 R1 Bt Ba vS V
theorem cmJ_held (gb R0 R1 Bt Ba : Nat) (vS : Value) (ys : List St) : Held (CmJ gb R0 R1 Bt Ba vS ys) :=
  ⟨fun ⟨_, _, _, _, h, _, e⟩ k hk => by subst e; exact h.lt k hk, fun ⟨T, a, V, hi, h, hs, e⟩ _ hk => by subst e; exact ⟨T, a, V, hi, h.kept hk, hs, rfl⟩⟩
/-- When a round has left: the changes do not fit. -/
def CX (R0 R1 : Nat) (xs ys : List St) (c : Code) (_ : List St) (O : Nat → Prop) (W : World) : Prop := c = .ret ∧ (Bxd W R0 (.slice none 0 0) ∧ Bxd W R1 (.bool false)) ∧ cmpS xs ys = none ∧ O = fun k => k = R0 ∨ k = R1
theorem cX_held (R0 R1 : Nat) (xs ys : List St) (c : Code) : Held (CX R0 R1 xs ys c) := by
  refine ⟨?_, ?_⟩
  · rintro pre O W ⟨_, ⟨h1, h2⟩, _, rfl⟩ k (rfl | rfl)
    · exact h1.lt
    · exact h2.lt
  · rintro pre O W W' ⟨hc, ⟨h1, h2⟩, ha, rfl⟩ hs hk
    exact ⟨hc, ⟨h1.block (hk _ (.inl rfl)), h2.block (hk _ (.inr rfl))⟩, ha, rfl⟩
end Go.Proofs.YtkjioadmebkaoabDoor

namespace Go.Proofs.YtkjioadmebkaoabDoor
open Go.RowKit Go.Shelf
open Doc1

attribute [local go_sem] Oper.semAt_some

theorem boxes2_up {W W' : World} {a b : Value} {t u : TypeId} (h : Below ((W.alloc (.cells #[a] t)).alloc (.cells #[b] u)).heap.size ((W.alloc (.cells #[a] t)).alloc (.cells #[b] u)) W') :
    (Bxd W' W.heap.size a ∧ Bxd W' (W.heap.size + 1) b) ∧ W.heap.size + 2 ≤ W'.heap.size ∧ Below W.heap.size W W' := by
  have e1 : (W.alloc (.cells #[a] t)).heap.size = W.heap.size + 1 := by simp
  have b1 := bxd_new W a t
  have b2 := bxd_new (W.alloc (.cells #[a] t)) b u
  rw [e1] at b2
  have hb : Below W.heap.size W ((W.alloc (.cells #[a] t)).alloc (.cells #[b] u)) := ((Below.refl _ _).alloc (Nat.le_refl _) _).alloc (by simp) _
  exact ⟨⟨(b1.up ((Below.refl _ _).alloc (Nat.le_refl _) _)).up h, b2.up h⟩, by have := h.size; simp at this; omega, hb.trans (h.mono (by simp; omega))⟩
/-- The number in a box. -/
def atB (W : World) (B : Nat) : Nat := match W.cell? ⟨B, 0, none⟩ with | some v => (intOf v).toNat | none => 0

theorem cmk_pre {a b : List St} (h : a <+: b) : cmk a ≤ cmk b := by
  obtain ⟨c, rfl⟩ := h
  rw [cmk_app]; omega
theorem cpB_mem {x y : St} {b : List St} (h : cpB x y = some b) {z : St} (hz : z ∈ b) : z = x ∨ z = y := by
  unfold cpB at h
  split at h
  · cases h; exact .inr (List.mem_singleton.1 hz)
  · split at h
    · cases h; exact .inl (List.mem_singleton.1 hz)
    · split at h
      · cases h; cases hz
      · cases h
/-- Behind the loop: what whole leaves. -/
theorem cmp_whole {w W : World} {la lb : List Pt} {gb Bt Ba D at0 : Nat} {vS : Value} {ys U : List St} {V : Nat → Value} (hans : cmpO la lb = (if goodO (gath g0 U).out then (gath g0 U).out else [], goodO (gath g0 U).out)) (hK : W.heap[D]? = some (.deferred (some []))) (hDl : D < W.heap.size) (hnD : ¬ CO gb w.heap.size (w.heap.size + 1) Bt Ba vS V D) (hT : Tab w)
    (hbe : ∀ (O2 : Nat → Prop) (W' : World), Moves (CO gb w.heap.size (w.heap.size + 1) Bt Ba vS V) W O2 W' → Below w.heap.size w W') (hlow : ∀ k, k < w.heap.size → ¬ CO gb w.heap.size (w.heap.size + 1) Bt Ba vS V k) (hD : w.heap.size + 2 ≤ D) (hl : U.length ≤ 2000) :
    ∀ (V1 : Nat → Value) (wr : World), CK gb w.heap.size (w.heap.size + 1) Bt Ba vS ys U at0 V1 wr → Moves (CO gb w.heap.size (w.heap.size + 1) Bt Ba vS V) W (CO gb w.heap.size (w.heap.size + 1) Bt Ba vS V1) wr →
      Calls Tryd.prog 75 #[.pointer (some ⟨gb, 0, none⟩)] wr fun e w5 => ∃ v, e = .returned (.tuple #[v, .bool (cmpO la lb).2]) ∧ w5.heap[D]? = some (.deferred (some [])) ∧ Bxd w5 w.heap.size (.slice none 0 0) ∧ Bxd w5 (w.heap.size + 1) (.bool false) ∧
        POwn ((w5.setCell ⟨w.heap.size, 0, none⟩ v).setCell ⟨w.heap.size + 1, 0, none⟩ (.bool (cmpO la lb).2) |>.putObj D (.deferred none)) w.heap.size v (cmpO la lb).1 ∧ Below w.heap.size w ((w5.setCell ⟨w.heap.size, 0, none⟩ v).setCell ⟨w.heap.size + 1, 0, none⟩ (.bool (cmpO la lb).2) |>.putObj D (.deferred none)) := by
  intro V1 wr hC mv
  have lt0 := hT.lt
  have hbr := hbe _ _ mv
  have hTr := hT.below hbr
  have hszr := hbr.size
  have hgb0 := gb_gath U g0 0 gb0
  have hgs0 := gs_gath U g0 0 gb0 (fun p hp => by simp [g0] at hp)
  have nOld : ∀ k, k < w.heap.size → ¬ OB gb V1 k := fun k hk c => hlow k hk (mv.own k (by omega) (.inl c))
  refine (whole_any hC.g hgb0 hgs0 (by omega) hTr (nOld _ lt0)).mono ?_
  rintro e w5 ⟨v, rfl, ⟨O5, mv5⟩, ho, hin⟩
  have hDr : wr.heap[D]? = some (.deferred (some [])) := (mv.same D hDl hnD).trans hK
  have hDlr : D < wr.heap.size := (Array.getElem?_eq_some_iff.1 hDr).1
  have nD1 : ¬ OB gb V1 D := fun c => hnD (mv.own D hDl (.inl c))
  have hD5 : w5.heap[D]? = some (.deferred (some [])) := (mv5.same D hDlr nD1).trans hDr
  have x0 := hC.r0.block (mv5.same _ hC.r0.lt (hC.nB _ (by simp)))
  have x1 := hC.r1.block (mv5.same _ hC.r1.lt (hC.nB _ (by simp)))
  have hvb : ∀ x, v.ownBlock = some x → w.heap.size + 2 ≤ x ∧ x ≠ D := by
    intro x hx
    by_cases hlt : x < wr.heap.size
    · have hO := hin x hx hlt
      refine ⟨?_, fun e => nD1 (e ▸ hO)⟩
      have h1 : ¬ x < w.heap.size := fun c => nOld x c hO
      have h2 : x ≠ w.heap.size := fun e => hC.nB w.heap.size (by simp) (e ▸ hO)
      have h3 : x ≠ w.heap.size + 1 := fun e => hC.nB (w.heap.size + 1) (by simp) (e ▸ hO)
      omega
    · have := hC.r1.lt
      exact ⟨by omega, by omega⟩
  rw [hans]
  refine ⟨v, rfl, hD5, x0, x1, ?_, ?_⟩
  · refine own_raise (own_move ho (fun x hx => ?_)) (fun x hx => by have := hvb x hx; omega)
    have := hvb x hx
    exact (World.putObj_heap_other this.2).trans ((Below.heap_setCell _ _ _ _ (by show x ≠ w.heap.size + 1; omega)).trans (Below.heap_setCell _ _ _ _ (by show x ≠ w.heap.size; omega)))
  · have hb5 : Below w.heap.size w w5 := hbr.trans (mv5.below hszr nOld)
    have h2 := (hb5.setCell (p := ⟨w.heap.size, 0, none⟩) (Nat.le_refl _) v).setCell (p := ⟨w.heap.size + 1, 0, none⟩) (by show _ ≤ _ + 1; omega) (.bool (goodO (gath g0 U).out))
    exact h2.trans ⟨rfl, rfl, rfl, by simp, fun k hk => World.putObj_heap_other (by omega)⟩

set_option maxRecDepth 100000 in
set_option maxHeartbeats 8000000 in
theorem cmpI_good {w : World} {aa ab : Option Addr} {ga ca gb cb : Nat} {la lb : List Pt} (ha : Pin w aa ga ca la) (hb : Pin w ab gb cb lb) (hT : Tab w) (hga : goodO la = true) (hgb : goodO lb = true) (htk : mkL la = tkL lb) :
    Calls Tryd.prog 40 #[.slice aa la.length ca, .slice ab lb.length cb] w fun e w' => ∃ v, e = .returned (.tuple #[v, .bool (cmpO la lb).2]) ∧ POwn w' w.heap.size v (cmpO la lb).1 ∧ Below w.heap.size w w' := by
  have SA := hide (fun w' (h : Below w.heap.size w w') => sizesI_any (ha.later h) (hT.below h))
  have SB := hide (fun w' (h : Below w.heap.size w w') => sizesI_any (hb.later h) (hT.below h))
  have hsA : szM la = mkL la := by unfold szM; rw [hga]; rfl
  have hsB : szT lb = mkL la := by unfold szT; rw [hgb, htk]; rfl
  rw [hga, hsA] at SA
  rw [hgb, hsB] at SB
  have hpa := goodO_pk hga
  have hpb := goodO_pk hgb
  have sa := st_len hga
  have sb := st_len hgb
  have hct : cmk (stL la) = ctk (stL lb) := by
    have h1 := (stL_sums la hpa).2
    have h2 := (stL_sums lb hpb).1
    omega
  have SO := hide (fun v w' a len cap hv => stepsOf_any v w' a len cap hv)
  have HA := hide ha
  have HB := hide hb
  have hHT := hide hT
  have CO' := hide (fun (w' : World) (Bs : Nat) (h : Below w.heap.size w w') (hc : w'.cell? ⟨Bs, 0, none⟩ = some (.slice ab lb.length cb)) (hl : Bs < w'.heap.size) => collect_any (hb.later h) (hT.below h) hc hl hpb sb)
  have ltT := hT.lt
  have ltA := ha.lt
  have ltB := hb.lt
  have ANS := hide (cmpO_eq hga hgb)
  clear ha hb hT hga hgb hsA hsB htk
  generalize mkL la = tk at *
  have hdep : Fence.wide.depth = none := rfl
  refine (callsIn_wide (n := 6)).1 ?_
  refine callsIn_of_wp_marks Tryd.func40 rfl trivial ?_ rfl
  simp only [Tryd.ntmps40, List.size_toArray, List.length_cons, List.length_nil, Nat.reduceAdd, Nat.reduceSub, Array.replicate_succ, Array.replicate_zero, List.push_toArray, List.append_toArray, List.nil_append, List.cons_append]
  have hb0 : Hid (∀ a b : Obj, Below w.heap.size w ((w.alloc a).alloc b)) := hide (fun a b => ((Below.refl _ _).alloc (Nat.le_refl _) _).alloc (by simp) _)
  gi_wp2_with fail
  refine ⟨trivial, ?_⟩
  gi_at_call 66
  refine (callsIn_wide.2 (SA.out _ (hb0.out _ _))).mono ?_
  rintro e w1 ⟨rfl, hb'⟩
  obtain ⟨⟨q0, q1⟩, hsw1, hb1⟩ := boxes2_up hb'
  clear hb' hb0
  gi_wp2_with fail
  refine ⟨trivial, ?_⟩
  gi_at_call 66
  refine (callsIn_wide.2 (SB.out _ hb1)).mono ?_
  rintro e w2 ⟨rfl, hb'⟩
  have hb2 := hb1.trans (hb'.mono hb1.size)
  replace q0 := q0.up hb'
  replace q1 := q1.up hb'
  have hs2 : w.heap.size + 2 ≤ w2.heap.size := by have := hb'.size; omega
  clear hb' hb1 SA SB hsw1
  gi_wp2_with fail
  refine ⟨trivial, ?_⟩
  gi_at_call 68
  refine (callsIn_wide.2 (SO.out _ _ _ _ _ rfl)).mono ?_
  rintro e w' ⟨rfl, hw⟩
  replace hw := hw.symm; subst hw
  gi_wp2_with fail
  obtain ⟨W3, hW3⟩ : ∃ W3, W3 = (w2.alloc (.cells #[.slice none 0 0, .int .i64 0, .slice none 0 0, .slice none 0 0] 112)).alloc (.cells #[.slice ab lb.length cb] 27) := ⟨_, rfl⟩
  have hgt : Gt w2.heap.size (fun j => if j = 1 then .int .i64 0 else .slice none 0 0) g0 W3 := by rw [hW3]; exact (gt_new w2 _).up ((Below.refl _ _).alloc (Nat.le_refl _) _)
  have b1 : Bxd W3 (w2.heap.size + 1) (.slice ab lb.length cb) := by
    rw [hW3]
    have := bxd_new (w2.alloc (.cells #[.slice none 0 0, .int .i64 0, .slice none 0 0, .slice none 0 0] 112)) (.slice ab lb.length cb) 27
    rw [World.size_alloc] at this
    exact this
  have hb3 : Below w2.heap.size w2 W3 := by rw [hW3]; exact ((Below.refl _ _).alloc (Nat.le_refl _) _).alloc (by simp) _
  have hs3 : W3.heap.size = w2.heap.size + 2 := by rw [hW3]; simp
  have hbw3 := hb2.trans (hb3.mono hb2.size)
  rw [← hW3]
  clear hW3
  refine ⟨trivial, ?_⟩
  gi_at_call 72
  refine (callsIn_wide.2 (CO'.out W3 (w2.heap.size + 1) hbw3 b1.cell b1.lt)).mono ?_
  rintro e w4 ⟨vS, rfl, oS, hb4⟩
  have hs4 := hb4.size
  have hbw4 := hbw3.trans (hb4.mono hbw3.size)
  replace q0 := (q0.up hb3).up hb4
  replace q1 := (q1.up hb3).up hb4
  replace hgt := hgt.up hb4
  obtain ⟨aS, cS, rfl, hS1, hS2⟩ := own_shp oS
  clear CO' b1 hb3 hbw3
  gi_wp2_with fail
  refine ⟨trivial, ?_⟩
  gi_at_call 68
  refine (callsIn_wide.2 (SO.out _ _ _ _ _ rfl)).mono ?_
  rintro e w' ⟨rfl, hw⟩
  replace hw := hw.symm; subst hw
  clear SO
  gi_wp2_with fail
  refine three_boxes (Φ := fun W2 => Code.wpIn _ _ _ _ _ _ W2) ?_
  intro W2 hB2 hsz2 bt ba bq
  have hbW : Below w.heap.size w W2 := hbw4.trans (hB2.mono hbw4.size)
  have pin2 := HA.out.later hbW
  have tab2 := hHT.out.below hbW
  have oS2 := own_mono (own_below oS hB2) (Nat.zero_le _)
  have hSb : ∀ x, (Value.slice aS (stL lb).length cS).ownBlock = some x → w2.heap.size + 2 ≤ x ∧ x < w4.heap.size := fun x hx => by have := oS.lt x hx; omega
  have hJ := cmJ_held w2.heap.size w.heap.size (w.heap.size + 1) w4.heap.size (w4.heap.size + 1) (.slice aS (stL lb).length cS) (stL lb)
  have nOB : ∀ k, k ≠ w2.heap.size → ¬ OB w2.heap.size (fun j => if j = 1 then .int .i64 0 else .slice none 0 0) k := fun k hk c => hk (ob_new c)
  have start : CK w2.heap.size w.heap.size (w.heap.size + 1) w4.heap.size (w4.heap.size + 1) (.slice aS (stL lb).length cS) (stL lb) [] 0 (fun j => if j = 1 then .int .i64 0 else .slice none 0 0) W2 :=
    ⟨hgt.up hB2, q0.up hB2, q1.up hB2, bt, ba, oS2, fun k hk => nOB k (by simp at hk; omega), fun x hx => ⟨by have := hSb x hx; simp; omega, nOB x (by have := hSb x hx; omega)⟩⟩
  have hmix : Tryd.prog.follows .mixedOrders = true := by kernel_rfl
  have hd : w.heap.size ≠ (w4.heap.size + 1) ∧ (w.heap.size + 1) ≠ (w4.heap.size + 1) ∧ w4.heap.size ≠ (w4.heap.size + 1) := by omega
  refine wpIn_range rfl (enters_of Tryd.func96 (by kernel_rfl) rfl) (steps_iter pin2 tab2 bq.cell hpa) (fun _ => rfl)
    (J := CmJ w2.heap.size w.heap.size (w.heap.size + 1) w4.heap.size (w4.heap.size + 1) (.slice aS (stL lb).length cS) (stL lb)) (Jx := CX w.heap.size (w.heap.size + 1) (stL la) (stL lb)) (O := CO w2.heap.size w.heap.size (w.heap.size + 1) w4.heap.size (w4.heap.size + 1) (.slice aS (stL lb).length cS) (fun j => if j = 1 then .int .i64 0 else .slice none 0 0)) hJ (cX_held _ _ _ _) (Nat.le_refl _)
    (by
      have nOld : ∀ k, k < w.heap.size → ¬ CO w2.heap.size w.heap.size (w.heap.size + 1) w4.heap.size (w4.heap.size + 1) (.slice aS (stL lb).length cS) (fun j => if j = 1 then .int .i64 0 else .slice none 0 0) k := by
        rintro k hk (c | c | c)
        · have := ob_new c; omega
        · simp at c; omega
        · have := hSb k c; omega
      rintro k (rfl | rfl | rfl)
      · refine ⟨by omega, rfl, ?_⟩
        rintro (c | c | c)
        · have := ob_new c; omega
        · simp at c; omega
        · have := hSb _ c; omega
      · exact ⟨by omega, rfl, nOld _ (by omega)⟩
      · exact ⟨by omega, rfl, nOld _ (by omega)⟩)
    ⟨[], 0, _, cpI_start _, start, (fun x hx => by cases hx), rfl⟩
    (xAx_held hJ (fun x Bx => { tmps := #[.slice aa la.length ca, .slice ab lb.length cb, undef, undef, .pointer (some ⟨w.heap.size, 0, none⟩), .pointer (some ⟨w.heap.size + 1, 0, none⟩), .int .i64 (szT la), .int .i64 tk, .bool true, .int .i64 tk, .int .i64 (szM lb), .bool true, .pointer (some ⟨w2.heap.size, 0, none⟩), .pointer (some ⟨w4.heap.size, 0, none⟩), .pointer (some ⟨w4.heap.size + 1, 0, none⟩), .pointer (some ⟨Bx, 0, none⟩), undef, undef, .tuple #[.int .i64 (szT la), .int .i64 tk, .bool true], .slice aa la.length ca, .tuple #[.int .i64 (szT la), .int .i64 tk, .bool true], .int .i64 (szT la), .int .i64 tk, .bool true, .tuple #[.int .i64 tk, .int .i64 (szM lb), .bool true], .slice ab lb.length cb, .tuple #[.int .i64 tk, .int .i64 (szM lb), .bool true], .int .i64 tk, .int .i64 (szM lb), .bool true, .bool true, .bool false, .bool false, .bool true, .bool false, .bool false, .bool false, .int .i64 tk, .int .i64 tk, .bool false, .bool false, .slice ab lb.length cb, .func (.func 96) #[] #[.pointer (some ⟨w2.heap.size + 1, 0, none⟩)], .slice aS (stL lb).length cS, .slice aa la.length ca, .func (.func 96) #[] #[.pointer (some ⟨w4.heap.size + 1 + 1, 0, none⟩)], .agg #[.int .i64 (x.k : Int), .int .u8 (x.c.toNat : Int)], undef, undef, undef, undef, undef, undef, undef, undef, undef, undef, undef, undef, undef, undef, undef, undef, undef, undef, undef, undef, undef, undef, undef, undef, undef, undef, undef, undef, undef, undef, undef, undef, undef, undef, undef, undef, undef, undef, undef, undef, undef], defers := [] }))
    ?assigned ?round ?done ?stop
  case assigned =>
    rintro l1 pre x O W K hj hx hK
    have hbx := box2_new W (.int .i64 (x.k : Int)) (.int .u8 (x.c.toNat : Int))
    simp only [stE, stV]
    gi_wp2
    exact hK _ _ _ ((Moves.refl _ _).alloc _) ⟨O, W.heap.size, hJ.up hj ((Below.refl _ _).alloc (Nat.le_refl _) _), fun _ => Iff.rfl, fun c => absurd (hJ.lt hj _ c) (by omega), hbx _, rfl⟩
  case round =>
    rintro l1 pre x a' O W ⟨O1, Bx, ⟨T, at0, V, hI, hC, hsT, rfl⟩, hB, hnB, hbx, rfl⟩ hl1 hnl hx
    have hso := (stL_so hpa x (hx.subset (by simp))).1
    have hlen : pre.length + 1 ≤ 600 := by have := pre_len hx; simp at this; omega
    have hle : cmk (pre ++ [x]) ≤ ctk (stL lb) := by rw [← hct]; exact cmk_pre hx
    obtain ⟨post, hpost⟩ := hx
    have hTl : T.length ≤ 1200 := by have := hI.sz; have := hI.le; omega
    have hgb := gb_gath T g0 0 gb0
    obtain ⟨c0, c1⟩ := hbx.cells
    have ltx := hbx.lt
    have HBx := hide hB
    have MV : Hid (∀ O' W', Moves (CO w2.heap.size w.heap.size (w.heap.size + 1) w4.heap.size (w4.heap.size + 1) (.slice aS (stL lb).length cS) V) W O' W' → Moves O W O' W') := hide (fun O' W' m => m.wider (fun k _ c => (HBx.out k).2 (.inl c)) (fun k hk c => (HBx.out k).2 (.inl (m.own k hk c))))
    clear hB hnl hl1
    obtain ⟨xk, xc⟩ := x
    by_cases hx3 : xk = 3
    · subst hx3
      have AD := hide (add_any (⟨3, xc⟩ : St) hso hC.g hgb (by omega))
      unfold stV at AD
      have HC := hide hC
      have HI := hide (cpI_drop (x := (⟨3, xc⟩ : St)) hI rfl)
      have HS : Hid (∀ y ∈ T ++ [(⟨3, xc⟩ : St)], sk y) := hide (fun y hy => (List.mem_append.1 hy).elim (hsT y) (fun c => by rw [List.mem_singleton] at c; rw [c]; exact hso))
      clear hC hI hbx hgb hpost hsT
      gi_wp2_with (refine ⟨trivial, ?_⟩; gi_at_call 73; refine (callsIn_wide.2 AD.out).mono ?_; rintro e w5 ⟨rfl, V5, hV5, mv5⟩; obtain ⟨A1, A2⟩ := HC.out.add (b := [(⟨3, xc⟩ : St)]) hV5 mv5)
      exact ⟨_, MV.out _ _ A2, _, _, _, HI.out, A1, HS.out, rfl⟩
    · have hx12 : xk = 1 ∨ xk = 2 := by rcases hso with e | e | e <;> simp only at e <;> omega
      obtain ⟨hnx, hey, hy2⟩ := cp_next hI (x := (⟨xk, xc⟩ : St)) hx3 hle
      have hPut := fun j hj => nP_at ((stL lb).drop at0) j hj
      have hAt := hI.le
      have MEET := hide (fun post => cp_meet hI (x := (⟨xk, xc⟩ : St)) hx3 hle post)
      have MEETI := hide (fun b hb => cpI_meet hI (x := (⟨xk, xc⟩ : St)) hx3 hle (b := b) hb)
      generalize hyy : cpY (stL lb) at0 = y at *
      generalize hn : nP ((stL lb).drop at0) = n at *
      have hTT : T.length ≤ pre.length + at0 := hI.sz
      clear hn hyy hI
      have hyl : 0 < (stL lb).length := by omega
      obtain ⟨gS, cS', ev, -, -, -⟩ := steps_row hC.os hyl
      cases ev
      have hk3 : ((xk : Int) == 3) = false := by
        rw [beq_eq_false_iff_ne]; omega
      have HCS := hide hC
      have HPUT := hide hPut
      have HBX := hide hbx
      have HST := hide hsT
      clear hC hbx hPut hso hgb hsT
      gi_wp2
      gi_loopw [57] (fun _ wr => ∃ (j : Nat) (V1 : Nat → Value), j ≤ n ∧ CK w2.heap.size w.heap.size (w.heap.size + 1) w4.heap.size (w4.heap.size + 1) (.slice (some ⟨gS, 0, none⟩) (stL lb).length cS) (stL lb) (T ++ ((stL lb).drop at0).take j) (at0 + j) V1 wr ∧ Moves (CO w2.heap.size w.heap.size (w.heap.size + 1) w4.heap.size (w4.heap.size + 1) (.slice (some ⟨gS, 0, none⟩) (stL lb).length cS) V) W (CO w2.heap.size w.heap.size (w.heap.size + 1) w4.heap.size (w4.heap.size + 1) (.slice (some ⟨gS, 0, none⟩) (stL lb).length cS) V1) wr) (fun _ wr => n - (atB wr (w4.heap.size + 1) - at0))
      case atStart => exact ⟨0, V, by omega, by simpa using HCS.out, Moves.refl _ _⟩
      case round =>
        obtain ⟨j, V1, hj, hP, mv⟩ := hrel
        have hjl : at0 + j < (stL lb).length := by omega
        obtain ⟨gS', cS'', ev, -, hcm, hrow⟩ := steps_row hP.os hyl
        cases ev
        obtain ⟨r0, r1⟩ := hrow (at0 + j) hjl
        have hbx := HBX.out.block (mv.same Bx ltx hnB)
        obtain ⟨c0', c1'⟩ := hbx.cells
        obtain ⟨at', hat1⟩ : ∃ a, a = at0 + j := ⟨_, rfl⟩
        obtain ⟨T1, hT1⟩ : ∃ T1, T1 = T ++ ((stL lb).drop at0).take j := ⟨_, rfl⟩
        have hol : T1.length ≤ 2000 := by rw [hT1]; simp; omega
        rw [← hT1, ← hat1] at hP
        obtain ⟨⟨yk, yc⟩, hy⟩ : ∃ y, (stL lb)[at0 + j] = y := ⟨_, rfl⟩
        rw [hy, ← hat1] at r0 r1
        simp only at r0 r1
        have hatI : (at' : Int) < ((stL lb).length : Int) := by omega
        have HAT := hide hat1
        have hat0 : (0 : Int) ≤ (at' : Int) := by omega
        have et := hP.bt.cell
        have ea := hP.ba.cell
        have HP := hide hP
        have hgb1 := gb_gath T1 g0 0 gb0
        have hysk := (stL_so hpb _ (List.getElem_mem hjl)).1
        rw [hy] at hysk
        by_cases hlt : j < n
        · obtain ⟨hq1, hq2⟩ := HPUT.out j hlt
          rw [List.getElem_drop, hy] at hq2
          simp only at hq2
          subst hq2
          have AD := hide (add_any (⟨2, yc⟩ : St) hysk hP.g hgb1 (by omega))
          unfold stV at AD
          have hT2 : T ++ ((stL lb).drop at0).take (j + 1) = T1 ++ [(⟨2, yc⟩ : St)] := by
            rw [hT1, List.take_succ_eq_append_getElem (by rw [List.length_drop]; omega), List.getElem_drop, hy, List.append_assoc]
          have HT2 := hide hT2
          clear hrow hP hbx hgb1 hy hT2 hT1 hat1
          gi_wp2_with (refine ⟨trivial, ?_⟩; gi_at_call 73; refine (callsIn_wide.2 AD.out).mono ?_; rintro e w5 ⟨rfl, V5, hV5, mv5⟩; obtain ⟨A1, A2⟩ := HP.out.add (b := [(⟨2, yc⟩ : St)]) hV5 mv5; have ea5 := A1.ba.cell; have fa5 := A1.ba.fz)
          obtain ⟨B1, B2⟩ := A1.on hd
          have HB1 := hide B1
          have HB2 := hide ((mv.trans A2).trans B2)
          clear A1 A2 B1 B2 ea5 fa5 et ea hV5 mv5
          go_roundw
          case rel => exact ⟨j + 1, V5, by omega, by rw [HT2.out, show at0 + (j + 1) = at' + 1 by have := HAT.out; omega]; exact HB1.out, HB2.out⟩
          case measure =>
            have e1 := HB1.out.ba.cell
            have e2 := HP.out.ba.cell
            unfold atB
            rw [e1, e2]
            have := HAT.out
            simp [intOf]
            omega
        · obtain rfl : j = n := by omega
          have hyy : y = (⟨yk, yc⟩ : St) := by rw [hey]; exact hy
          subst hyy
          simp only at hy2
          have hy13 : yk = 1 ∨ yk = 3 := by rcases hysk with e | e | e <;> simp only at e <;> omega
          have hk2 : ((yk : Int) == 2) = false := by
            rw [beq_eq_false_iff_ne]; omega
          have hPd := hP.up ((Below.refl wr.heap.size wr).drew)
          have AB := hide (addBoth_any (⟨xk, xc⟩ : St) (⟨yk, yc⟩ : St) hx12 hy13 hPd.g hgb1 (by omega))
          unfold stV at AB
          simp only at AB
          have HPD := hide hPd
          have mvd : Moves (CO w2.heap.size w.heap.size (w.heap.size + 1) w4.heap.size (w4.heap.size + 1) (.slice (some ⟨gS, 0, none⟩) (stL lb).length cS) V) W (CO w2.heap.size w.heap.size (w.heap.size + 1) w4.heap.size (w4.heap.size + 1) (.slice (some ⟨gS, 0, none⟩) (stL lb).length cS) V1) wr.drew := mv.trans (Moves.refl _ _).drew
          have HMD := hide mvd
          rw [hT1] at HPD hol
          rw [hT1] at AB
          clear hrow hP hbx hgb1 hy hT1 hPd mvd HP hey hat1
          cases hcb : cpB (⟨xk, xc⟩ : St) (⟨yk, yc⟩ : St) with
          | none =>
            rw [hcb] at AB
            have NO : Hid (cmpS (stL la) (stL lb) = none) := hide (by
              rw [← hpost, List.append_assoc]
              show cmpS (pre ++ (⟨xk, xc⟩ : St) :: post) (stL lb) = none
              rw [MEET.out post, hcb])
            simp only [Option.isSome_none, Option.getD_none] at AB
            clear MEET MEETI hcb hpost
            gi_wp2_with fail
            gi_region_with_o (first
              | (refine ⟨trivial, ?_⟩; gi_at_call 74; refine (callsIn_wide.2 AB.out).mono ?_; rintro e w5 ⟨rfl, V5, hV5, mv5⟩))
            all_goals
              obtain ⟨A1, A2⟩ := HPD.out.add (b := []) hV5 mv5
              have e0 := A1.r0.cell
              have f0 := A1.r0.fz
              have e1 := (A1.r1.other (B' := w.heap.size) (by omega) (.slice none 0 0)).cell
              have f1 := (A1.r1.other (B' := w.heap.size) (by omega) (.slice none 0 0)).fz
              have X1 := hide ((A1.r0.set (.slice none 0 0)).other (B' := w.heap.size + 1) (by omega) (.bool false))
              have X2 := hide ((A1.r1.other (B' := w.heap.size) (by omega) (.slice none 0 0)).set (.bool false))
              have MX := hide (MV.out _ _ ((HMD.out.trans A2).trans ((((Moves.refl (CO w2.heap.size w.heap.size (w.heap.size + 1) w4.heap.size (w4.heap.size + 1) (.slice (some ⟨gS, 0, none⟩) (stL lb).length cS) V5) w5).setCell (p := ⟨w.heap.size, 0, none⟩) (fun _ => .inr (.inl (by simp))) (.slice none 0 0)).setCell (p := ⟨w.heap.size + 1, 0, none⟩) (fun _ => .inr (.inl (by simp))) (.bool false)).wider (B' := fun k => k = w.heap.size ∨ k = w.heap.size + 1) (fun _ _ c => c) (fun k _ c => .inr (.inl (by rcases c with rfl | rfl <;> simp))))))
              clear A1 A2 hV5 mv5
              gi_wp2
              exact ⟨_, MX.out, rfl, ⟨X1.out, X2.out⟩, NO.out, rfl⟩
          | some b =>
            rw [hcb] at AB
            have HI := hide (MEETI.out b hcb)
            have hbl : ∀ z ∈ b, z = (⟨xk, xc⟩ : St) ∨ z = (⟨yk, yc⟩ : St) := fun z hz => cpB_mem hcb hz
            have HS : Hid (∀ z ∈ T ++ ((stL lb).drop at0).take j ++ b, sk z) := hide (fun z hz => by
              rcases List.mem_append.1 hz with c | c
              · rcases List.mem_append.1 c with c | c
                · exact HST.out z c
                · exact (stL_so hpb z (List.mem_of_mem_drop (List.mem_of_mem_take c))).1
              · rcases hbl z c with rfl | rfl
                · rcases hx12 with e | e <;> subst e <;> simp [sk]
                · rcases hy13 with e | e <;> subst e <;> simp [sk])
            simp only [Option.isSome_some, Option.getD_some] at AB
            clear MEET MEETI hcb hpost hbl
            gi_wp2_with fail
            gi_region_with_o (first
              | (refine ⟨trivial, ?_⟩; gi_at_call 74; refine (callsIn_wide.2 AB.out).mono ?_; rintro e w5 ⟨rfl, V5, hV5, mv5⟩))
            all_goals
              obtain ⟨A1, A2⟩ := HPD.out.add (b := b) hV5 mv5
              have ea5 := A1.ba.cell
              have fa5 := A1.ba.fz
              obtain ⟨B1, B2⟩ := A1.on hd
              have HB1 := hide B1
              have HB2 := hide (MV.out _ _ ((HMD.out.trans A2).trans B2))
              clear A1 A2 B1 B2 hV5 mv5
              gi_wp2
              refine ⟨_, HB2.out, _, _, _, HI.out, ?_, HS.out, rfl⟩
              rw [show at0 + j + 1 = at' + 1 by have := HAT.out; omega]
              exact HB1.out
  case done =>
    rintro D O' W hD hnD ⟨T, at0, V, hI, hC, hsT, rfl⟩ mv hK
    have hend := cp_end hI hct
    have hans := hide (ANS.out.1 _ hend)
    have hAt := hI.le
    have hTl : T.length ≤ 1200 := by have := hI.sz; omega
    have et := hC.bt.cell
    have ea := hC.ba.cell
    have hDl : D < W.heap.size := (Array.getElem?_eq_some_iff.1 hK).1
    have HCS := hide hC
    have nLow : ∀ k, k < w.heap.size → ¬ CO w2.heap.size w.heap.size (w.heap.size + 1) w4.heap.size (w4.heap.size + 1) (.slice aS (stL lb).length cS) (fun j => if j = 1 then .int .i64 0 else .slice none 0 0) k := by
      rintro k hk (c | c | c)
      · have := ob_new c; omega
      · simp at c; omega
      · have := hSb k c; omega
    have hszW := hbW.size
    have HBE : Hid (∀ (O2 : Nat → Prop) (W' : World), Moves (CO w2.heap.size w.heap.size (w.heap.size + 1) w4.heap.size (w4.heap.size + 1) (.slice aS (stL lb).length cS) V) W O2 W' → Below w.heap.size w W') := hide (fun O2 W' m => hbW.trans ((mv.trans m).below (by omega) (fun k hk c => by
      rcases c with c | c | c
      · have := ob_new c; omega
      · simp at c; omega
      · have := hSb k c; omega)))
    have FIN : Hid (∀ (V1 : Nat → Value) (wr : World), CK w2.heap.size w.heap.size (w.heap.size + 1) w4.heap.size (w4.heap.size + 1) (.slice aS (stL lb).length cS) (stL lb) (T ++ (stL lb).drop at0) at0 V1 wr → Moves (CO w2.heap.size w.heap.size (w.heap.size + 1) w4.heap.size (w4.heap.size + 1) (.slice aS (stL lb).length cS) V) W (CO w2.heap.size w.heap.size (w.heap.size + 1) w4.heap.size (w4.heap.size + 1) (.slice aS (stL lb).length cS) V1) wr →
        Calls Tryd.prog 75 #[.pointer (some ⟨w2.heap.size, 0, none⟩)] wr fun e w5 => ∃ v, e = .returned (.tuple #[v, .bool (cmpO la lb).2]) ∧ w5.heap[D]? = some (.deferred (some [])) ∧ Bxd w5 w.heap.size (.slice none 0 0) ∧ Bxd w5 (w.heap.size + 1) (.bool false) ∧
          POwn ((w5.setCell ⟨w.heap.size, 0, none⟩ v).setCell ⟨w.heap.size + 1, 0, none⟩ (.bool (cmpO la lb).2) |>.putObj D (.deferred none)) w.heap.size v (cmpO la lb).1 ∧ Below w.heap.size w ((w5.setCell ⟨w.heap.size, 0, none⟩ v).setCell ⟨w.heap.size + 1, 0, none⟩ (.bool (cmpO la lb).2) |>.putObj D (.deferred none))) := hide (cmp_whole hans.out hK hDl hnD hHT.out HBE.out (fun k hk c => nLow k hk (mv.own k (by omega) c)) (by omega) (by rw [List.length_append, List.length_drop]; omega))
    clear hC mv hI hsT hend
    rcases Nat.lt_or_ge at0 (stL lb).length with hlt0 | hge0
    · obtain ⟨gS, cS', ev, -, hcm, -⟩ := steps_row HCS.out.os (by omega)
      cases ev
      have hne : ¬ cS = at0 := by omega
      have hI0 : (0 : Int) ≤ (at0 : Int) := by omega
      have hI1 : (at0 : Int) ≤ ((stL lb).length : Int) := by omega
      gi_wp2
      clear et ea
      gi_loopw [78] (fun i wr => ∃ (j : Nat) (V1 : Nat → Value), j ≤ (stL lb).length - at0 ∧ i = .int .i64 j ∧ CK w2.heap.size w.heap.size (w.heap.size + 1) w4.heap.size (w4.heap.size + 1) (.slice (some ⟨gS, 0, none⟩) (stL lb).length cS) (stL lb) (T ++ ((stL lb).drop at0).take j) at0 V1 wr ∧ Moves (CO w2.heap.size w.heap.size (w.heap.size + 1) w4.heap.size (w4.heap.size + 1) (.slice (some ⟨gS, 0, none⟩) (stL lb).length cS) V) W (CO w2.heap.size w.heap.size (w.heap.size + 1) w4.heap.size (w4.heap.size + 1) (.slice (some ⟨gS, 0, none⟩) (stL lb).length cS) V1) wr) (fun i _ => (stL lb).length - at0 - (intOf i).toNat)
      case atStart => exact ⟨0, V, by omega, rfl, by simpa using HCS.out, Moves.refl _ _⟩
      case round =>
        obtain ⟨j, V1, hj, rfl, hP, m2⟩ := hrel
        by_cases hlt : j < (stL lb).length - at0
        · have hjl : at0 + j < (stL lb).length := by omega
          obtain ⟨gS', cS'', ev, -, -, hrow⟩ := steps_row hP.os (by omega)
          cases ev
          obtain ⟨r0, r1⟩ := hrow (at0 + j) hjl
          rw [show (at0 + j) * 2 = at0 * 2 + j * 2 by omega] at r0 r1
          obtain ⟨⟨yk, yc⟩, hy⟩ : ∃ y, (stL lb)[at0 + j] = y := ⟨_, rfl⟩
          rw [hy] at r0 r1
          simp only at r0 r1
          have hysk := (stL_so hpb _ (List.getElem_mem hjl)).1
          rw [hy] at hysk
          have e1 : T ++ ((stL lb).drop at0).take (j + 1) = (T ++ ((stL lb).drop at0).take j) ++ [(⟨yk, yc⟩ : St)] := by
            rw [List.take_succ_eq_append_getElem (by rw [List.length_drop]; omega), List.getElem_drop, hy, List.append_assoc]
          have HE1 := hide e1
          have hol : (T ++ ((stL lb).drop at0).take j).length ≤ 2000 := by simp; omega
          generalize T ++ ((stL lb).drop at0).take j = T1 at *
          have hgb1 := gb_gath T1 g0 0 gb0
          have hba : ∀ ob : Obj, Below wr.heap.size wr (wr.alloc ob) := fun ob => (Below.refl _ _).alloc (Nat.le_refl _) _
          have AD := hide (fun ob => add_any (⟨yk, yc⟩ : St) hysk (hP.up (hba ob)).g hgb1 (by omega))
          unfold stV at AD
          have HP := hide (fun ob => hP.up (hba ob))
          have HM := hide (fun ob => m2.trans (moves_up (O := CO w2.heap.size w.heap.size (w.heap.size + 1) w4.heap.size (w4.heap.size + 1) (.slice (some ⟨gS, 0, none⟩) (stL lb).length cS) V1) (hba ob)))
          clear hrow hy e1 hP m2 hgb1 hba
          gi_wp2_with (refine ⟨trivial, ?_⟩; gi_at_call 73; refine (callsIn_wide.2 (AD.out _)).mono ?_; rintro e w5 ⟨rfl, V5, hV5, mv5⟩)
          obtain ⟨A1, A2⟩ := (HP.out _).add (b := [(⟨yk, yc⟩ : St)]) hV5 mv5
          have HA1 := hide A1
          have HA2 := hide ((HM.out _).trans A2)
          clear A1 A2 hV5 mv5
          go_roundw
          case rel => exact ⟨j + 1, V5, by omega, by go_num, by rw [HE1.out]; exact HA1.out, HA2.out⟩
          case measure => simp [intOf]; omega
        · obtain rfl : j = (stL lb).length - at0 := by omega
          rw [List.take_of_length_le (by rw [List.length_drop]; omega)] at hP
          have WE := hide (FIN.out V1 wr hP m2)
          clear hP m2
          gi_wp2_with (refine ⟨trivial, ?_⟩; gi_at_call 75; refine (callsIn_wide.2 WE.out).mono ?_; rintro e w5 ⟨v, rfl, hK5, x0, x1, ho, hbf⟩; obtain ⟨av, cv, rfl, -, -⟩ := own_shp ho; have e0 := x0.cell; have f0 := x0.fz; have e1 := (x1.other (B' := w.heap.size) (by omega) (.slice av (cmpO la lb).1.length cv)).cell; have f1 := (x1.other (B' := w.heap.size) (by omega) (.slice av (cmpO la lb).1.length cv)).fz; have Y1 := (x0.set (.slice av (cmpO la lb).1.length cv)).other (B' := w.heap.size + 1) (by omega) (.bool (cmpO la lb).2); have Y2 := (x1.other (B' := w.heap.size) (by omega) (.slice av (cmpO la lb).1.length cv)).set (.bool (cmpO la lb).2))
          have nD1 : D ≠ w.heap.size := by omega
          have nD2 : D ≠ w.heap.size + 1 := by omega
          have k1 := (Y1.block (W' := ((w5.setCell ⟨w.heap.size, 0, none⟩ (.slice av (cmpO la lb).1.length cv)).setCell ⟨w.heap.size + 1, 0, none⟩ (.bool (cmpO la lb).2)).putObj D (.deferred none)) (World.putObj_heap_other (Ne.symm nD1))).cell
          have k2 := (Y2.block (W' := ((w5.setCell ⟨w.heap.size, 0, none⟩ (.slice av (cmpO la lb).1.length cv)).setCell ⟨w.heap.size + 1, 0, none⟩ (.bool (cmpO la lb).2)).putObj D (.deferred none)) (World.putObj_heap_other (Ne.symm nD2))).cell
          have hK6 : ((w5.setCell ⟨w.heap.size, 0, none⟩ (.slice av (cmpO la lb).1.length cv)).setCell ⟨w.heap.size + 1, 0, none⟩ (.bool (cmpO la lb).2)).heap[D]? = some (.deferred (some [])) := ((Below.heap_setCell _ _ _ _ nD2).trans (Below.heap_setCell _ _ _ _ nD1)).trans hK5
          refine ⟨by simp, .inl ⟨_, _, rfl, run_takeDeferred hK6, ?_⟩⟩
          refine ⟨.tuple #[.slice av (cmpO la lb).1.length cv, .bool (cmpO la lb).2], ?_, _, rfl, ho, hbf⟩
          simp [results, Tryd.f40, go_sem, k1, k2]
    · obtain rfl : at0 = (stL lb).length := by omega
      have HP0 : Hid (CK w2.heap.size w.heap.size (w.heap.size + 1) w4.heap.size (w4.heap.size + 1) (.slice aS (stL lb).length cS) (stL lb) (T ++ (stL lb).drop (stL lb).length) (stL lb).length V W) := hide (by rw [List.drop_length, List.append_nil]; exact HCS.out)
      gi_wp2
      all_goals
        gi_loopw [78] (fun i wr => i = .int .i64 0 ∧ wr = W) (fun _ _ => 0)
        case atStart => exact ⟨rfl, rfl⟩
        case round =>
          obtain ⟨rfl, rfl⟩ := hrel
          have WE := hide (FIN.out V wr HP0.out (Moves.refl _ _))
          gi_wp2_with (refine ⟨trivial, ?_⟩; gi_at_call 75; refine (callsIn_wide.2 WE.out).mono ?_; rintro e w5 ⟨v, rfl, hK5, x0, x1, ho, hbf⟩; obtain ⟨av, cv, rfl, -, -⟩ := own_shp ho; have e0 := x0.cell; have f0 := x0.fz; have e1 := (x1.other (B' := w.heap.size) (by omega) (.slice av (cmpO la lb).1.length cv)).cell; have f1 := (x1.other (B' := w.heap.size) (by omega) (.slice av (cmpO la lb).1.length cv)).fz; have Y1 := (x0.set (.slice av (cmpO la lb).1.length cv)).other (B' := w.heap.size + 1) (by omega) (.bool (cmpO la lb).2); have Y2 := (x1.other (B' := w.heap.size) (by omega) (.slice av (cmpO la lb).1.length cv)).set (.bool (cmpO la lb).2))
          have nD1 : D ≠ w.heap.size := by omega
          have nD2 : D ≠ w.heap.size + 1 := by omega
          have k1 := (Y1.block (W' := ((w5.setCell ⟨w.heap.size, 0, none⟩ (.slice av (cmpO la lb).1.length cv)).setCell ⟨w.heap.size + 1, 0, none⟩ (.bool (cmpO la lb).2)).putObj D (.deferred none)) (World.putObj_heap_other (Ne.symm nD1))).cell
          have k2 := (Y2.block (W' := ((w5.setCell ⟨w.heap.size, 0, none⟩ (.slice av (cmpO la lb).1.length cv)).setCell ⟨w.heap.size + 1, 0, none⟩ (.bool (cmpO la lb).2)).putObj D (.deferred none)) (World.putObj_heap_other (Ne.symm nD2))).cell
          have hK6 : ((w5.setCell ⟨w.heap.size, 0, none⟩ (.slice av (cmpO la lb).1.length cv)).setCell ⟨w.heap.size + 1, 0, none⟩ (.bool (cmpO la lb).2)).heap[D]? = some (.deferred (some [])) := ((Below.heap_setCell _ _ _ _ nD2).trans (Below.heap_setCell _ _ _ _ nD1)).trans hK5
          refine ⟨by simp, .inl ⟨_, _, rfl, run_takeDeferred hK6, ?_⟩⟩
          refine ⟨.tuple #[.slice av (cmpO la lb).1.length cv, .bool (cmpO la lb).2], ?_, _, rfl, ho, hbf⟩
          simp [results, Tryd.f40, go_sem, k1, k2]
  case stop =>
    rintro D c pre O' W hD hnD hpre ⟨rfl, ⟨b2, b3⟩, hno, rfl⟩ mv hK
    have hans := hide (ANS.out.2 hno)
    have nD1 : D ≠ w.heap.size := by omega
    have nD2 : D ≠ w.heap.size + 1 := by omega
    have k1 := (b2.block (W' := W.putObj D (.deferred none)) (World.putObj_heap_other (Ne.symm nD1))).cell
    have k2 := (b3.block (W' := W.putObj D (.deferred none)) (World.putObj_heap_other (Ne.symm nD2))).cell
    have hfin : Hid (Below w.heap.size w (W.putObj D (.deferred none))) := hide (by
      have h1 : Below w.heap.size w W := hbW.trans (mv.below (by omega) (fun k hk c => by
        rcases c with c | c | c
        · have := ob_new c; omega
        · simp at c; omega
        · have := hSb k c; omega))
      exact h1.trans ⟨rfl, rfl, rfl, by simp, fun k hk => World.putObj_heap_other (by omega)⟩)
    clear b2 b3 mv hnD hpre hno
    gi_wp2
    refine ⟨by simp, .inl ⟨_, _, rfl, run_takeDeferred hK, ?_⟩⟩
    refine ⟨.tuple #[.slice none 0 0, .bool false], ?_, _, by rw [hans.out], by rw [hans.out]; exact World.ownsRow_nil _ _ _ _, hfin.out⟩
    simp [results, Tryd.f40, go_sem, k1, k2]
end Go.Proofs.YtkjioadmebkaoabDoor

namespace Go.Proofs.YtkjioadmebkaoabDoor
open Go.RowKit
open Doc1

set_option maxRecDepth 100000 in
set_option maxHeartbeats 4000000 in
theorem compI {w : World} {aa ab : Option Addr} {ga ca gb cb : Nat} {la lb : List Pt} (ha : Pin w aa ga ca la) (hb : Pin w ab gb cb lb) (hT : Tab w) :
    Calls Tryd.prog 40 #[.slice aa la.length ca, .slice ab lb.length cb] w fun e w' => ∃ v, e = .returned (.tuple #[v, .bool (cmpO la lb).2]) ∧ POwn w' w.heap.size v (cmpO la lb).1 ∧ Below w.heap.size w w' := by
  by_cases hall : goodO la = true ∧ goodO lb = true ∧ mkL la = tkL lb
  · exact cmpI_good ha hb hT hall.1 hall.2.1 hall.2.2
  · rw [cmpO_no hall]
    have SA := hide (fun w' (h : Below w.heap.size w w') => sizesI_any (ha.later h) (hT.below h))
    have SB := hide (fun w' (h : Below w.heap.size w w') => sizesI_any (hb.later h) (hT.below h))
    have hb0 : Hid (∀ a b : Obj, Below w.heap.size w ((w.alloc a).alloc b)) := hide (fun a b => ((Below.refl _ _).alloc (Nat.le_refl _) _).alloc (by simp) _)
    clear ha hb hT
    have fin : ∀ w2, Below w.heap.size w w2 → POwn ((w2.setCell ⟨w.heap.size, 0, none⟩ (.slice none 0 0)).setCell ⟨w.heap.size + 1, 0, none⟩ (.bool false)) w.heap.size (.slice none 0 0) [] ∧ Below w.heap.size w ((w2.setCell ⟨w.heap.size, 0, none⟩ (.slice none 0 0)).setCell ⟨w.heap.size + 1, 0, none⟩ (.bool false)) := fun w2 h2 =>
      ⟨World.ownsRow_nil _ _ _ _, (h2.setCell (p := ⟨w.heap.size, 0, none⟩) (Nat.le_refl _) _).setCell (p := ⟨w.heap.size + 1, 0, none⟩) (by show _ ≤ _ + 1; omega) _⟩
    have HF := hide fin
    clear fin
    cases h1 : goodO la with
    | false =>
      rw [h1] at SA
      clear hall
      generalize goodO lb = y at SB
      go_enter Tryd.func40, Tryd.ntmps40
      go_wp2_with fail
      refine (SA.out _ (hb0.out _ _)).mono ?_
      rintro e w1 ⟨rfl, hb'⟩
      obtain ⟨⟨q0, q1⟩, hsw1, hb1⟩ := boxes2_up hb'
      clear hb' hb0
      go_wp2_with fail
      refine (SB.out _ hb1).mono ?_
      rintro e w2 ⟨rfl, hb'⟩
      have hb2 := hide (hb1.trans (hb'.mono hb1.size))
      replace q0 := q0.up hb'
      replace q1 := q1.up hb'
      clear hb' hb1 SA SB hsw1
      have e0 := q0.cell
      have f0 := q0.fz
      have e1 := (q1.other (B' := w.heap.size) (by omega) (.slice none 0 0)).cell
      have f1 := (q1.other (B' := w.heap.size) (by omega) (.slice none 0 0)).fz
      have k1 := ((q0.set (.slice none 0 0)).other (B' := w.heap.size + 1) (by omega) (.bool false)).cell
      have k2 := ((q1.other (B' := w.heap.size) (by omega) (.slice none 0 0)).set (.bool false)).cell
      clear q0 q1
      go_wp2
      refine bodyPost_ret (v := .tuple #[.slice none 0 0, .bool false]) (by simp [results, Tryd.results40, go_sem, k1, k2]) rfl ⟨_, rfl, HF.out _ hb2.out⟩
    | true =>
      rw [h1] at SA
      cases h2 : goodO lb with
      | false =>
        rw [h2] at SB
        clear hall
        go_enter Tryd.func40, Tryd.ntmps40
        go_wp2_with fail
        refine (SA.out _ (hb0.out _ _)).mono ?_
        rintro e w1 ⟨rfl, hb'⟩
        obtain ⟨⟨q0, q1⟩, hsw1, hb1⟩ := boxes2_up hb'
        clear hb' hb0
        go_wp2_with fail
        refine (SB.out _ hb1).mono ?_
        rintro e w2 ⟨rfl, hb'⟩
        have hb2 := hide (hb1.trans (hb'.mono hb1.size))
        replace q0 := q0.up hb'
        replace q1 := q1.up hb'
        clear hb' hb1 SA SB hsw1
        have e0 := q0.cell
        have f0 := q0.fz
        have e1 := (q1.other (B' := w.heap.size) (by omega) (.slice none 0 0)).cell
        have f1 := (q1.other (B' := w.heap.size) (by omega) (.slice none 0 0)).fz
        have k1 := ((q0.set (.slice none 0 0)).other (B' := w.heap.size + 1) (by omega) (.bool false)).cell
        have k2 := ((q1.other (B' := w.heap.size) (by omega) (.slice none 0 0)).set (.bool false)).cell
        clear q0 q1
        go_wp2
        refine bodyPost_ret (v := .tuple #[.slice none 0 0, .bool false]) (by simp [results, Tryd.results40, go_sem, k1, k2]) rfl ⟨_, rfl, HF.out _ hb2.out⟩
      | true =>
        rw [h2] at SB
        have hne : ¬ szM la = szT lb := by
          unfold szM szT
          rw [h1, h2]
          exact fun c => hall ⟨h1, h2, c⟩
        have hbn : (szM la != szT lb) = true := by simpa using hne
        have hbe : (szM la == szT lb) = false := by simpa using hne
        generalize szM la = m at *
        generalize szT lb = t at *
        clear hall h1 h2
        go_enter Tryd.func40, Tryd.ntmps40
        go_wp2_with fail
        refine (SA.out _ (hb0.out _ _)).mono ?_
        rintro e w1 ⟨rfl, hb'⟩
        obtain ⟨⟨q0, q1⟩, hsw1, hb1⟩ := boxes2_up hb'
        clear hb' hb0
        go_wp2_with fail
        refine (SB.out _ hb1).mono ?_
        rintro e w2 ⟨rfl, hb'⟩
        have hb2 := hide (hb1.trans (hb'.mono hb1.size))
        replace q0 := q0.up hb'
        replace q1 := q1.up hb'
        clear hb' hb1 SA SB hsw1
        have e0 := q0.cell
        have f0 := q0.fz
        have e1 := (q1.other (B' := w.heap.size) (by omega) (.slice none 0 0)).cell
        have f1 := (q1.other (B' := w.heap.size) (by omega) (.slice none 0 0)).fz
        have k1 := ((q0.set (.slice none 0 0)).other (B' := w.heap.size + 1) (by omega) (.bool false)).cell
        have k2 := ((q1.other (B' := w.heap.size) (by omega) (.slice none 0 0)).set (.bool false)).cell
        clear q0 q1
        go_wp2
        refine bodyPost_ret (v := .tuple #[.slice none 0 0, .bool false]) (by simp [results, Tryd.results40, go_sem, k1, k2]) rfl ⟨_, rfl, HF.out _ hb2.out⟩
end Go.Proofs.YtkjioadmebkaoabDoor
