/- The program's ComposeOps: what it holds between its rounds, and addBoth. -/
import Derived.Test.YtknilofnelhgmaaDoorOpW7
import Derived.Test.YtknilofnelhgmaaDoorColl1
import Derived.Test.YtknilofnelhgmaaDoorStRow
import Derived.Test.YtknilofnelhgmaaDoorComp3
namespace Go.Proofs.YtknilofnelhgmaaDoor
open Go.RowKit Go.Shelf
open Doc1

attribute [local go_sem] Oper.semAt_some

set_option maxRecDepth 100000 in
set_option maxHeartbeats 2000000 in
theorem addBoth_any {gb : Nat} {V : Nat → Value} {G : Gs} {W : World} (x y : St) (hx : x.k = 1 ∨ x.k = 2) (hy : y.k = 1 ∨ y.k = 3) (h : Gt gb V G W) {n : Nat} (hb : GB G n) (hn : n ≤ 1000000) :
    Calls Tryd.prog 62 #[.pointer (some ⟨gb, 0, none⟩), stV x, stV y] W fun e w' => e = .returned (.bool (cpB x y).isSome) ∧ ∃ V', Gt gb V' (gath G ((cpB x y).getD [])) w' ∧ Moves (OB gb V) W (OB gb V') w' := by
  obtain ⟨xk, xc⟩ := x
  obtain ⟨yk, yc⟩ := y
  simp only at hx hy
  have hB : ∀ o1 o2 : Obj, Below W.heap.size W ((W.alloc o1).alloc o2) := fun o1 o2 => ((Below.refl _ _).alloc (Nat.le_refl _) _).alloc (by simp) _
  have AX := hide (fun o1 o2 => add_any (⟨xk, xc⟩ : St) (by rcases hx with e | e <;> subst e <;> simp [sk]) (h.up (hB o1 o2)) hb hn)
  have AY := hide (fun o1 o2 => add_any (⟨yk, yc⟩ : St) (by rcases hy with e | e <;> subst e <;> simp [sk]) (h.up (hB o1 o2)) hb hn)
  have MV := hide (fun o1 o2 => moves_up (O := OB gb V) (hB o1 o2))
  have HV := hide (fun o1 o2 => h.up (hB o1 o2))
  unfold stV at AX AY ⊢
  simp only at AX AY ⊢
  clear h hB
  rcases hx with rfl | rfl
  · have e : cpB (⟨1, xc⟩ : St) ⟨yk, yc⟩ = some [⟨yk, yc⟩] := by simp [cpB]
    rw [e]
    clear e AX
    go_enter Tryd.func62, Tryd.ntmps62
    go_wp2_with fail
    refine (AY.out _ _).mono ?_
    rintro e w3 ⟨rfl, V', hV', mv⟩
    have HV' := hide hV'
    have HM := hide ((MV.out _ _).trans mv)
    clear hV' mv AY
    go_wp2
    go_ret
    exact ⟨rfl, V', HV'.out, HM.out⟩
  · rcases hy with rfl | rfl
    · have e : cpB (⟨2, xc⟩ : St) ⟨1, yc⟩ = some [⟨2, xc⟩] := by simp [cpB]
      rw [e]
      clear e AY
      go_enter Tryd.func62, Tryd.ntmps62
      go_wp2_with fail
      refine (AX.out _ _).mono ?_
      rintro e w3 ⟨rfl, V', hV', mv⟩
      have HV' := hide hV'
      have HM := hide ((MV.out _ _).trans mv)
      clear hV' mv AX
      go_wp2
      go_ret
      exact ⟨rfl, V', HV'.out, HM.out⟩
    · clear AX AY
      by_cases hc : xc = yc
      · subst hc
        have e : cpB (⟨2, xc⟩ : St) ⟨3, xc⟩ = some [] := by simp [cpB]
        rw [e]
        clear e
        go_enter Tryd.func62, Tryd.ntmps62
        go_wp2
        go_ret
        exact ⟨rfl, V, HV.out _ _, MV.out _ _⟩
      · have e : cpB (⟨2, xc⟩ : St) ⟨3, yc⟩ = none := by simp [cpB, hc]
        have hne : ((xc.toNat : Int) == (yc.toNat : Int)) = false := by
          rw [beq_eq_false_iff_ne]
          intro e
          exact hc (UInt8.toNat_inj.1 (by omega))
        rw [e]
        clear e hc
        go_enter Tryd.func62, Tryd.ntmps62
        go_wp2
        go_ret
        exact ⟨rfl, V, HV.out _ _, MV.out _ _⟩

/-- What ComposeOps holds: the gathering, the row of the other change's steps and how far it is read, and its answers. -/
structure CK (gb R0 R1 Bt Ba : Nat) (vS : Value) (ys T : List St) (at_ : Nat) (V : Nat → Value) (W : World) : Prop where
  g : Gt gb V (gath g0 T) W
  r0 : Bxd W R0 (.slice none 0 0)
  r1 : Bxd W R1 (.bool false)
  bt : Bxd W Bt vS
  ba : Bxd W Ba (.int .i64 (at_ : Int))
  os : W.ownsRow 0 84 2 vS ys.length (stC ys)
  nB : ∀ k, k ∈ [R0, R1, Bt, Ba] → ¬ OB gb V k
  nS : ∀ x, vS.ownBlock = some x → x ∉ [R0, R1, Bt, Ba] ∧ ¬ OB gb V x
def CO (gb R0 R1 Bt Ba : Nat) (vS : Value) (V : Nat → Value) (k : Nat) : Prop := OB gb V k ∨ k ∈ [R0, R1, Bt, Ba] ∨ vS.ownBlock = some k
theorem CK.lt {gb R0 R1 Bt Ba : Nat} {vS : Value} {ys T : List St} {at_ : Nat} {V : Nat → Value} {W : World} (h : CK gb R0 R1 Bt Ba vS ys T at_ V W) : ∀ k, CO gb R0 R1 Bt Ba vS V k → k < W.heap.size := by
  rintro k (hk | hk | hk)
  · exact h.g.ltO hk
  · simp only [List.mem_cons, List.not_mem_nil, or_false] at hk
    rcases hk with rfl | rfl | rfl | rfl
    · exact h.r0.lt
    · exact h.r1.lt
    · exact h.bt.lt
    · exact h.ba.lt
  · exact (h.os.lt k hk).2
theorem CK.kept {gb R0 R1 Bt Ba : Nat} {vS : Value} {ys T : List St} {at_ : Nat} {V : Nat → Value} {W W' : World} (h : CK gb R0 R1 Bt Ba vS ys T at_ V W) (hk : ∀ k, CO gb R0 R1 Bt Ba vS V k → W'.heap[k]? = W.heap[k]?) : CK gb R0 R1 Bt Ba vS ys T at_ V W' :=
  ⟨h.g.kept (fun k c => hk k (.inl c)), h.r0.block (hk _ (.inr (.inl (by simp)))), h.r1.block (hk _ (.inr (.inl (by simp)))), h.bt.block (hk _ (.inr (.inl (by simp)))), h.ba.block (hk _ (.inr (.inl (by simp)))), own_stays h.os (fun x hx => hk x (.inr (.inr hx))), h.nB, h.nS⟩
theorem CK.up {gb R0 R1 Bt Ba : Nat} {vS : Value} {ys T : List St} {at_ : Nat} {V : Nat → Value} {W W' : World} (h : CK gb R0 R1 Bt Ba vS ys T at_ V W) (hb : Below W.heap.size W W') : CK gb R0 R1 Bt Ba vS ys T at_ V W' := h.kept (fun k hk => hb.block k (h.lt k hk))
/-- Behind steps that are gathered. -/
theorem CK.add {gb R0 R1 Bt Ba : Nat} {vS : Value} {ys T : List St} {at_ : Nat} {V V' : Nat → Value} {W W' : World} (h : CK gb R0 R1 Bt Ba vS ys T at_ V W) {b : List St} (hg : Gt gb V' (gath (gath g0 T) b) W') (mv : Moves (OB gb V) W (OB gb V') W') :
    CK gb R0 R1 Bt Ba vS ys (T ++ b) at_ V' W' ∧ Moves (CO gb R0 R1 Bt Ba vS V) W (CO gb R0 R1 Bt Ba vS V') W' := by
  have far : ∀ k, k < W.heap.size → ¬ OB gb V k → W'.heap[k]? = W.heap[k]? ∧ ¬ OB gb V' k := fun k hk hn => ⟨mv.same k hk hn, fun c => hn (mv.own k hk c)⟩
  have l0 := h.r0.lt
  have l1 := h.r1.lt
  have l2 := h.bt.lt
  have l3 := h.ba.lt
  have hl : ∀ k, k ∈ [R0, R1, Bt, Ba] → k < W.heap.size := fun k hk => h.lt k (.inr (.inl hk))
  refine ⟨⟨by rw [gath_app]; exact hg, h.r0.block (far _ l0 (h.nB _ (by simp))).1, h.r1.block (far _ l1 (h.nB _ (by simp))).1, h.bt.block (far _ l2 (h.nB _ (by simp))).1, h.ba.block (far _ l3 (h.nB _ (by simp))).1, own_stays h.os (fun x hx => (far x (h.os.lt x hx).2 (h.nS x hx).2).1), fun k hk => (far k (hl k hk) (h.nB k hk)).2, fun x hx => ⟨(h.nS x hx).1, (far x (h.os.lt x hx).2 (h.nS x hx).2).2⟩⟩, ?_⟩
  refine ⟨mv.os, mv.tape, mv.output, mv.size, fun k hk hn => mv.same k hk (fun c => hn (.inl c)), fun k hk c => ?_⟩
  rcases c with c | c | c
  · exact .inl (mv.own k hk c)
  · exact .inr (.inl c)
  · exact .inr (.inr c)
/-- The other change's place goes on. -/
theorem CK.on {gb R0 R1 Bt Ba : Nat} {vS : Value} {ys T : List St} {at_ : Nat} {V : Nat → Value} {W : World} (h : CK gb R0 R1 Bt Ba vS ys T at_ V W) (hd : R0 ≠ Ba ∧ R1 ≠ Ba ∧ Bt ≠ Ba) :
    CK gb R0 R1 Bt Ba vS ys T (at_ + 1) V (W.setCell ⟨Ba, 0, none⟩ (.int .i64 ((at_ : Int) + 1))) ∧ Moves (CO gb R0 R1 Bt Ba vS V) W (CO gb R0 R1 Bt Ba vS V) (W.setCell ⟨Ba, 0, none⟩ (.int .i64 ((at_ : Int) + 1))) := by
  refine ⟨⟨h.g.kept (fun k c => Below.heap_setCell _ _ _ _ (fun e => h.nB Ba (by simp) (by have e2 : k = Ba := e; rw [← e2]; exact c))), h.r0.other hd.1 _, h.r1.other hd.2.1 _, h.bt.other hd.2.2 _, ?_, own_stays h.os (fun x hx => Below.heap_setCell _ _ _ _ (fun e => (h.nS x hx).1 (by simp [e]))), h.nB, h.nS⟩, (Moves.refl _ _).setCell (fun _ => .inr (.inl (by simp))) _⟩
  have := h.ba.set (.int .i64 ((at_ : Int) + 1))
  rw [show ((at_ + 1 : Nat) : Int) = (at_ : Int) + 1 by omega]
  exact this
def CmJ (gb R0 R1 Bt Ba : Nat) (vS : Value) (ys pre : List St) (O : Nat → Prop) (W : World) : Prop := ∃ T at_ V, CpI ys pre T at_ ∧ CK gb R0 R1 Bt Ba vS ys T at_ V W ∧ (∀ x ∈ T, sk x) ∧ O = CO gb R0 R1 Bt Ba vS V
theorem cmJ_held (gb R0 R1 Bt Ba : Nat) (vS : Value) (ys : List St) : Held (CmJ gb R0 R1 Bt Ba vS ys) :=
  ⟨fun ⟨_, _, _, _, h, _, e⟩ k hk => by subst e; exact h.lt k hk, fun ⟨T, a, V, hi, h, hs, e⟩ _ hk => by subst e; exact ⟨T, a, V, hi, h.kept hk, hs, rfl⟩⟩
/-- When a round has left: the changes do not fit. -/
def CX (R0 R1 : Nat) (xs ys : List St) (c : Code) (_ : List St) (O : Nat → Prop) (W : World) : Prop := c = .ret ∧ (Bxd W R0 (.slice none 0 0) ∧ Bxd W R1 (.bool false)) ∧ cmpS xs ys = none ∧ O = fun k => k = R0 ∨ k = R1
theorem cX_held (R0 R1 : Nat) (xs ys : List St) (c : Code) : Held (CX R0 R1 xs ys c) := by
  refine ⟨?_, ?_⟩
  · rintro pre O W ⟨_, ⟨h1, h2⟩, _, rfl⟩ k (rfl | rfl)
    · exact h1.lt
    · exact h2.lt
  · rintro pre O W W' ⟨hc, ⟨h1, h2⟩, ha, rfl⟩ hs hk
    exact ⟨hc, ⟨h1.block (hk _ (.inl rfl)), h2.block (hk _ (.inr rfl))⟩, ha, rfl⟩
end Go.Proofs.YtknilofnelhgmaaDoor
