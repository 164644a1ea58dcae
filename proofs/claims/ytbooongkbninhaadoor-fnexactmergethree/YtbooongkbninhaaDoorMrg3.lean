/- The model's two readers beside one another: what stands between two rounds. -/
import Derived.Test.YtbooongkbninhaaDoorCmpN
import Derived.Test.YtbooongkbninhaaDoorMrg1
namespace Go.Proofs.YtbooongkbninhaaDoor
open Go.RowKit
open Doc1

structure TS (w : World) (Bx By Bo gx gy : Nat) (lx ly PA PB : List Pt) (va vb : Value) (wr : World) : Prop where
  rx : Rd wr Bx gx lx
  ry : Rd wr By gy ly
  oa : POwn wr Bo va (normL PA)
  ob : POwn wr Bo vb (normL PB)
  na : va.ownBlock ≠ some gx ∧ va.ownBlock ≠ some gy
  nb : vb.ownBlock ≠ some gx ∧ vb.ownBlock ≠ some gy
  ab : ∀ k, va.ownBlock = some k → vb.ownBlock ≠ some k
  gl : gx ≠ By ∧ gy ≠ Bx
  bs : w.heap.size ≤ Bx ∧ w.heap.size ≤ By ∧ Bx < Bo ∧ By < Bo ∧ Bx ≠ By
  be : Below w.heap.size w wr
theorem TS.up {w : World} {Bx By Bo gx gy : Nat} {lx ly PA PB : List Pt} {va vb : Value} {wr w' : World} (h : TS w Bx By Bo gx gy lx ly PA PB va vb wr) (hb : Below wr.heap.size wr w') : TS w Bx By Bo gx gy lx ly PA PB va vb w' :=
  ⟨h.rx.up hb, h.ry.up hb, own_below h.oa hb, own_below h.ob hb, h.na, h.nb, h.ab, h.gl, h.bs, h.be.trans (hb.mono h.be.size)⟩
theorem TS.drewN {w : World} {Bx By Bo gx gy : Nat} {lx ly PA PB : List Pt} {va vb : Value} {wr : World} (h : TS w Bx By Bo gx gy lx ly PA PB va vb wr) (n : Nat) : TS w Bx By Bo gx gy lx ly PA PB va vb (wr.drewN n) := h.up ⟨rfl, rfl, rfl, Nat.le_refl _, fun _ _ => rfl⟩
theorem TS.takeX {w : World} {Bx By Bo gx gy g' : Nat} {lx lx' ly PA PB : List Pt} {va vb : Value} {wr w' : World} (h : TS w Bx By Bo gx gy lx ly PA PB va vb wr) (hr : Rd w' Bx g' lx') (hg' : g' = gx ∨ wr.heap.size ≤ g') (hg : wr.grownBy w' (some Bx)) : TS w Bx By Bo g' gy lx' ly PA PB va vb w' := by
  have hl := h.rx.lt
  have hl2 := h.ry.lt
  obtain ⟨b1, b2, b3, b4, b5⟩ := h.bs
  refine ⟨hr, h.ry.grown hg (fun e => b5 (Option.some.inj e)) (fun e => h.gl.2 (Option.some.inj e).symm), own_grown h.oa hg (fun b hb e => by have := (h.oa.lt b hb).1; have := Option.some.inj e; omega), own_grown h.ob hg (fun b hb e => by have := (h.ob.lt b hb).1; have := Option.some.inj e; omega), ⟨fun e => ?_, h.na.2⟩, ⟨fun e => ?_, h.nb.2⟩, h.ab, ⟨?_, h.gl.2⟩, h.bs, h.be.trans ⟨hg.os, hg.tape, hg.output, hg.size, fun k hk => hg.block k (by have := h.be.size; omega) (fun e => by have := Option.some.inj e; omega)⟩⟩
  · rcases hg' with rfl | c
    · exact h.na.1 e
    · have := (h.oa.lt g' e).2; omega
  · rcases hg' with rfl | c
    · exact h.nb.1 e
    · have := (h.ob.lt g' e).2; omega
  · rcases hg' with rfl | c
    · exact h.gl.1
    · omega
theorem TS.takeY {w : World} {Bx By Bo gx gy g' : Nat} {lx ly ly' PA PB : List Pt} {va vb : Value} {wr w' : World} (h : TS w Bx By Bo gx gy lx ly PA PB va vb wr) (hr : Rd w' By g' ly') (hg' : g' = gy ∨ wr.heap.size ≤ g') (hg : wr.grownBy w' (some By)) : TS w Bx By Bo gx g' lx ly' PA PB va vb w' := by
  have hl := h.rx.lt
  have hl2 := h.ry.lt
  obtain ⟨b1, b2, b3, b4, b5⟩ := h.bs
  refine ⟨h.rx.grown hg (fun e => b5 (Option.some.inj e).symm) (fun e => h.gl.1 (Option.some.inj e).symm), hr, own_grown h.oa hg (fun b hb e => by have := (h.oa.lt b hb).1; have := Option.some.inj e; omega), own_grown h.ob hg (fun b hb e => by have := (h.ob.lt b hb).1; have := Option.some.inj e; omega), ⟨h.na.1, fun e => ?_⟩, ⟨h.nb.1, fun e => ?_⟩, h.ab, ⟨h.gl.1, ?_⟩, h.bs, h.be.trans ⟨hg.os, hg.tape, hg.output, hg.size, fun k hk => hg.block k (by have := h.be.size; omega) (fun e => by have := Option.some.inj e; omega)⟩⟩
  · rcases hg' with rfl | c
    · exact h.na.2 e
    · have := (h.oa.lt g' e).2; omega
  · rcases hg' with rfl | c
    · exact h.nb.2 e
    · have := (h.ob.lt g' e).2; omega
  · rcases hg' with rfl | c
    · exact h.gl.2
    · omega
theorem norm_snoc (P : List Pt) (p : Pt) : normL (P ++ [p]) = addP (normL P) p := by unfold normL; rw [List.foldl_append]; rfl
theorem TS.addA {w : World} {Bx By Bo gx gy : Nat} {lx ly PA PB : List Pt} {va va' vb : Value} {wr w' : World} {p : Pt} (h : TS w Bx By Bo gx gy lx ly PA PB va vb wr) (ow : POwn w' Bo va' (addP (normL PA) p)) (fr : Fr Bo va.ownBlock wr w') (loc : va'.ownBlock = va.ownBlock ∨ ∀ y, va'.ownBlock = some y → wr.heap.size ≤ y) : TS w Bx By Bo gx gy lx ly (PA ++ [p]) PB va' vb w' := by
  obtain ⟨b1, b2, b3, b4, b5⟩ := h.bs
  have nB : ∀ k, k < Bo → va.ownBlock ≠ some k := fun k hk e => by have := (h.oa.lt k e).1; omega
  refine ⟨h.rx.grown fr.g (nB _ b3) h.na.1, h.ry.grown fr.g (nB _ b4) h.na.2, by rw [norm_snoc]; exact ow, own_grown h.ob fr.g (fun b hb e => h.ab b e hb), ⟨fun e => ?_, fun e => ?_⟩, h.nb, fun k e1 e2 => ?_, h.gl, h.bs, h.be.trans (fr.b.mono (by omega))⟩
  · rcases loc with c | c
    · exact h.na.1 (c.symm.trans e)
    · have := c gx e; have := h.rx.lt; omega
  · rcases loc with c | c
    · exact h.na.2 (c.symm.trans e)
    · have := c gy e; have := h.ry.lt; omega
  · rcases loc with c | c
    · exact h.ab k (c.symm.trans e1) e2
    · have := c k e1; have := (h.ob.lt k e2).2; omega
theorem TS.addB {w : World} {Bx By Bo gx gy : Nat} {lx ly PA PB : List Pt} {va vb vb' : Value} {wr w' : World} {p : Pt} (h : TS w Bx By Bo gx gy lx ly PA PB va vb wr) (ow : POwn w' Bo vb' (addP (normL PB) p)) (fr : Fr Bo vb.ownBlock wr w') (loc : vb'.ownBlock = vb.ownBlock ∨ ∀ y, vb'.ownBlock = some y → wr.heap.size ≤ y) : TS w Bx By Bo gx gy lx ly PA (PB ++ [p]) va vb' w' := by
  obtain ⟨b1, b2, b3, b4, b5⟩ := h.bs
  have nB : ∀ k, k < Bo → vb.ownBlock ≠ some k := fun k hk e => by have := (h.ob.lt k e).1; omega
  refine ⟨h.rx.grown fr.g (nB _ b3) h.nb.1, h.ry.grown fr.g (nB _ b4) h.nb.2, own_grown h.oa fr.g (fun b hb e => h.ab b hb e), by rw [norm_snoc]; exact ow, h.na, ⟨fun e => ?_, fun e => ?_⟩, fun k e1 e2 => ?_, h.gl, h.bs, h.be.trans (fr.b.mono (by omega))⟩
  · rcases loc with c | c
    · exact h.nb.1 (c.symm.trans e)
    · have := c gx e; have := h.rx.lt; omega
  · rcases loc with c | c
    · exact h.nb.2 (c.symm.trans e)
    · have := c gy e; have := h.ry.lt; omega
  · rcases loc with c | c
    · exact h.ab k e1 (c.symm.trans e2)
    · have := c k e2; have := (h.oa.lt k e1).2; omega
/-- What is known of what is told and of what is left. -/
structure TE (X Y : List St) (lx ly PA PB : List Pt) (N : Nat) : Prop where
  ea : trA (prR X Y) = stL PA ++ trA (prR (stL lx) (stL ly))
  eb : trB (prR X Y) = stL PB ++ trB (prR (stL lx) (stL ly))
  gx : ∀ p ∈ lx, gqs p
  gy : ∀ p ∈ ly, gqs p
  gA : ∀ p ∈ PA, gqs p
  gB : ∀ p ∈ PB, gqs p
  sa : PA.length + lx.length + ly.length ≤ N
  sb : PB.length + lx.length + ly.length ≤ N
  ct : ctk (stL lx) = ctk (stL ly)
theorem TE.step {X Y : List St} {lx ly lx' ly' PA PB : List Pt} {N : Nat} (h : TE X Y lx ly PA PB N) (QA QB : List Pt) (ea : trA (prR (stL lx) (stL ly)) = stL QA ++ trA (prR (stL lx') (stL ly'))) (eb : trB (prR (stL lx) (stL ly)) = stL QB ++ trB (prR (stL lx') (stL ly')))
    (hx : ∀ q ∈ lx', gqs q) (hy : ∀ q ∈ ly', gqs q) (hA : ∀ q ∈ QA, gqs q) (hB : ∀ q ∈ QB, gqs q) (ct : ctk (stL lx') = ctk (stL ly')) (la : QA.length + lx'.length + ly'.length ≤ lx.length + ly.length) (lb : QB.length + lx'.length + ly'.length ≤ lx.length + ly.length) : TE X Y lx' ly' (PA ++ QA) (PB ++ QB) N :=
  ⟨by rw [h.ea, ea, stL_app, List.append_assoc], by rw [h.eb, eb, stL_app, List.append_assoc], hx, hy, fun q hq => (List.mem_append.1 hq).elim (h.gA q) (hA q), fun q hq => (List.mem_append.1 hq).elim (h.gB q) (hB q), by have := h.sa; simp; omega, by have := h.sb; simp; omega, ct⟩
theorem gqs_kp {n : Nat} (h0 : 0 < n) (h : n ≤ 300) : gqs (kp n) := ⟨.inl ⟨n, h0, rfl⟩, by rw [psz_kp]; omega⟩
theorem ctk_sP (b : List UInt8) : ctk (sP b) = 0 := by simp [ctk, sP]
theorem ctk_sK (n : Nat) : ctk (sK n) = n := by simp [ctk, sK]
theorem ctk_sD (b : List UInt8) : ctk (sD b) = b.length := by
  have : (sD b).filter (fun x => decide (x.k ≠ 2)) = sD b := List.filter_eq_self.2 (fun x hx => decide_eq_true (sD_k b x hx))
  unfold ctk
  rw [this]
  exact sD_len b
theorem ctk_taken {p : Pt} (h : gqs p) (hp : p.put.data.toList = []) : (ctk (stp p) : Int) = psz p := by
  rcases gqs_cases h with ⟨m, hm, rfl⟩ | ⟨b, hb, rfl⟩ | ⟨b, hb, rfl⟩
  · rw [stp_kp, ctk_sK, psz_kp]
  · rw [ppP] at hp; exact absurd hp hb
  · rw [stp_dp, ctk_sD, psz_dp]
theorem noP_head {p : Pt} (h : gqs p) (hp : p.put.data.toList = []) (r : List Pt) : noP (stL (p :: r)) := by
  intro x s hs
  rw [stL_cons] at hs
  rcases gqs_cases h with ⟨m, hm, rfl⟩ | ⟨b, hb, rfl⟩ | ⟨b, hb, rfl⟩
  · rw [stp_kp] at hs
    obtain ⟨k, rfl⟩ : ∃ k, m = k + 1 := ⟨m - 1, by omega⟩
    simp [sK, List.replicate_succ] at hs
    rw [← hs.1]; simp
  · rw [ppP] at hp; exact absurd hp hb
  · rw [stp_dp] at hs
    cases b with
    | nil => exact absurd rfl hb
    | cons c b => simp [sD] at hs; rw [← hs.1]; simp
theorem noP_nil : noP (stL []) := fun x s hs => by cases hs
/-- A Put of the first one. -/
theorem te_putA {X Y : List St} {p : Pt} {rx ly PA PB : List Pt} {N : Nat} (h : TE X Y (p :: rx) ly PA PB N) (hp : p.put.data.toList ≠ []) : gqs (kp p.put.size) ∧ TE X Y rx ly (PA ++ [p]) (PB ++ [kp p.put.size]) N := by
  have hq := h.gx p (by simp)
  have hct := h.ct
  rcases gqs_cases hq with ⟨m, hm, rfl⟩ | ⟨b, hb, rfl⟩ | ⟨b, hb, rfl⟩
  · exact absurd (kpP m) hp
  · have hs : (pp b).put.size = b.length := ba_sz b
    have hl : b.length ≤ 300 := by have := hq.2; rw [psz_pp] at this; omega
    have h0 := List.length_pos_iff.2 hb
    rw [hs]
    obtain ⟨e1, e2⟩ := tr_putA b (stL rx) (stL ly)
    rw [stL_cons, stp_pp, ctk_app, ctk_sP] at hct
    refine ⟨gqs_kp h0 hl, h.step [pp b] [kp b.length] ?_ ?_ (fun q c => h.gx q (by simp [c])) h.gy (fun q c => by rw [List.mem_singleton] at c; rw [c]; exact hq) (fun q c => by rw [List.mem_singleton] at c; rw [c]; exact gqs_kp h0 hl) (by omega) (by simp; omega) (by simp; omega)⟩
    · rw [stL_cons, stp_pp, stL_one, stp_pp]; exact e1
    · rw [stL_cons, stp_pp, stL_one, stp_kp]; exact e2
  · exact absurd (dpP b) hp
/-- A Put of the second one. -/
theorem te_putB {X Y : List St} {q : Pt} {lx ry PA PB : List Pt} {N : Nat} (h : TE X Y lx (q :: ry) PA PB N) (hn : noP (stL lx)) (hp : q.put.data.toList ≠ []) : gqs (kp q.put.size) ∧ TE X Y lx ry (PA ++ [kp q.put.size]) (PB ++ [q]) N := by
  have hq := h.gy q (by simp)
  have hct := h.ct
  rcases gqs_cases hq with ⟨m, hm, rfl⟩ | ⟨b, hb, rfl⟩ | ⟨b, hb, rfl⟩
  · exact absurd (kpP m) hp
  · have hs : (pp b).put.size = b.length := ba_sz b
    have hl : b.length ≤ 300 := by have := hq.2; rw [psz_pp] at this; omega
    have h0 := List.length_pos_iff.2 hb
    rw [hs]
    obtain ⟨e1, e2⟩ := tr_putB b (stL lx) (stL ry) hn
    rw [stL_cons, stp_pp, ctk_app, ctk_sP] at hct
    refine ⟨gqs_kp h0 hl, h.step [kp b.length] [pp b] ?_ ?_ h.gx (fun q c => h.gy q (by simp [c])) (fun q c => by rw [List.mem_singleton] at c; rw [c]; exact gqs_kp h0 hl) (fun q c => by rw [List.mem_singleton] at c; rw [c]; exact hq) (by omega) (by simp; omega) (by simp; omega)⟩
    · rw [stL_cons, stp_pp, stL_one, stp_kp]; exact e1
    · rw [stL_cons, stp_pp, stL_one, stp_pp]; exact e2
  · exact absurd (dpP b) hp
theorem one_gqs {p : Pt} (h : gqs p) : ∀ q ∈ [p], gqs q := fun q c => by rw [List.mem_singleton] at c; rw [c]; exact h
theorem none_gqs : ∀ q ∈ ([] : List Pt), gqs q := fun q c => by cases c
/-- Both take as many bytes. -/
theorem te_both {X Y : List St} {p q p' q' : Pt} {r s rx ry PA PB : List Pt} {N : Nat} (h : TE X Y (p :: r) (q :: s) PA PB N) (hp : p'.put.data.toList = []) (hq : q'.put.data.toList = []) (gp : gqs p') (gq : gqs q') (hs : psz p' = psz q')
    (e1 : stL (p :: r) = stp p' ++ stL rx) (e2 : stL (q :: s) = stp q' ++ stL ry) (hx : ∀ z ∈ rx, gqs z) (hy : ∀ z ∈ ry, gqs z) (hl : 1 + rx.length + ry.length ≤ (p :: r).length + (q :: s).length) :
    (0 < p'.keep → 0 < q'.keep → TE X Y rx ry (PA ++ [p']) (PB ++ [q']) N) ∧ (0 < p'.keep → ¬ 0 < q'.keep → TE X Y rx ry PA (PB ++ [q']) N) ∧ (¬ 0 < p'.keep → 0 < q'.keep → TE X Y rx ry (PA ++ [p']) PB N) ∧ (¬ 0 < p'.keep → ¬ 0 < q'.keep → TE X Y rx ry PA PB N) := by
  have hct := h.ct
  have c1 := ctk_taken gp hp
  have c2 := ctk_taken gq hq
  rw [e1, e2, ctk_app, ctk_app] at hct
  have ct : ctk (stL rx) = ctk (stL ry) := by omega
  have S := fun QA QB a b => h.step (lx' := rx) (ly' := ry) QA QB a b hx hy
  rw [e1, e2] at S
  have NA : PA ++ [] = PA := List.append_nil _
  have NB : PB ++ [] = PB := List.append_nil _
  rcases gqs_cases gp with ⟨m, hm, rfl⟩ | ⟨b, hb, rfl⟩ | ⟨b, hb, rfl⟩
  · have kpos := kp_pos hm
    rcases gqs_cases gq with ⟨m', hm', rfl⟩ | ⟨d, hd, rfl⟩ | ⟨d, hd, rfl⟩
    · have kpos' := kp_pos hm'
      rw [psz_kp, psz_kp] at hs
      obtain rfl : m' = m := by omega
      obtain ⟨t1, t2⟩ := tr_kk m' (stL rx) (stL ry)
      rw [stp_kp] at S
      exact ⟨fun _ _ => S [kp m'] [kp m'] (by rw [stL_one, stp_kp]; exact t1) (by rw [stL_one, stp_kp]; exact t2) (one_gqs gp) (one_gqs gp) ct (by simp at hl ⊢; omega) (by simp at hl ⊢; omega), fun _ c => absurd kpos' c, fun c => absurd kpos c, fun c => absurd kpos c⟩
    · rw [ppP] at hq; exact absurd hq hd
    · have kno : ¬ 0 < (dp d).keep := by show ¬ (0 : Int) < 0; omega
      rw [psz_kp, psz_dp] at hs
      obtain rfl : m = d.length := by omega
      obtain ⟨t1, t2⟩ := tr_kd d (stL rx) (stL ry)
      rw [stp_kp, stp_dp] at S
      refine ⟨fun _ c => absurd c kno, fun _ _ => ?_, fun c => absurd kpos c, fun c => absurd kpos c⟩
      have := S [] [dp d] t1 (by rw [stL_one, stp_dp]; exact t2) none_gqs (one_gqs gq) ct (by simp at hl ⊢; omega) (by simp at hl ⊢; omega)
      rw [NA] at this; exact this
  · rw [ppP] at hp; exact absurd hp hb
  · have kno : ¬ 0 < (dp b).keep := by show ¬ (0 : Int) < 0; omega
    rcases gqs_cases gq with ⟨m', hm', rfl⟩ | ⟨d, hd, rfl⟩ | ⟨d, hd, rfl⟩
    · have kpos' := kp_pos hm'
      rw [psz_kp, psz_dp] at hs
      obtain rfl : m' = b.length := by omega
      obtain ⟨t1, t2⟩ := tr_dk b (stL rx) (stL ry)
      rw [stp_kp, stp_dp] at S
      refine ⟨fun c => absurd c kno, fun c => absurd c kno, fun _ _ => ?_, fun _ c => absurd kpos' c⟩
      have := S [dp b] [] (by rw [stL_one, stp_dp]; exact t1) t2 (one_gqs gp) none_gqs ct (by simp at hl ⊢; omega) (by simp at hl ⊢; omega)
      rw [NB] at this; exact this
    · rw [ppP] at hq; exact absurd hq hd
    · have kno' : ¬ 0 < (dp d).keep := by show ¬ (0 : Int) < 0; omega
      rw [psz_dp, psz_dp] at hs
      obtain ⟨t1, t2⟩ := tr_dd b d (by omega) (stL rx) (stL ry)
      rw [stp_dp, stp_dp] at S
      refine ⟨fun c => absurd c kno, fun c => absurd c kno, fun _ c => absurd c kno', fun _ _ => ?_⟩
      have := S [] [] t1 t2 none_gqs none_gqs ct (by simp at hl ⊢; omega) (by simp at hl ⊢; omega)
      rw [NA, NB] at this; exact this
end Go.Proofs.YtbooongkbninhaaDoor
