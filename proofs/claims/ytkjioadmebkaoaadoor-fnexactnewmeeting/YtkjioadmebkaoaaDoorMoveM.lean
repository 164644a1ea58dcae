/- The plain mathematics of chapter 5: what a change does step by step it does when it is normal, too; and where a place comes to. The plain mathematics of chapter 5, on: the bytes that a change takes, and which of them it keeps. -/
import Derived.Test.YtkjioadmebkaoaaDoorOpsM
namespace Go.Proofs.YtkjioadmebkaoaaDoor.Doc1

section
variable {σ : Type} (f : σ → St → σ)
theorem fold_drops (hc : ∀ s c d, f (f s ⟨3, d⟩) ⟨2, c⟩ = f (f s ⟨2, c⟩) ⟨3, d⟩) (c : UInt8) : ∀ (b : List UInt8) (s : σ), f ((b.map (fun d => (⟨3, d⟩ : St))).foldl f s) ⟨2, c⟩ = (b.map (fun d => (⟨3, d⟩ : St))).foldl f (f s ⟨2, c⟩)
  | [], _ => rfl
  | d :: b, s => by
    simp only [List.map_cons, List.foldl_cons]
    rw [fold_drops hc c b, hc]
/-- Steps taken one by one, of a change's parts. -/
def foldP (l : List Pt) (s : σ) : σ := (stL l).foldl f s
theorem foldP_app (a b : List Pt) (s : σ) : foldP f (a ++ b) s = foldP f b (foldP f a s) := by simp [foldP, stL]
theorem foldP_kp (n : Nat) (s : σ) : foldP f [kp n] s = (List.replicate n (⟨1, 0⟩ : St)).foldl f s := by
  simp [foldP, stL, stp, kpP, kpD]; simp [kp]
theorem foldP_pp (b : List UInt8) (s : σ) : foldP f [pp b] s = (b.map (fun d => (⟨2, d⟩ : St))).foldl f s := by
  simp [foldP, stL, stp, ppP, ppD]; simp [pp]
theorem foldP_dp (b : List UInt8) (s : σ) : foldP f [dp b] s = (b.map (fun d => (⟨3, d⟩ : St))).foldl f s := by
  simp [foldP, stL, stp, dpP, dpD]; simp [dp]
theorem foldP_nil (s : σ) : foldP f [] s = s := rfl
theorem foldP_endK (g : Gs) (s : σ) : foldP f g.endK.parts s = (List.replicate g.keep (⟨1, 0⟩ : St)).foldl f (foldP f g.parts s) := by
  unfold Gs.endK
  rw [foldP_app]
  split
  · exact foldP_kp f _ _
  · have : g.keep = 0 := by omega
    rw [this]; rfl
theorem foldP_endC (g : Gs) (s : σ) : foldP f g.endC.parts s = (g.drop.map (fun d => (⟨3, d⟩ : St))).foldl f ((g.put.map (fun d => (⟨2, d⟩ : St))).foldl f (foldP f g.parts s)) := by
  unfold Gs.endC
  rw [foldP_app, foldP_app]
  by_cases h1 : g.put = []
  · by_cases h2 : g.drop = []
    · simp [h1, h2, foldP_nil]
    · simp [h1, h2, foldP_nil, foldP_dp]
  · by_cases h2 : g.drop = []
    · simp [h1, h2, foldP_nil, foldP_pp]
    · simp [h1, h2, foldP_pp, foldP_dp]
theorem foldP_out (g : Gs) (s : σ) : foldP f g.out s = (g.drop.map (fun d => (⟨3, d⟩ : St))).foldl f ((g.put.map (fun d => (⟨2, d⟩ : St))).foldl f ((List.replicate g.keep (⟨1, 0⟩ : St)).foldl f (foldP f g.parts s))) := by
  unfold Gs.out
  rw [foldP_endC, foldP_endK]
  rfl
theorem add_fold (hc : ∀ s c d, f (f s ⟨3, d⟩) ⟨2, c⟩ = f (f s ⟨2, c⟩) ⟨3, d⟩) (hk : ∀ s c, f s ⟨1, c⟩ = f s ⟨1, 0⟩) {g : Gs} (h : GI g) {x : St} (hx : sk x) (s : σ) : foldP f (g.add x).out s = f (foldP f g.out s) x := by
  obtain ⟨k, c⟩ := x
  rw [foldP_out, foldP_out]
  rcases hx with e | e | e <;> (simp only at e; subst e)
  · simp only [Gs.add, if_true, List.map_nil, List.foldl_nil]
    rw [foldP_endC]
    by_cases h0 : 0 < g.keep
    · rw [(h.a h0).1, (h.a h0).2]
      simp only [List.map_nil, List.foldl_nil]
      rw [List.replicate_succ', List.foldl_append, List.foldl_cons, List.foldl_nil, hk _ c]
    · have : g.keep = 0 := by omega
      rw [this]
      simp only [List.replicate_zero, List.foldl_nil, Nat.zero_add, List.replicate_one, List.foldl_cons]
      rw [hk _ c]
  · simp only [Gs.add, show ¬ (2 = 1) by omega, if_false, if_true, List.replicate_zero, List.foldl_nil]
    rw [foldP_endK, List.map_append, List.foldl_append, fold_drops f hc]
    rfl
  · simp only [Gs.add, show ¬ (3 = 1) by omega, show ¬ (3 = 2) by omega, if_false, if_true, List.replicate_zero, List.foldl_nil]
    rw [foldP_endK, List.map_append, List.foldl_append]
    rfl
theorem gath_fold (hc : ∀ s c d, f (f s ⟨3, d⟩) ⟨2, c⟩ = f (f s ⟨2, c⟩) ⟨3, d⟩) (hk : ∀ s c, f s ⟨1, c⟩ = f s ⟨1, 0⟩) (s : σ) : ∀ (L : List St) (g : Gs), GI g → (∀ x ∈ L, sk x) → foldP f (gath g L).out s = L.foldl f (foldP f g.out s)
  | [], _, _, _ => rfl
  | x :: L, g, h, hL => by
    have e : gath g (x :: L) = gath (g.add x) L := rfl
    rw [e, gath_fold hc hk s L _ (gi_add h x) (fun y hy => hL y (List.mem_cons_of_mem _ hy)), add_fold f hc hk h (hL x List.mem_cons_self)]
    rfl
/-- A normal change does, step by step, what the change does, if it does not matter whether a put or a drop is first. -/
theorem norm_fold (hc : ∀ s c d, f (f s ⟨3, d⟩) ⟨2, c⟩ = f (f s ⟨2, c⟩) ⟨3, d⟩) (hk : ∀ s c, f s ⟨1, c⟩ = f s ⟨1, 0⟩) {l : List Pt} (hp : ∀ p ∈ l, pk p ≠ 0) (s : σ) : foldP f (normL l) s = foldP f l s := by
  rw [norm_gath l hp, gath_fold f hc hk s _ _ gi0 (fun x hx => (stL_so hp x hx).1)]
  rfl
end

/-- Behind a drop bytes are kept. -/
def ND : List Pt → Prop
  | [] => True
  | p :: ps => (p.drop.data.toList ≠ [] → ∀ q qs, ps = q :: qs → 0 < q.keep) ∧ ND ps
theorem nd_snoc {b : Pt} : ∀ {l : List Pt}, ND l → (∀ r p, l = r ++ [p] → p.drop.data.toList ≠ [] → 0 < b.keep) → ND (l ++ [b])
  | [], _, _ => ⟨fun _ q qs e => (by cases e), trivial⟩
  | p :: l, h, hb => by
    refine ⟨fun hd q qs e => ?_, nd_snoc h.2 (fun r p' e => hb (p :: r) p' (by rw [e]; rfl))⟩
    cases l with
    | nil => injection (show [b] = q :: qs from e) with e1 _; rw [← e1]; exact hb [] p rfl hd
    | cons a l => injection (show a :: (l ++ [b]) = q :: qs from e) with e1 _; rw [← e1]; exact h.1 hd a l rfl
theorem nd_endK {g : Gs} (h : ND g.parts) : ND g.endK.parts := by
  unfold Gs.endK
  simp only
  split
  · rename_i h0; exact nd_snoc h (fun _ _ _ _ => kp_pos h0)
  · simpa using h
theorem last_kp {g : Gs} (h : GI g) (h0 : g.keep = 0) : ∀ r p, g.parts = r ++ [p] → p.drop.data.toList ≠ [] → False := by
  intro r p e hd
  rcases h.b h0 with c | ⟨r', n, c, _⟩
  · rw [c] at e; simp at e
  · rw [c] at e
    have := (List.append_inj' e rfl).2
    simp only [List.cons.injEq, and_true] at this
    rw [← this, kpD] at hd
    exact hd rfl
theorem nd_endC {parts : List Pt} {put drop : List UInt8} {k : Nat} (h : ND parts) (hl : (put = [] ∧ drop = []) ∨ ∀ r p, parts = r ++ [p] → p.drop.data.toList ≠ [] → False) : ND (Gs.endC ⟨parts, k, put, drop⟩).parts := by
  unfold Gs.endC
  simp only
  rcases hl with ⟨rfl, rfl⟩ | hl
  · simpa using h
  have h1 : ND (parts ++ (if put = [] then [] else [pp put])) ∧ ∀ r p, parts ++ (if put = [] then [] else [pp put]) = r ++ [p] → p.drop.data.toList ≠ [] → False := by
    split
    · simp only [List.append_nil]; exact ⟨h, hl⟩
    · refine ⟨nd_snoc h (fun r p e hd => (hl r p e hd).elim), fun r p e hd => ?_⟩
      have := (List.append_inj' e rfl).2
      simp only [List.cons.injEq, and_true] at this
      rw [← this, ppD] at hd
      exact hd rfl
  rw [← List.append_assoc]
  by_cases hdr : drop = []
  · rw [if_pos hdr, List.append_nil]; exact h1.1
  · rw [if_neg hdr]; exact nd_snoc h1.1 (fun r p e hd => (h1.2 r p e hd).elim)
theorem nd_endC' {g : Gs} (h : GI g) (hn : ND g.parts) : ND g.endC.parts := by
  refine nd_endC (k := g.keep) hn ?_
  by_cases h0 : g.keep = 0
  · exact .inr (last_kp h h0)
  · exact .inl (h.a (by omega))
theorem nd_add {g : Gs} (h : GI g) (hn : ND g.parts) (x : St) : ND (g.add x).parts := by
  unfold Gs.add
  split
  · exact nd_endC' h hn
  · split
    · exact nd_endK hn
    · split
      · exact nd_endK hn
      · exact hn
theorem nd_gath : ∀ (L : List St) (g : Gs), GI g → ND g.parts → ND (gath g L).parts
  | [], _, _, h => h
  | x :: L, g, h, hn => nd_gath L (g.add x) (gi_add h x) (nd_add h hn x)
theorem nd_out {g : Gs} (h : GI g) (hn : ND g.parts) : ND g.out := by
  unfold Gs.out
  by_cases h0 : g.keep = 0
  · have e : g.endK = ⟨g.parts, 0, g.put, g.drop⟩ := by unfold Gs.endK; simp [h0]
    rw [e]
    exact nd_endC hn (.inr (last_kp h h0))
  · exact nd_endC (k := 0) (nd_endK hn) (.inl (h.a (by omega)))
theorem nd_norm {l : List Pt} (hp : ∀ p ∈ l, pk p ≠ 0) : ND (normL l) := by
  rw [norm_gath l hp]
  exact nd_out (gi_gath _ _ gi0) (nd_gath _ _ gi0 trivial)
theorem gq_norm {l : List Pt} (hp : ∀ p ∈ l, pk p ≠ 0) : ∀ q ∈ normL l, gq q := by
  rw [norm_gath l hp]
  exact gq_out (gq_gath _ _ gq0 (stL_so hp))

/-- A place while steps are taken: how many bytes were taken, how many lie ahead of the place, how many were put since the last one that was kept, and whether the place is passed. -/
structure MvS where
  t : Nat
  a : Nat
  p : Nat
  e : Bool
def mvT (at_ : Nat) (s : MvS) (x : St) : MvS :=
  if s.e then s
  else if x.k = 2 then ⟨s.t, s.a, s.p + 1, false⟩
  else if x.k = 1 then (if at_ ≤ s.t then ⟨s.t, s.a, s.p, true⟩ else ⟨s.t + 1, s.a + (s.p + 1), 0, false⟩)
  else ⟨s.t + 1, s.a, s.p, false⟩
def mv0 : MvS := ⟨0, 0, 0, false⟩
theorem mvT_comm (n : Nat) (s : MvS) (c d : UInt8) : mvT n (mvT n s ⟨3, d⟩) ⟨2, c⟩ = mvT n (mvT n s ⟨2, c⟩) ⟨3, d⟩ := by
  obtain ⟨t, a, p, e⟩ := s
  cases e <;> simp [mvT]
theorem mvT_keep (n : Nat) (s : MvS) (c : UInt8) : mvT n s ⟨1, c⟩ = mvT n s ⟨1, 0⟩ := rfl
theorem mv_end (n : Nat) : ∀ (L : List St) (s : MvS), s.e = true → L.foldl (mvT n) s = s
  | [], _, _ => rfl
  | x :: L, s, h => by
    have : mvT n s x = s := by unfold mvT; rw [if_pos h]
    rw [List.foldl_cons, this, mv_end n L s h]
theorem mv_puts (n : Nat) : ∀ (b : List UInt8) (t a p : Nat), (b.map (fun d => (⟨2, d⟩ : St))).foldl (mvT n) ⟨t, a, p, false⟩ = ⟨t, a, p + b.length, false⟩
  | [], _, _, _ => rfl
  | c :: b, t, a, p => by
    rw [List.map_cons, List.foldl_cons]
    have : mvT n ⟨t, a, p, false⟩ ⟨2, c⟩ = ⟨t, a, p + 1, false⟩ := by simp [mvT]
    rw [this, mv_puts n b]
    simp only [List.length_cons, MvS.mk.injEq, true_and, and_true]
    omega
theorem mv_drops (n : Nat) : ∀ (b : List UInt8) (t a p : Nat), (b.map (fun d => (⟨3, d⟩ : St))).foldl (mvT n) ⟨t, a, p, false⟩ = ⟨t + b.length, a, p, false⟩
  | [], _, _, _ => rfl
  | c :: b, t, a, p => by
    rw [List.map_cons, List.foldl_cons]
    have : mvT n ⟨t, a, p, false⟩ ⟨3, c⟩ = ⟨t + 1, a, p, false⟩ := by simp [mvT]
    rw [this, mv_drops n b]
    simp only [List.length_cons, MvS.mk.injEq, and_true]
    omega
theorem mv_keeps (n : Nat) : ∀ (m t a p : Nat), 0 < m → t + m ≤ n → (List.replicate m (⟨1, 0⟩ : St)).foldl (mvT n) ⟨t, a, p, false⟩ = ⟨t + m, a + p + m, 0, false⟩
  | 0, _, _, _, h, _ => absurd h (by omega)
  | 1, t, a, p, _, h => by simp [mvT, show ¬ n ≤ t by omega]; omega
  | m + 2, t, a, p, _, h => by
    rw [List.replicate_succ, List.foldl_cons]
    have : mvT n ⟨t, a, p, false⟩ ⟨1, 0⟩ = ⟨t + 1, a + (p + 1), 0, false⟩ := by simp [mvT, show ¬ n ≤ t by omega]
    rw [this, mv_keeps n (m + 1) _ _ _ (by omega) (by omega)]
    simp only [MvS.mk.injEq, and_true]
    omega
theorem mv_past (n : Nat) (m t a p : Nat) (hm : 0 < m) (h : n ≤ t) : (List.replicate m (⟨1, 0⟩ : St)).foldl (mvT n) ⟨t, a, p, false⟩ = ⟨t, a, p, true⟩ := by
  obtain ⟨m, rfl⟩ : ∃ m', m = m' + 1 := ⟨m - 1, by omega⟩
  rw [List.replicate_succ, List.foldl_cons]
  have : mvT n ⟨t, a, p, false⟩ ⟨1, 0⟩ = ⟨t, a, p, true⟩ := by simp [mvT, h]
  rw [this, mv_end n _ _ rfl]

/-- Whether a byte is kept among the next m that are taken. -/
def hasK : List Pt → Nat → Bool
  | [], _ => false
  | p :: ps, m => decide (0 < m) && (decide (0 < p.keep) || hasK ps (m - p.drop.size))
/-- The model's way over the parts of a normal change. -/
def gapF (kept : Nat → Bool) (n : Nat) : List Pt → Nat → Nat → Nat → Nat × Nat
  | [], lo, hi, _ => (lo, hi)
  | p :: ps, lo, hi, i =>
    if n < i ∨ (i = n ∧ 0 < p.keep) then (lo, hi)
    else if p.put.data.toList ≠ [] then gapF kept n ps (if i < n ∧ kept i = true then hi + p.put.size else lo) (hi + p.put.size) i
    else if 0 < p.keep then gapF kept n ps (hi + (if n < i + p.keep.toNat then n - i else p.keep.toNat)) (hi + (if n < i + p.keep.toNat then n - i else p.keep.toNat)) (i + p.keep.toNat)
    else gapF kept n ps lo hi (i + p.drop.size)
theorem hasK_zero : ∀ q : List Pt, hasK q 0 = false
  | [] => rfl
  | _ :: _ => by simp [hasK]
/-- The kept of a suffix. -/
def KeptOk (kept : Nat → Bool) (n : Nat) : List Pt → Nat → Prop
  | [], _ => True
  | p :: ps, i => (i < n → kept i = hasK (p :: ps) (n - i)) ∧ KeptOk kept n ps (i + p.keep.toNat + p.drop.size)
theorem gap_fold (kept : Nat → Bool) (n : Nat) : ∀ (q : List Pt) (t a p lo hi i : Nat), (∀ x ∈ q, gq x) → ND q → KeptOk kept n q i → t = i → hi = a + p → (lo = a ∨ hasK q (n - i) = true) → (n < i → ∀ x xs, q = x :: xs → 0 < x.keep) →
    gapF kept n q lo hi i = ((foldP (mvT n) q ⟨t, a, p, false⟩).a, (foldP (mvT n) q ⟨t, a, p, false⟩).a + (foldP (mvT n) q ⟨t, a, p, false⟩).p)
  | [], t, a, p, lo, hi, i, _, _, _, _, hh, hl, _ => by
    rcases hl with hl | hl
    · simp [gapF, foldP_nil, hl, hh]
    · simp [hasK] at hl
  | x :: xs, t, a, p, lo, hi, i, hq, hn, hk, ht, hh, hl, hp => by
    subst ht
    subst hh
    have hq' : ∀ y ∈ xs, gq y := fun y hy => hq y (List.mem_cons_of_mem _ hy)
    have es : foldP (mvT n) (x :: xs) ⟨t, a, p, false⟩ = foldP (mvT n) xs (foldP (mvT n) [x] ⟨t, a, p, false⟩) := by rw [← foldP_app]; rfl
    rw [es]
    have lo_a : n ≤ t → lo = a := fun h => hl.resolve_right (by rw [show n - t = 0 by omega, hasK_zero]; simp)
    rcases hq x List.mem_cons_self with ⟨m, hm, rfl⟩ | ⟨b, hb, _, rfl⟩ | ⟨b, hb, _, rfl⟩
    · have k1 : (kp m).keep = (m : Int) := rfl
      have kd : (kp m).drop.size = 0 := by rw [sz_list, kpD]; rfl
      rw [foldP_kp]
      by_cases hb : n ≤ t
      · rw [mv_past n m t a p hm hb]
        unfold gapF
        rw [if_pos (by rw [k1]; omega)]
        have := mv_end n (stL xs) ⟨t, a, p, true⟩ rfl
        unfold foldP
        rw [this, lo_a hb]
      · unfold gapF
        rw [if_neg (by rw [k1]; omega), if_neg (by rw [kpP]; simp), if_pos (kp_pos hm), k1]
        simp only [Int.toNat_natCast]
        by_cases hc : n < t + m
        · rw [if_pos hc]
          have e1 : (List.replicate m (⟨1, 0⟩ : St)).foldl (mvT n) ⟨t, a, p, false⟩ = ⟨n, a + p + (n - t), 0, true⟩ := by
            have : m = (n - t) + (m - (n - t)) := by omega
            rw [this, ← List.replicate_append_replicate, List.foldl_append, mv_keeps n (n - t) t a p (by omega) (by omega), show t + (n - t) = n by omega, mv_past n _ n _ _ (by omega) (Nat.le_refl _)]
          rw [e1]
          have := mv_end n (stL xs) ⟨n, a + p + (n - t), 0, true⟩ rfl
          unfold foldP
          rw [this]
          cases xs with
          | nil => simp [gapF]
          | cons y ys => unfold gapF; rw [if_pos (.inl (by omega))]; simp
        · rw [if_neg hc, mv_keeps n m t a p hm (by omega)]
          refine gap_fold kept n xs (t + m) (a + p + m) 0 _ _ (t + m) hq' hn.2 ?_ rfl (by omega) (.inl rfl) (fun h => by omega)
          have := hk.2
          rw [k1, kd, Int.toNat_natCast, Nat.add_zero] at this
          exact this
    · have k0 : (pp b).keep = 0 := rfl
      have kd : (pp b).drop.size = 0 := by rw [sz_list, ppD]; rfl
      have kz : (pp b).put.size = b.length := by rw [sz_list, ppP]
      have hnt : ¬ n < t := fun h => by have := hp h _ _ rfl; rw [k0] at this; omega
      rw [foldP_pp, mv_puts]
      unfold gapF
      rw [if_neg (by rw [k0]; omega), if_pos (by rw [ppP]; exact hb), kz]
      have hk2 := hk.2
      rw [k0, kd] at hk2
      refine gap_fold kept n xs t a (p + b.length) _ _ t hq' hn.2 hk2 rfl (by omega) ?_ (fun h => absurd h hnt)
      by_cases hc : t < n
      · have e := hk.1 hc
        have e2 : hasK (pp b :: xs) (n - t) = hasK xs (n - t) := by
          simp [hasK, k0, kd, show 0 < n - t by omega]
        rw [e2] at e hl
        by_cases hh : kept t = true
        · exact .inr (by rw [← e]; exact hh)
        · rw [if_neg (fun c => hh c.2)]
          exact hl
      · rw [if_neg (fun c => hc c.1)]
        exact .inl (lo_a (by omega))
    · have k0 : (dp b).keep = 0 := rfl
      have kz : (dp b).drop.size = b.length := by rw [sz_list, dpD]
      have hnt : ¬ n < t := fun h => by have := hp h _ _ rfl; rw [k0] at this; omega
      rw [foldP_dp, mv_drops]
      unfold gapF
      rw [if_neg (by rw [k0]; omega), if_neg (by rw [dpP]; simp), if_neg (by rw [k0]; omega), kz]
      have hk2 := hk.2
      rw [k0, kz] at hk2
      simp only [Int.toNat_zero, Nat.add_zero] at hk2
      refine gap_fold kept n xs (t + b.length) a p _ _ (t + b.length) hq' hn.2 hk2 rfl rfl ?_ (fun _ y ys e => hn.1 (by rw [dpD]; exact hb) y ys e)
      rcases hl with hl | hl
      · exact .inl hl
      · right
        simp only [hasK, k0, kz, Bool.and_eq_true, decide_eq_true_eq, Bool.or_eq_true] at hl
        rw [show n - (t + b.length) = n - t - b.length by omega]
        exact hl.2.resolve_left (by omega)
end Go.Proofs.YtkjioadmebkaoaaDoor.Doc1

namespace Go.Proofs.YtkjioadmebkaoaaDoor.Doc1
/-- The bytes that a change takes: those that it drops, 0 for those that it keeps. -/
def byL (l : List Pt) : List UInt8 := l.flatMap fun p => List.replicate p.keep.toNat 0 ++ p.drop.data.toList
theorem byL_snoc (l : List Pt) (p : Pt) : byL (l ++ [p]) = byL l ++ (List.replicate p.keep.toNat 0 ++ p.drop.data.toList) := by simp [byL]
theorem byL_cons (l : List Pt) (p : Pt) : byL (p :: l) = (List.replicate p.keep.toNat 0 ++ p.drop.data.toList) ++ byL l := by simp [byL]
theorem byL_len : ∀ (l : List Pt), (∀ p ∈ l, pk p ≠ 0) → ((byL l).length : Int) = tkL l
  | [], _ => rfl
  | p :: l, h => by
    rw [byL_cons, List.length_append, List.length_append, List.length_replicate]
    have ih := byL_len l (fun q hq => h q (List.mem_cons_of_mem _ hq))
    have hk := keep_nn (h p List.mem_cons_self)
    have e : tkL (p :: l) = tk1 p + tkL l := by simp [tkL]
    rw [e, ← ih]
    unfold tk1
    rw [sz_list]
    omega
/-- Whether a byte from a place on up to another one is kept. -/
def kptL (b : List UInt8) (i n : Nat) : Bool := ((b.take n).drop i).any (fun c => decide (c = 0))
theorem kptL_step {b : List UInt8} {i n : Nat} (hi : i < n) (hn : n ≤ b.length) : kptL b i n = (decide (b[i] = 0) || kptL b (i + 1) n) := by
  unfold kptL
  rw [List.drop_eq_getElem_cons (by rw [List.length_take]; omega), List.any_cons, List.getElem_take]
theorem kptL_end (b : List UInt8) (n : Nat) : kptL b n n = false := by
  unfold kptL
  rw [List.drop_eq_nil_of_le (by rw [List.length_take]; omega)]
  rfl


def byT (s : List UInt8) (x : St) : List UInt8 := if x.k = 2 then s else if x.k = 1 then s ++ [0] else s ++ [x.c]
theorem byT_comm (s : List UInt8) (c d : UInt8) : byT (byT s ⟨3, d⟩) ⟨2, c⟩ = byT (byT s ⟨2, c⟩) ⟨3, d⟩ := by simp [byT]
theorem byT_keep (s : List UInt8) (c : UInt8) : byT s ⟨1, c⟩ = byT s ⟨1, 0⟩ := rfl
theorem byT_keeps : ∀ (n : Nat) (s : List UInt8), (List.replicate n (⟨1, 0⟩ : St)).foldl byT s = s ++ List.replicate n 0
  | 0, s => by simp
  | n + 1, s => by
    rw [List.replicate_succ, List.foldl_cons, byT_keeps n]
    simp [byT, List.replicate_succ]
theorem byT_puts : ∀ (b : List UInt8) (s : List UInt8), (b.map (fun c => (⟨2, c⟩ : St))).foldl byT s = s
  | [], s => rfl
  | c :: b, s => by rw [List.map_cons, List.foldl_cons, byT_puts b]; simp [byT]
theorem byT_drops : ∀ (b : List UInt8) (s : List UInt8), (b.map (fun c => (⟨3, c⟩ : St))).foldl byT s = s ++ b
  | [], s => by simp
  | c :: b, s => by rw [List.map_cons, List.foldl_cons, byT_drops b]; simp [byT]
theorem by_fold : ∀ (l : List Pt) (s : List UInt8), foldP byT l s = s ++ byL l
  | [], s => by simp [foldP, stL, byL]
  | p :: l, s => by
    have e : foldP byT (p :: l) s = foldP byT l (foldP byT [p] s) := by rw [← foldP_app]; rfl
    have e2 : foldP byT [p] s = s ++ (List.replicate p.keep.toNat 0 ++ p.drop.data.toList) := by
      unfold foldP stL stp
      simp only [List.flatMap_cons, List.flatMap_nil, List.append_nil, List.foldl_append]
      rw [byT_keeps, byT_puts, byT_drops, List.append_assoc]
    rw [e, e2, by_fold l, byL_cons, List.append_assoc]
theorem by_norm {l : List Pt} (hp : ∀ p ∈ l, pk p ≠ 0) : byL (normL l) = byL l := by
  have := norm_fold byT byT_comm byT_keep hp []
  rw [by_fold, by_fold] at this
  simpa using this
theorem ok_ne0 {c : UInt8} (h : okC c = true) : c ≠ 0 := by rintro rfl; revert h; decide
theorem any_drop : ∀ (b : List UInt8), allOk b = true → ∀ m, (b.take m).any (fun c => decide (c = 0)) = false
  | [], _, m => by simp
  | c :: b, h, 0 => by simp
  | c :: b, h, m + 1 => by
    unfold allOk at h
    simp only [List.all_cons, Bool.and_eq_true] at h
    rw [List.take_succ_cons, List.any_cons, decide_eq_false (ok_ne0 h.1), Bool.false_or]
    exact any_drop b h.2 m
theorem hasK_by : ∀ (q : List Pt), (∀ x ∈ q, gq x) → ∀ m, hasK q m = ((byL q).take m).any (fun c => decide (c = 0))
  | [], _, m => by simp [hasK, byL]
  | x :: q, hq, m => by
    have ih := hasK_by q (fun y hy => hq y (List.mem_cons_of_mem _ hy))
    rw [byL_cons]
    by_cases h0 : m = 0
    · subst h0; rw [hasK_zero]; simp
    unfold hasK
    rw [decide_eq_true (show 0 < m by omega), Bool.true_and, ih]
    rcases hq x List.mem_cons_self with ⟨k, hk, rfl⟩ | ⟨b, hb, ho, rfl⟩ | ⟨b, hb, ho, rfl⟩
    · rw [decide_eq_true (kp_pos hk), Bool.true_or, kpD]
      obtain ⟨k, rfl⟩ : ∃ k', k = k' + 1 := ⟨k - 1, by omega⟩
      obtain ⟨m, rfl⟩ : ∃ m', m = m' + 1 := ⟨m - 1, by omega⟩
      have : (kp (k + 1)).keep.toNat = k + 1 := by show ((k + 1 : Nat) : Int).toNat = k + 1; exact Int.toNat_natCast _
      rw [this, List.append_nil, List.replicate_succ]
      simp
    · have k0 : (pp b).keep = 0 := rfl
      rw [ppD, k0, sz_list, ppD]
      simp
    · have k0 : (dp b).keep = 0 := rfl
      rw [dpD, k0, sz_list, dpD]
      simp only [Int.toNat_zero, List.replicate_zero, List.nil_append, Int.lt_irrefl, decide_false, Bool.false_or]
      rw [List.take_append, List.any_append, any_drop b ho, Bool.false_or]
theorem kept_ok (n : Nat) : ∀ (q : List Pt) (pre : List UInt8), (∀ x ∈ q, gq x) → KeptOk (fun i => kptL (pre ++ byL q) i n) n q pre.length
  | [], _, _ => trivial
  | x :: q, pre, hq => by
    refine ⟨fun hi => ?_, ?_⟩
    · rw [hasK_by (x :: q) hq]
      simp only [kptL]
      rw [List.drop_take, List.drop_append_of_le_length (Nat.le_refl _), List.drop_length, List.nil_append]
    · have := kept_ok n q (pre ++ (List.replicate x.keep.toNat 0 ++ x.drop.data.toList)) (fun y hy => hq y (List.mem_cons_of_mem _ hy))
      rw [byL_cons, ← List.append_assoc]
      rw [List.length_append, List.length_append, List.length_replicate, ← sz_list, ← Nat.add_assoc] at this
      exact this
/-- Where a place comes to: without, and with what is put just there. -/
def mvR (l : List Pt) (n : Nat) : Nat × Nat := ((foldP (mvT n) l mv0).a, (foldP (mvT n) l mv0).a + (foldP (mvT n) l mv0).p)
theorem gap_mv {l : List Pt} (hp : ∀ p ∈ l, pk p ≠ 0) (n : Nat) : gapF (fun i => kptL (byL l) i n) n (normL l) 0 0 0 = mvR l n := by
  have hk := kept_ok n (normL l) [] (gq_norm hp)
  rw [List.nil_append, by_norm hp] at hk
  rw [gap_fold _ n (normL l) 0 0 0 0 0 0 (gq_norm hp) (nd_norm hp) hk rfl rfl (.inl rfl) (fun h => by omega)]
  have := norm_fold (mvT n) (mvT_comm n) (mvT_keep n) hp mv0
  unfold mvR
  rw [← this]
  rfl
theorem gap_stop {kept : Nat → Bool} {n : Nat} {p : Pt} {ps : List Pt} {lo hi i : Nat} (h : n < i ∨ (i = n ∧ 0 < p.keep)) : gapF kept n (p :: ps) lo hi i = (lo, hi) := by
  unfold gapF; rw [if_pos h]
theorem gap_kp1 {kept : Nat → Bool} {n m : Nat} {ps : List Pt} {lo hi i : Nat} (hm : 0 < m) (h : i < n) (hc : n < i + m) : gapF kept n (kp m :: ps) lo hi i = gapF kept n ps (hi + (n - i)) (hi + (n - i)) (i + m) := by
  have e : (kp m).keep.toNat = m := Int.toNat_natCast m
  rw [gapF, if_neg (by omega), if_neg (by rw [kpP]; simp), if_pos (kp_pos hm), e, if_pos hc]
theorem gap_kp2 {kept : Nat → Bool} {n m : Nat} {ps : List Pt} {lo hi i : Nat} (hm : 0 < m) (h : i < n) (hc : ¬ n < i + m) : gapF kept n (kp m :: ps) lo hi i = gapF kept n ps (hi + m) (hi + m) (i + m) := by
  have e : (kp m).keep.toNat = m := Int.toNat_natCast m
  rw [gapF, if_neg (by omega), if_neg (by rw [kpP]; simp), if_pos (kp_pos hm), e, if_neg hc]
theorem gap_pp {kept : Nat → Bool} {n : Nat} {b : List UInt8} {ps : List Pt} {lo hi i : Nat} (hb : b ≠ []) (h : i ≤ n) : gapF kept n (pp b :: ps) lo hi i = gapF kept n ps (if i < n ∧ kept i = true then hi + b.length else lo) (hi + b.length) i := by
  have k0 : (pp b).keep = 0 := rfl
  rw [gapF, if_neg (by rw [k0]; omega), if_pos (by rw [ppP]; exact hb), sz_list, ppP]
theorem gap_dp {kept : Nat → Bool} {n : Nat} {b : List UInt8} {ps : List Pt} {lo hi i : Nat} (h : i ≤ n) : gapF kept n (dp b :: ps) lo hi i = gapF kept n ps lo hi (i + b.length) := by
  have k0 : (dp b).keep = 0 := rfl
  rw [gapF, if_neg (by rw [k0]; omega), if_neg (by rw [dpP]; simp), if_neg (by rw [k0]; omega), sz_list, dpD]
end Go.Proofs.YtkjioadmebkaoaaDoor.Doc1
