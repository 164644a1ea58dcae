/- The contract of impl.pairsOf: what it holds between its rounds. The contract of impl.pairsOf. The contracts of impl.SameTexts and of the model's. The contracts of impl.SameTexts and of the model's, whatever the changes. -/
import Derived.Test.YtbooongkbninhaaDoorCollM
import Derived.Test.YtbooongkbninhaaDoorComp4
import Derived.Test.YtbooongkbninhaaDoorOpW36
import Derived.Sort.QuietIn
import Derived.Test.YtbooongkbninhaaDoorMoveSZ
import Derived.BigQuiet
import Derived.Deep.QuietTactic
namespace Go.Proofs.YtbooongkbninhaaDoor
open Go.RowKit Go.Shelf
open Doc1

attribute [local go_sem] Oper.semAt_some

/-- Pairs as cells. -/
def prV (p : St × St) : List Value := [.int .i64 (p.1.k : Int), .int .u8 (p.1.c.toNat : Int), .int .i64 (p.2.k : Int), .int .u8 (p.2.c.toNat : Int)]
def prC (L : List (St × St)) : List Value := L.flatMap prV
theorem prC_snoc (L : List (St × St)) (p : St × St) : prC (L ++ [p]) = prC L ++ prV p := by simp [prC]
theorem Tryd.infoPair : (Tryd.prog.info? 145).map (fun i => (i.zero, i.size, i.bytes)) = some (some (.agg #[.int .i64 0, .int .u8 0, .int .i64 0, .int .u8 0]), 4, 32) := by kernel_rfl

def PO (Bo Bt Ba : Nat) (vo vS : Value) (k : Nat) : Prop := k ∈ [Bo, Bt, Ba] ∨ vo.ownBlock = some k ∨ vS.ownBlock = some k
structure PKo (Bo Bt Ba : Nat) (vS : Value) (ys : List St) (out : List (St × St)) (at_ : Nat) (vo : Value) (W : World) : Prop where
  bo : Bxd W Bo vo
  bt : Bxd W Bt vS
  ba : Bxd W Ba (.int .i64 (at_ : Int))
  ow : W.ownsRow Bo 145 4 vo out.length (prC out)
  os : W.ownsRow 0 89 2 vS ys.length (stC ys)
  no : ∀ x, vo.ownBlock = some x → x ∉ [Bo, Bt, Ba]
  ns : ∀ x, vS.ownBlock = some x → x ∉ [Bo, Bt, Ba] ∧ vo.ownBlock ≠ some x
def PK (Bo Bt Ba : Nat) (vS : Value) (ys : List St) (out : List (St × St)) (at_ : Nat) (O : Nat → Prop) (W : World) : Prop := ∃ vo, PKo Bo Bt Ba vS ys out at_ vo W ∧ O = PO Bo Bt Ba vo vS
theorem PKo.lt {Bo Bt Ba : Nat} {vS : Value} {ys : List St} {out : List (St × St)} {at_ : Nat} {vo : Value} {W : World} (h : PKo Bo Bt Ba vS ys out at_ vo W) : ∀ k, PO Bo Bt Ba vo vS k → k < W.heap.size := by
  rintro k (hk | hk | hk)
  · simp only [List.mem_cons, List.not_mem_nil, or_false] at hk
    rcases hk with rfl | rfl | rfl
    · exact h.bo.lt
    · exact h.bt.lt
    · exact h.ba.lt
  · exact (h.ow.lt k hk).2
  · exact (h.os.lt k hk).2
theorem PKo.kept {Bo Bt Ba : Nat} {vS : Value} {ys : List St} {out : List (St × St)} {at_ : Nat} {vo : Value} {W W' : World} (h : PKo Bo Bt Ba vS ys out at_ vo W) (hk : ∀ k, PO Bo Bt Ba vo vS k → W'.heap[k]? = W.heap[k]?) : PKo Bo Bt Ba vS ys out at_ vo W' :=
  ⟨h.bo.block (hk _ (.inl (by simp))), h.bt.block (hk _ (.inl (by simp))), h.ba.block (hk _ (.inl (by simp))), own_stays h.ow (fun x hx => hk x (.inr (.inl hx))), own_stays h.os (fun x hx => hk x (.inr (.inr hx))), h.no, h.ns⟩
theorem pK_held (Bo Bt Ba : Nat) (vS : Value) (ys : List St) : Held (fun (s : List (St × St) × Nat) => PK Bo Bt Ba vS ys s.1 s.2) :=
  ⟨fun ⟨_, h, e⟩ k hk => by subst e; exact h.lt k hk, fun ⟨vo, h, e⟩ _ hk => by subst e; exact ⟨vo, h.kept hk, rfl⟩⟩
theorem pJ_held (Bo Bt Ba : Nat) (vS : Value) (ys : List St) : Held (fun (pre : List St) => PK Bo Bt Ba vS ys (prS ys pre).1 (prS ys pre).2) :=
  ⟨fun h => (pK_held Bo Bt Ba vS ys).lt (s := (prS ys _)) h, fun h hs hk => (pK_held Bo Bt Ba vS ys).kept (s := (prS ys _)) h hs hk⟩
/-- One pair more. -/
theorem PKo.out {Bo Bt Ba : Nat} {vS : Value} {ys : List St} {out : List (St × St)} {at_ : Nat} {vo : Value} {W w3 : World} {p : St × St} {gg cap : Nat} (h : PKo Bo Bt Ba vS ys out at_ vo W) (hd : Bo < Bt ∧ Bt < Ba)
    (ho : w3.ownsRow Bo 145 4 (.slice (some ⟨gg, 0, none⟩) (out.length + 1) cap) (out.length + 1) (prC out ++ prV p)) (hg : W.grownBy w3 vo.ownBlock) (hat : vo.ownBlock = some gg ∨ W.heap.size ≤ gg) :
    PKo Bo Bt Ba vS ys (out ++ [p]) at_ (.slice (some ⟨gg, 0, none⟩) (out.length + 1) cap) (w3.setCell ⟨Bo, 0, none⟩ (.slice (some ⟨gg, 0, none⟩) (out.length + 1) cap)) ∧
      Moves (PO Bo Bt Ba vo vS) W (PO Bo Bt Ba (.slice (some ⟨gg, 0, none⟩) (out.length + 1) cap) vS) (w3.setCell ⟨Bo, 0, none⟩ (.slice (some ⟨gg, 0, none⟩) (out.length + 1) cap)) := by
  have l1 := h.bo.lt
  have l2 := h.bt.lt
  have l3 := h.ba.lt
  have hv : ∀ x, (Value.slice (some ⟨gg, 0, none⟩) (out.length + 1) cap).ownBlock = some x → x = gg := fun x hx => by
    have : some gg = some x := hx
    injection this with this; exact this.symm
  have hgn : gg ∉ [Bo, Bt, Ba] := by
    rcases hat with e | e
    · exact h.no gg e
    · simp; omega
  have hgo : gg ≠ Bo := fun e => hgn (by simp [e])
  have same : ∀ k, k ∈ [Bo, Bt, Ba] → k < W.heap.size → w3.heap[k]? = W.heap[k]? := fun k hk hl => hg.block k hl (fun e => h.no k e.symm hk)
  have sS : ∀ x, vS.ownBlock = some x → (w3.setCell ⟨Bo, 0, none⟩ (.slice (some ⟨gg, 0, none⟩) (out.length + 1) cap)).heap[x]? = W.heap[x]? := fun x hx => by
    have := h.ns x hx
    exact (Below.heap_setCell _ _ _ _ (fun e => this.1 (by simp [e]))).trans (hg.block x (h.os.lt x hx).2 (fun e => this.2 e.symm))
  have hgS : ∀ x, vS.ownBlock = some x → x ≠ gg := fun x hx e => by
    subst e
    rcases hat with c | c
    · exact (h.ns x hx).2 c
    · have := (h.os.lt x hx).2; omega
  refine ⟨⟨(h.bo.block (same Bo (by simp) l1)).set _, (h.bt.block (same Bt (by simp) l2)).other (by omega) _, (h.ba.block (same Ba (by simp) l3)).other (by omega) _, ?_, own_stays h.os sS, fun x hx => by rw [hv x hx]; exact hgn, fun x hx => ⟨(h.ns x hx).1, fun c => hgS x hx (hv x c)⟩⟩, ?_⟩
  · rw [prC_snoc, List.length_append]
    exact own_stays ho (fun x hx => by rw [hv x hx]; exact Below.heap_setCell _ _ _ _ hgo)
  · refine ⟨hg.os, hg.tape, hg.output, by simpa using hg.size, fun k hk no => ?_, fun k hk c => ?_⟩
    · exact (Below.heap_setCell _ _ _ _ (fun e => no (.inl (by simp [e])))).trans (hg.block k hk (fun e => no (.inr (.inl e.symm))))
    · rcases c with c | c | c
      · exact .inl c
      · have := hv k c
        rcases hat with e | e
        · exact .inr (.inl (this ▸ e))
        · omega
      · exact .inr (.inr c)
/-- The other change's place goes on. -/
theorem PKo.on {Bo Bt Ba : Nat} {vS : Value} {ys : List St} {out : List (St × St)} {at_ : Nat} {vo : Value} {W : World} (h : PKo Bo Bt Ba vS ys out at_ vo W) (hd : Bo < Bt ∧ Bt < Ba) :
    PKo Bo Bt Ba vS ys out (at_ + 1) vo (W.setCell ⟨Ba, 0, none⟩ (.int .i64 ((at_ : Int) + 1))) ∧ Moves (PO Bo Bt Ba vo vS) W (PO Bo Bt Ba vo vS) (W.setCell ⟨Ba, 0, none⟩ (.int .i64 ((at_ : Int) + 1))) := by
  refine ⟨⟨h.bo.other (by omega) _, h.bt.other (by omega) _, ?_, own_stays h.ow (fun x hx => Below.heap_setCell _ _ _ _ (fun e => h.no x hx (by simp [e]))), own_stays h.os (fun x hx => Below.heap_setCell _ _ _ _ (fun e => (h.ns x hx).1 (by simp [e]))), h.no, h.ns⟩, (Moves.refl _ _).setCell (fun _ => .inl (by simp)) _⟩
  have := h.ba.set (.int .i64 ((at_ : Int) + 1))
  rw [show ((at_ + 1 : Nat) : Int) = (at_ : Int) + 1 by omega]
  exact this
theorem operIn_wid {n : Nat} {P : Program} {o : Oper} {a : Act} {w : World} {K : Act → World → Prop} {Q : Exit → Act → World → Prop} (hd : ∀ c, o.op ≠ .defer c) (h : o.wp P a w K Q) : o.wpIn Fence.wide n P a w K Q := by
  refine ⟨fun _ _ => trivial, ?_⟩
  rw [Oper.semAt_eq _ _ _ hd]
  unfold Oper.wp at h
  revert h
  generalize (execOp a.eval o).run P w = r
  intro h
  match r, h with
  | .ok (.value _) _, h => exact h
  | .ok .skip _, h => exact h
  | .ok (.defer _) _, h => exact h
  | .ok (.enter _ _) _, h => exact ⟨fun c => (by cases c), callsIn_wide.2 h⟩
  | .ok (.row _ _) _, h => exact ⟨fun c => (by cases c), fun c cs _ => let ⟨v, w', r, s⟩ := h c cs; ⟨v, w', r, stepsIn_wide.2 s⟩⟩
  | .halt (.panic _) _, h => exact h
/-- A row grows by an append behind the loop. -/
theorem listWide_app {n' : Nat} {P : Program} (w : World) {ops : Array Oper} {rest : List Oper} {o : Oper} {a : Act} {Q : Exit → Act → World → Prop} (hgd : o.guard = none) (s x : Operand) (t : TypeId)
    (ho : o.op = .call { callee := .builtin .append, args := #[s, x], argTypes := #[t, t] }) (B : Nat) (e : TypeId) (i : TypeInfo) (z : Value) (size bytes : Nat) (ht : P.underlying t = some (.slice e)) (hi : P.info? e = some i) (hz : i.zero = some z)
    (hsize : i.size = size) (hby : i.bytes = bytes) (hzs : z.cells.size = size) (hsz : 0 < size) (v : Value) (n : Nat) (xs : List Value) (hs : a.eval s = v) (hown : w.ownsRow B e size v n xs)
    (ad : Addr) (m c : Nat) (news : List Value) (hx : a.eval x = .slice (some ad) m c) (hl : news.length = m * size) (hnews : ∀ j u, news[j]? = some u → w.cell? (ad.add j) = some u) (h1 : ∀ u ∈ news, u.oneCell' = true)
    (hm : 0 < m) (h63 : n + m ≤ maxLen) (hbytes : (n + m) * bytes ≤ 140737488355328) (hB : B ≤ w.heap.size) (H : Nat) (hH : w.heap.size = H)
    (h : ∀ g cap w', w'.ownsRow B e size (.slice (some ⟨g, 0, none⟩) (n + m) cap) (n + m) (xs ++ news) → w.grownBy w' v.ownBlock → (v.ownBlock = some g ∨ g = H) → wpListIn Fence.wide n' P ops Q rest (a.put o.dst (.slice (some ⟨g, 0, none⟩) (n + m) cap)) w') :
    wpListIn Fence.wide n' P ops Q (o :: rest) a w :=
  wpListIn_plain hgd fun K hK => operIn_wid (by rw [ho]; intro c hc; cases hc)
    (wp_append_lies w s x t ho B e i z size bytes ht hi hz hsize hby hzs hsz v n xs hs hown ad m c news hx hl hnews h1 hm h63 hbytes hB H hH (fun g cap w' h1 h2 h3 _ => hK _ _ (h g cap w' h1 h2 h3)))
end Go.Proofs.YtbooongkbninhaaDoor

namespace Go.Proofs.YtbooongkbninhaaDoor
open Go.RowKit Go.Shelf
open Doc1

attribute [local go_sem] Oper.semAt_some

/-- The number in a box. -/
def atOf (W : World) (B : Nat) : Nat := match W.cell? ⟨B, 0, none⟩ with | some v => (intOf v).toNat | none => 0
theorem grown_alp {w w2 : World} {ob : Obj} {row : Option Nat} (h : (w.alloc ob).drew.grownBy w2 row) : w.grownBy w2 row :=
  ⟨h.os, h.tape, h.output, by have : (w.alloc ob).heap.size ≤ w2.heap.size := h.size
                              simp at this; omega, fun k hk hn => (h.block k (by show k < (w.alloc ob).heap.size; simp; omega) hn).trans (Below.heap_alloc w ob k hk)⟩

set_option maxRecDepth 100000 in
set_option maxHeartbeats 8000000 in
theorem pairsI_good {w : World} {aa ab : Option Addr} {ga ca gb cb : Nat} {la lb : List Pt} (ha : Pin w aa ga ca la) (hb : Pin w ab gb cb lb) (hT : Tab w) (hga : goodO la = true) (hgb : goodO lb = true) (htk : tkL la = tkL lb) :
    Calls Tryd.prog 97 #[.slice aa la.length ca, .slice ab lb.length cb] w fun e w' => ∃ v, e = .returned (.tuple #[v, .bool true]) ∧ w'.ownsRow w.heap.size 145 4 v (prF (stL la) (stL lb)).length (prC (prF (stL la) (stL lb))) ∧ Below w.heap.size w w' := by
  have SA := hide (fun w' (h : Below w.heap.size w w') => sizesI_any (ha.later h) (hT.below h))
  have SB := hide (fun w' (h : Below w.heap.size w w') => sizesI_any (hb.later h) (hT.below h))
  have hsA : szT la = tkL la := by unfold szT; rw [hga]; rfl
  have hsB : szT lb = tkL la := by unfold szT; rw [hgb, htk]; rfl
  rw [hga, hsA] at SA
  rw [hgb, hsB] at SB
  have hpa := goodO_pk hga
  have hpb := goodO_pk hgb
  have sa := st_len hga
  have sb := st_len hgb
  have hct : ctk (stL la) = ctk (stL lb) := by
    have h1 := (stL_sums la hpa).1
    have h2 := (stL_sums lb hpb).1
    omega
  have SO := hide (fun v w' a len cap hv => stepsOf_any v w' a len cap hv)
  have HA := hide ha
  have HB := hide hb
  have hHT := hide hT
  have CO := hide (fun (w' : World) (Bs : Nat) (h : Below w.heap.size w w') (hc : w'.cell? ⟨Bs, 0, none⟩ = some (.slice ab lb.length cb)) (hl : Bs < w'.heap.size) => collect_any (hb.later h) (hT.below h) hc hl hpb sb)
  have ltT := hT.lt
  have ltA := ha.lt
  have ltB := hb.lt
  clear ha hb hT hga hgb hsA hsB htk
  generalize tkL la = tk at *
  obtain ⟨F, hF⟩ : ∃ F, F = prF (stL la) (stL lb) := ⟨_, rfl⟩
  rw [← hF]
  have HF0 := hide hF
  clear hF
  have hdep : Fence.wide.depth = none := rfl
  refine (callsIn_wide (n := 6)).1 ?_
  refine callsIn_of_wp_marks Tryd.func97 rfl trivial ?_ rfl
  simp only [Tryd.ntmps97, List.size_toArray, List.length_cons, List.length_nil, Nat.reduceAdd, Nat.reduceSub, Array.replicate_succ, Array.replicate_zero, List.push_toArray, List.append_toArray, List.nil_append, List.cons_append]
  have hb0 := Below.refl w.heap.size w
  gi_wp2_with fail
  refine ⟨trivial, ?_⟩
  gi_at_call 25
  refine (callsIn_wide.2 (SA.out _ hb0)).mono ?_
  rintro e w1 ⟨rfl, hb1⟩
  gi_wp2_with fail
  refine ⟨trivial, ?_⟩
  gi_at_call 25
  refine (callsIn_wide.2 (SB.out _ hb1)).mono ?_
  rintro e w2 ⟨rfl, hb'⟩
  have hb2 := hb1.trans (hb'.mono hb1.size)
  clear hb' hb1 SA SB hb0
  gi_wp2_with fail
  refine ⟨trivial, ?_⟩
  gi_at_call 51
  refine (callsIn_wide.2 (SO.out _ _ _ _ _ rfl)).mono ?_
  rintro e w' ⟨rfl, hw⟩
  replace hw := hw.symm; subst hw
  gi_wp2_with fail
  obtain ⟨W3, hW3⟩ : ∃ W3, W3 = (w2.alloc (.cells #[.slice none 0 0] 136)).alloc (.cells #[.slice ab lb.length cb] 23) := ⟨_, rfl⟩
  have b0 : Bxd W3 w2.heap.size (.slice none 0 0) := by rw [hW3]; exact (bxd_new w2 _ _).up ((Below.refl _ _).alloc (Nat.le_refl _) _)
  have b1 : Bxd W3 (w2.heap.size + 1) (.slice ab lb.length cb) := by
    rw [hW3]
    have := bxd_new (w2.alloc (.cells #[.slice none 0 0] 136)) (.slice ab lb.length cb) 23
    rw [World.size_alloc] at this
    exact this
  have hb3 : Below w2.heap.size w2 W3 := by rw [hW3]; exact ((Below.refl _ _).alloc (Nat.le_refl _) _).alloc (by simp) _
  have hs3 : W3.heap.size = w2.heap.size + 2 := by rw [hW3]; simp
  have hbw3 := hb2.trans (hb3.mono hb2.size)
  have hs2 := hb2.size
  rw [← hW3]
  clear hW3
  refine ⟨trivial, ?_⟩
  gi_at_call 116
  refine (callsIn_wide.2 (CO.out W3 (w2.heap.size + 1) hbw3 b1.cell b1.lt)).mono ?_
  rintro e w4 ⟨vS, rfl, oS, hb4⟩
  have hs4 := hb4.size
  have q0 := b0.up hb4
  have hbw4 := hbw3.trans (hb4.mono hbw3.size)
  obtain ⟨aS, cS, rfl, hS1, hS2⟩ := own_shp oS
  clear CO b0 b1 hb3 hbw3
  gi_wp2_with fail
  refine ⟨trivial, ?_⟩
  gi_at_call 51
  refine (callsIn_wide.2 (SO.out _ _ _ _ _ rfl)).mono ?_
  rintro e w' ⟨rfl, hw⟩
  replace hw := hw.symm; subst hw
  clear SO
  gi_wp2_with fail
  refine three_boxes (Φ := fun W2 => Code.wpIn _ _ _ _ _ _ W2) ?_
  intro W2 hB2 hsz2 bt ba bq
  have hbW : Below w.heap.size w W2 := hbw4.trans (hB2.mono hbw4.size)
  have pin2 := HA.out.later hbW
  have tab2 := hHT.out.below hbW
  have hd : w2.heap.size < w4.heap.size ∧ w4.heap.size < w4.heap.size + 1 := by omega
  have oS2 := own_mono (own_below oS hB2) (Nat.zero_le _)
  have hSb : ∀ x, (Value.slice aS (stL lb).length cS).ownBlock = some x → w2.heap.size + 2 ≤ x ∧ x < w4.heap.size := fun x hx => by have := oS.lt x hx; omega
  have hJ := pJ_held w2.heap.size w4.heap.size (w4.heap.size + 1) (.slice aS (stL lb).length cS) (stL lb)
  have start : PKo w2.heap.size w4.heap.size (w4.heap.size + 1) (.slice aS (stL lb).length cS) (stL lb) [] 0 (.slice none 0 0) W2 :=
    ⟨q0.up hB2, bt, ba, World.ownsRow_nil _ _ _ _, oS2, fun x hx => (by cases hx), fun x hx => ⟨by have := hSb x hx; simp; omega, fun c => by cases c⟩⟩
  have hmix : Tryd.prog.follows .mixedOrders = true := by kernel_rfl
  refine wpIn_range rfl (enters_of Tryd.func78 (by kernel_rfl) rfl) (steps_iter pin2 tab2 bq.cell hpa) (fun _ => rfl)
    (J := (fun (pre : List St) => PK w2.heap.size w4.heap.size (w4.heap.size + 1) (.slice aS (stL lb).length cS) (stL lb) (prS (stL lb) pre).1 (prS (stL lb) pre).2)) (Jx := fun _ _ _ _ => False) (O := PO w2.heap.size w4.heap.size (w4.heap.size + 1) (.slice none 0 0) (.slice aS (stL lb).length cS)) hJ (fun _ => no_held) (Nat.le_refl _)
    (by
      have nOld : ∀ k, k < w2.heap.size → ¬ PO w2.heap.size w4.heap.size (w4.heap.size + 1) (.slice none 0 0) (.slice aS (stL lb).length cS) k := by
        rintro k hk (c | c | c)
        · simp at c; omega
        · cases c
        · have := hSb k c; omega
      rintro k (rfl | rfl | rfl)
      · refine ⟨by omega, rfl, ?_⟩
        rintro (c | c | c)
        · simp at c; omega
        · cases c
        · have := hSb _ c; omega
      · exact ⟨by omega, rfl, nOld _ (by omega)⟩
      · exact ⟨by omega, rfl, nOld _ (by omega)⟩)
    ⟨_, start, rfl⟩
    (xAx_held hJ (fun x Bx => { tmps := #[.slice aa la.length ca, .slice ab lb.length cb, undef, undef, .slice none 0 0, .bool false, .int .i64 tk, .int .i64 (szM la), .bool true, .int .i64 tk, .int .i64 (szM lb), .bool true, .pointer (some ⟨w2.heap.size, 0, none⟩), .pointer (some ⟨w4.heap.size, 0, none⟩), .pointer (some ⟨w4.heap.size + 1, 0, none⟩), .pointer (some ⟨Bx, 0, none⟩), undef, undef, .tuple #[.int .i64 tk, .int .i64 (szM la), .bool true], .slice aa la.length ca, .tuple #[.int .i64 tk, .int .i64 (szM la), .bool true], .int .i64 tk, .int .i64 (szM la), .bool true, .tuple #[.int .i64 tk, .int .i64 (szM lb), .bool true], .slice ab lb.length cb, .tuple #[.int .i64 tk, .int .i64 (szM lb), .bool true], .int .i64 tk, .int .i64 (szM lb), .bool true, .bool true, .bool false, .bool false, .bool true, .bool false, .bool false, .bool false, .int .i64 tk, .int .i64 tk, .bool false, .bool false, .slice ab lb.length cb, .func (.func 78) #[] #[.pointer (some ⟨w2.heap.size + 1, 0, none⟩)], .slice aS (stL lb).length cS, .slice aa la.length ca, .func (.func 78) #[] #[.pointer (some ⟨w4.heap.size + 1 + 1, 0, none⟩)], .agg #[.int .i64 (x.k : Int), .int .u8 (x.c.toNat : Int)], undef, undef, undef, undef, undef, undef, undef, undef, undef, undef, undef, undef, undef, undef, undef, undef, undef, undef, undef, undef, undef, undef, undef, undef, undef, undef, undef, undef, undef, undef, undef, undef, undef, undef, undef, undef, undef, undef, undef, undef, undef, undef, undef, undef, undef, undef, undef, undef, undef, undef], defers := [] }))
    ?assigned ?round ?done ?stop
  case assigned =>
    rintro l1 pre x O W K hj hx hK
    have hbx := box2_new W (.int .i64 (x.k : Int)) (.int .u8 (x.c.toNat : Int))
    simp only [stE, stV]
    gi_wp2
    exact hK _ _ _ ((Moves.refl _ _).alloc _) ⟨O, W.heap.size, hJ.up hj ((Below.refl _ _).alloc (Nat.le_refl _) _), fun _ => Iff.rfl, fun c => absurd (hJ.lt hj _ c) (by omega), hbx _, rfl⟩
  case round =>
    rintro l1 pre x a' O W ⟨O1, Bx, ⟨vo, hP, rfl⟩, hB, hnB, hbx, rfl⟩ hl1 hnl hx
    have hso := (stL_so hpa x (hx.subset (by simp))).1
    have hlen : pre.length + 1 ≤ 600 := by have := pre_len hx; simp at this; omega
    have hcx := ctk_pre hx
    have hI := prI_of (ys := stL lb) (pre := pre) (by rw [ctk_app] at hcx; omega)
    have hsn := prS_snoc (stL lb) pre x
    have hout : (prS (stL lb) pre).1.length ≤ 1200 := by have := hI.sz; have := hI.le; omega
    obtain ⟨u0, hu0, hz0, hz1, hz2⟩ := info_parts Tryd.infoPair
    obtain ⟨c0, c1⟩ := hbx.cells
    have HB := hide hB
    have ltx := hbx.lt
    have MV : Hid (∀ O' W', Moves (PO w2.heap.size w4.heap.size (w4.heap.size + 1) vo (.slice aS (stL lb).length cS)) W O' W' → Moves O W O' W') := hide (fun O' W' m => m.wider (fun k _ c => (HB.out k).2 (.inl c)) (fun k hk c => (HB.out k).2 (.inl (m.own k hk c))))
    clear hB hnl hl1
    obtain ⟨xk, xc⟩ := x
    by_cases hx2 : xk = 2
    · subst hx2
      have e : prS (stL lb) (pre ++ [(⟨2, xc⟩ : St)]) = ((prS (stL lb) pre).1 ++ [((⟨2, xc⟩ : St), z0s)], (prS (stL lb) pre).2) := by rw [hsn]; simp [prT]
      have HE := hide e
      generalize hpr : prS (stL lb) pre = pr at *
      clear hpr e hsn hcx hso hI
      obtain ⟨out, at'⟩ := pr
      simp only at hout hP HE
      have HP := hide hP
      have e0 := hP.bo.cell
      have f0 := hP.bo.fz
      have lt0 := hP.bo.lt
      have ne0 : vo.ownBlock ≠ some w2.heap.size := fun c => hP.no _ c (by simp)
      clear hP hbx
      gi_wp2_with (gi_at_builtin; refine listIn_app _ rfl _ _ 136 rfl w2.heap.size 145 u0 _ 4 32 Tryd.underlying136 hu0 hz0 hz1 hz2 rfl (by omega) vo out.length (prC out) rfl (HP.out.ow.alloc _) ⟨W.heap.size, 0, none⟩ 1 1 [.int .i64 2, .int .u8 (xc.toNat : Int), .int .i64 0, .int .u8 0] rfl rfl (World.news_of_block (cs := #[.int .i64 2, .int .u8 (xc.toNat : Int), .int .i64 0, .int .u8 0]) (t := 145) (fr := (0, 0)) (heap_alloc_new W _)) (by simp [Value.oneCell']) (by omega) (by unfold maxLen; omega) (by omega) (by simp; omega) (W.heap.size + 1) (by simp) ?_; intro gg cap' w5 hown1 hgrow hat; have hcz := (hgrow.cell_far ⟨w2.heap.size, 0, none⟩ (by simp; omega) (Ne.symm ne0)).trans (World.cell?_of_block (Below.heap_alloc W _ _ lt0) |>.trans e0); have hfz := (hgrow.frozen_far ⟨w2.heap.size, 0, none⟩ (by simp; omega) (Ne.symm ne0)).trans (World.frozen?_of_block (Below.heap_alloc W _ _ lt0) |>.trans f0))
      obtain ⟨A1, A2⟩ := HP.out.out (p := ((⟨2, xc⟩ : St), z0s)) hd hown1 (grownBy_al hgrow) (hat.imp id (fun e => by omega))
      refine ⟨_, MV.out _ _ A2, _, ?_, rfl⟩
      rw [HE.out]
      exact A1
    · have hle : ctk (pre ++ [(⟨xk, xc⟩ : St)]) ≤ ctk (stL lb) := by omega
      obtain ⟨hnx, hny⟩ := pr_next hI.le hI.ct hx2 hle
      have hgd : ((stL lb).drop (prS (stL lb) pre).2).getD (nP ((stL lb).drop (prS (stL lb) pre).2)) z0s = (stL lb)[(prS (stL lb) pre).2 + nP ((stL lb).drop (prS (stL lb) pre).2)] := by
        rw [List.getD_eq_getElem?_getD, List.getElem?_drop, List.getElem?_eq_getElem hnx]; rfl
      have e : prS (stL lb) (pre ++ [(⟨xk, xc⟩ : St)]) = ((prS (stL lb) pre).1 ++ (((stL lb).drop (prS (stL lb) pre).2).take (nP ((stL lb).drop (prS (stL lb) pre).2))).map (fun y => (z0s, y)) ++ [((⟨xk, xc⟩ : St), (stL lb)[(prS (stL lb) pre).2 + nP ((stL lb).drop (prS (stL lb) pre).2)])], (prS (stL lb) pre).2 + nP ((stL lb).drop (prS (stL lb) pre).2) + 1) := by
        rw [hsn]; unfold prT; rw [if_neg hx2, hgd]
      have HE := hide e
      have hPut := fun j hj => nP_at ((stL lb).drop (prS (stL lb) pre).2) j hj
      have hAt := hI.le
      generalize hpr : prS (stL lb) pre = pr at *
      clear hpr e hsn hcx hI hgd hle
      obtain ⟨out0, at0⟩ := pr
      simp only at hout hP HE hnx hny hPut hAt
      generalize hn : nP ((stL lb).drop at0) = n at *
      clear hn
      have hyl : 0 < (stL lb).length := by omega
      obtain ⟨gS, cS', ev, -, -, -⟩ := steps_row hP.os hyl
      cases ev
      have hk2 : ((xk : Int) == 2) = false := by
        rw [beq_eq_false_iff_ne]; omega
      have hxk : xk ≤ 3 := by rcases hso with e | e | e <;> simp only at e <;> omega
      have HPS := hide hP
      have HPUT := hide hPut
      have HNY := hide hny
      have HBX := hide hbx
      clear hP hbx hPut hso hny
      gi_wp2
      gi_loopw [70] (fun _ wr => ∃ (j : Nat) (O' : Nat → Prop), j ≤ n ∧ PK w2.heap.size w4.heap.size (w4.heap.size + 1) (.slice (some ⟨gS, 0, none⟩) (stL lb).length cS) (stL lb) (out0 ++ (((stL lb).drop at0).take j).map (fun y => (z0s, y))) (at0 + j) O' wr ∧ Moves (PO w2.heap.size w4.heap.size (w4.heap.size + 1) vo (.slice (some ⟨gS, 0, none⟩) (stL lb).length cS)) W O' wr) (fun _ wr => n - (atOf wr (w4.heap.size + 1) - at0))
      case atStart => exact ⟨0, _, by omega, ⟨vo, by simpa using HPS.out, rfl⟩, Moves.refl _ _⟩
      case round =>
        obtain ⟨j, O', hj, ⟨vo1, hP, rfl⟩, mv⟩ := hrel
        have hjl : at0 + j < (stL lb).length := by omega
        obtain ⟨gS', cS'', ev, -, hcm, hrow⟩ := steps_row hP.os hyl
        cases ev
        obtain ⟨r0, r1⟩ := hrow (at0 + j) hjl
        have hbx := HBX.out.block (mv.same Bx ltx hnB)
        have nBx : ¬ PO w2.heap.size w4.heap.size (w4.heap.size + 1) vo1 (.slice (some ⟨gS, 0, none⟩) (stL lb).length cS) Bx := fun c => hnB (mv.own Bx ltx c)
        have ltx' : Bx < wr.heap.size := hbx.lt
        obtain ⟨c0', c1'⟩ := hbx.cells
        have hgL : gS < wr.heap.size := (hP.os.lt gS rfl).2
        have hns := hP.ns gS rfl
        obtain ⟨out, hout1⟩ : ∃ o, o = out0 ++ (((stL lb).drop at0).take j).map (fun y => (z0s, y)) := ⟨_, rfl⟩
        obtain ⟨at', hat1⟩ : ∃ a, a = at0 + j := ⟨_, rfl⟩
        have hol : out.length ≤ 2000 := by rw [hout1]; simp; omega
        rw [← hout1, ← hat1] at hP
        have hy : ∃ y, (stL lb)[at0 + j] = y := ⟨_, rfl⟩
        obtain ⟨⟨yk, yc⟩, hy⟩ := hy
        rw [hy, ← hat1] at r0 r1
        simp only at r0 r1
        have hatl : at' < (stL lb).length := by omega
        have hatI : (at' : Int) < ((stL lb).length : Int) := by omega
        have e0 := hP.bo.cell
        have f0 := hP.bo.fz
        have lt0 := hP.bo.lt
        have et := hP.bt.cell
        have ea := hP.ba.cell
        have ltt := hP.bt.lt
        have lta := hP.ba.lt
        have ne0 : vo1.ownBlock ≠ some w2.heap.size := fun c => hP.no _ c (by simp)
        have net : vo1.ownBlock ≠ some w4.heap.size := fun c => hP.no _ c (by simp)
        have nea : vo1.ownBlock ≠ some (w4.heap.size + 1) := fun c => hP.no _ c (by simp)
        have neg : vo1.ownBlock ≠ some gS := hns.2
        have nex : vo1.ownBlock ≠ some Bx := fun c => nBx (.inr (.inl c))
        have nb0 : Bx ≠ w2.heap.size := fun c => nBx (.inl (by simp [c]))
        have ng0 : gS ≠ w2.heap.size := fun c => hns.1 (by simp [c])
        have HP := hide hP
        have FAR : Hid (∀ (ob : Obj) (w5 : World), (wr.alloc ob).drew.grownBy w5 vo1.ownBlock → w5.cell? ⟨w4.heap.size, 0, none⟩ = some (.slice (some ⟨gS, 0, none⟩) (stL lb).length cS) ∧ w5.cell? ⟨w4.heap.size + 1, 0, none⟩ = some (.int .i64 (at' : Int)) ∧ w5.cell? ⟨gS, at' * 2, none⟩ = some (.int .i64 (yk : Int)) ∧ w5.cell? ⟨gS, at' * 2 + 1, none⟩ = some (.int .u8 (yc.toNat : Int)) ∧ w5.cell? ⟨Bx, 0, none⟩ = some (.int .i64 (xk : Int)) ∧ w5.cell? ⟨Bx, 1, none⟩ = some (.int .u8 (xc.toNat : Int))) := hide (fun ob w5 hg =>
          ⟨(hg.cell_far ⟨w4.heap.size, 0, none⟩ (by simp; omega) (Ne.symm net)).trans (cl_al wr ob _ et), (hg.cell_far ⟨w4.heap.size + 1, 0, none⟩ (by simp; omega) (Ne.symm nea)).trans (cl_al wr ob _ ea), (hg.cell_far ⟨gS, at' * 2, none⟩ (by simp; omega) (Ne.symm neg)).trans (cl_al wr ob _ r0), (hg.cell_far ⟨gS, at' * 2 + 1, none⟩ (by simp; omega) (Ne.symm neg)).trans (cl_al wr ob _ r1), (hg.cell_far ⟨Bx, 0, none⟩ (by simp; omega) (Ne.symm nex)).trans (cl_al wr ob _ c0'), (hg.cell_far ⟨Bx, 1, none⟩ (by simp; omega) (Ne.symm nex)).trans (cl_al wr ob _ c1')⟩)
        have ALC : Hid (∀ ob : Obj, (wr.alloc ob).drew.cell? ⟨w4.heap.size, 0, none⟩ = some (.slice (some ⟨gS, 0, none⟩) (stL lb).length cS) ∧ (wr.alloc ob).drew.cell? ⟨w4.heap.size + 1, 0, none⟩ = some (.int .i64 (at' : Int)) ∧ (wr.alloc ob).drew.cell? ⟨gS, at' * 2, none⟩ = some (.int .i64 (yk : Int)) ∧ (wr.alloc ob).drew.cell? ⟨gS, at' * 2 + 1, none⟩ = some (.int .u8 (yc.toNat : Int)) ∧ (wr.alloc ob).drew.cell? ⟨Bx, 0, none⟩ = some (.int .i64 (xk : Int)) ∧ (wr.alloc ob).drew.cell? ⟨Bx, 1, none⟩ = some (.int .u8 (xc.toNat : Int))) := hide (fun ob => ⟨cl_al wr ob _ et, cl_al wr ob _ ea, cl_al wr ob _ r0, cl_al wr ob _ r1, cl_al wr ob _ c0', cl_al wr ob _ c1'⟩)
        have SET : Hid (∀ (w5 : World) (v : Value), (fun w' => w'.cell? ⟨w4.heap.size, 0, none⟩ = some (.slice (some ⟨gS, 0, none⟩) (stL lb).length cS) ∧ w'.cell? ⟨w4.heap.size + 1, 0, none⟩ = some (.int .i64 (at' : Int)) ∧ w'.cell? ⟨gS, at' * 2, none⟩ = some (.int .i64 (yk : Int)) ∧ w'.cell? ⟨gS, at' * 2 + 1, none⟩ = some (.int .u8 (yc.toNat : Int)) ∧ w'.cell? ⟨Bx, 0, none⟩ = some (.int .i64 (xk : Int)) ∧ w'.cell? ⟨Bx, 1, none⟩ = some (.int .u8 (xc.toNat : Int))) w5 → (fun w' => w'.cell? ⟨w4.heap.size, 0, none⟩ = some (.slice (some ⟨gS, 0, none⟩) (stL lb).length cS) ∧ w'.cell? ⟨w4.heap.size + 1, 0, none⟩ = some (.int .i64 (at' : Int)) ∧ w'.cell? ⟨gS, at' * 2, none⟩ = some (.int .i64 (yk : Int)) ∧ w'.cell? ⟨gS, at' * 2 + 1, none⟩ = some (.int .u8 (yc.toNat : Int)) ∧ w'.cell? ⟨Bx, 0, none⟩ = some (.int .i64 (xk : Int)) ∧ w'.cell? ⟨Bx, 1, none⟩ = some (.int .u8 (xc.toNat : Int))) (w5.setCell ⟨w2.heap.size, 0, none⟩ v)) := hide (fun w5 v h => by
          obtain ⟨h1, h2, h3, h4, h5, h6⟩ := h
          have o : ∀ b i, b ≠ w2.heap.size → (w5.setCell ⟨w2.heap.size, 0, none⟩ v).cell? ⟨b, i, none⟩ = w5.cell? ⟨b, i, none⟩ := fun b i hb => World.cell?_of_block (Below.heap_setCell _ _ _ _ hb)
          exact ⟨(o _ _ (by omega)).trans h1, (o _ _ (by omega)).trans h2, (o _ _ ng0).trans h3, (o _ _ ng0).trans h4, (o _ _ nb0).trans h5, (o _ _ nb0).trans h6⟩)
        have hS : (fun w' => w'.cell? ⟨w4.heap.size, 0, none⟩ = some (.slice (some ⟨gS, 0, none⟩) (stL lb).length cS) ∧ w'.cell? ⟨w4.heap.size + 1, 0, none⟩ = some (.int .i64 (at' : Int)) ∧ w'.cell? ⟨gS, at' * 2, none⟩ = some (.int .i64 (yk : Int)) ∧ w'.cell? ⟨gS, at' * 2 + 1, none⟩ = some (.int .u8 (yc.toNat : Int)) ∧ w'.cell? ⟨Bx, 0, none⟩ = some (.int .i64 (xk : Int)) ∧ w'.cell? ⟨Bx, 1, none⟩ = some (.int .u8 (xc.toNat : Int))) wr.drew := ⟨et, ea, r0, r1, c0', c1'⟩
        by_cases hlt : j < n
        · obtain ⟨hq1, hq2⟩ := HPUT.out j hlt
          rw [List.getElem_drop, hy] at hq2
          simp only at hq2
          have hyk2 : ((yk : Int) == 2) = true := by rw [hq2]; rfl
          clear hq2
          have HS := hide hS
          have REL : Hid (∀ (v' : Value) (W' : World), PKo w2.heap.size w4.heap.size (w4.heap.size + 1) (.slice (some ⟨gS, 0, none⟩) (stL lb).length cS) (stL lb) (out ++ [(z0s, (⟨yk, yc⟩ : St))]) (at' + 1) v' W' → Moves (PO w2.heap.size w4.heap.size (w4.heap.size + 1) vo1 (.slice (some ⟨gS, 0, none⟩) (stL lb).length cS)) wr (PO w2.heap.size w4.heap.size (w4.heap.size + 1) v' (.slice (some ⟨gS, 0, none⟩) (stL lb).length cS)) W' → ∃ (j : Nat) (O' : Nat → Prop), j ≤ n ∧ PK w2.heap.size w4.heap.size (w4.heap.size + 1) (.slice (some ⟨gS, 0, none⟩) (stL lb).length cS) (stL lb) (out0 ++ (((stL lb).drop at0).take j).map (fun y => (z0s, y))) (at0 + j) O' W' ∧ Moves (PO w2.heap.size w4.heap.size (w4.heap.size + 1) vo (.slice (some ⟨gS, 0, none⟩) (stL lb).length cS)) W O' W') := hide (fun v' W' h m => by
            refine ⟨j + 1, _, by omega, ⟨v', ?_, rfl⟩, mv.trans m⟩
            have e1 : out0 ++ (((stL lb).drop at0).take (j + 1)).map (fun y => (z0s, y)) = out ++ [(z0s, (⟨yk, yc⟩ : St))] := by
              rw [hout1, List.take_succ_eq_append_getElem (by rw [List.length_drop]; omega), List.map_append, List.getElem_drop, hy, List.append_assoc]; rfl
            rw [e1, show at0 + (j + 1) = at' + 1 by omega]
            exact h)
          have MEA : Hid (∀ (v' : Value) (W' : World), PKo w2.heap.size w4.heap.size (w4.heap.size + 1) (.slice (some ⟨gS, 0, none⟩) (stL lb).length cS) (stL lb) (out ++ [(z0s, (⟨yk, yc⟩ : St))]) (at' + 1) v' W' → n - (atOf W' (w4.heap.size + 1) - at0) < n - (atOf wr (w4.heap.size + 1) - at0)) := hide (fun v' W' h => by
            have e1 : atOf W' (w4.heap.size + 1) = at' + 1 := by unfold atOf; rw [h.ba.cell]; simp [intOf]
            have e2 : atOf wr (w4.heap.size + 1) = at' := by unfold atOf; rw [HP.out.ba.cell]; simp [intOf]
            rw [e1, e2]; omega)
          clear hout1 hat1 hns hrow hP hbx nBx hS hy
          gi_wp2_with fail
          have hS := HS.out
          generalize vo1 = vo at *
          refine regionIn_any hmix (by kernel_rfl) (fun _ _ h => h) ?_
          refine wpAny_of_held (S := (fun w' => w'.cell? ⟨w4.heap.size, 0, none⟩ = some (.slice (some ⟨gS, 0, none⟩) (stL lb).length cS) ∧ w'.cell? ⟨w4.heap.size + 1, 0, none⟩ = some (.int .i64 (at' : Int)) ∧ w'.cell? ⟨gS, at' * 2, none⟩ = some (.int .i64 (yk : Int)) ∧ w'.cell? ⟨gS, at' * 2 + 1, none⟩ = some (.int .u8 (yc.toNat : Int)) ∧ w'.cell? ⟨Bx, 0, none⟩ = some (.int .i64 (xk : Int)) ∧ w'.cell? ⟨Bx, 1, none⟩ = some (.int .u8 (xc.toNat : Int)))) _ _ _ _ ?_
          refine wpAnyH_take (i := 1) (v := .slice (some ⟨gS, 0, none⟩) (stL lb).length cS) rfl (by kernel_rfl) (by kernel_rfl) (by kernel_rfl) (fun _ _ _ h => h) (Or.inl ⟨by rfl, fun w' hw => by obtain ⟨x1, x2, x3, x4, x5, x6⟩ := hw; go_simp⟩) hS ?_
          refine wpAnyH_take (i := 2) (v := .int .i64 (at' : Int)) rfl (by kernel_rfl) (by kernel_rfl) (by kernel_rfl) (fun _ _ _ h => h) (Or.inl ⟨by rfl, fun w' hw => by obtain ⟨x1, x2, x3, x4, x5, x6⟩ := hw; go_simp⟩) hS ?_
          refine wpAnyH_take (i := 3) (v := .pointer (some ⟨gS, at' * 2, none⟩)) rfl (by kernel_rfl) (by kernel_rfl) (by kernel_rfl) (fun _ _ _ h => h) (Or.inl ⟨by rfl, fun w' hw => by obtain ⟨x1, x2, x3, x4, x5, x6⟩ := hw; go_simp⟩) hS ?_
          refine wpAnyH_take (i := 4) (v := .agg #[.int .i64 (yk : Int), .int .u8 (yc.toNat : Int)]) rfl (by kernel_rfl) (by kernel_rfl) (by kernel_rfl) (fun _ _ _ h => h) (Or.inl ⟨by rfl, fun w' hw => by obtain ⟨x1, x2, x3, x4, x5, x6⟩ := hw; go_simp⟩) hS ?_
          refine wpAnyH_take (i := 5) (v := .agg #[.int .i64 0, .int .u8 0, .int .i64 (yk : Int), .int .u8 (yc.toNat : Int)]) rfl (by kernel_rfl) (by kernel_rfl) (by kernel_rfl) (fun _ _ _ h => h) (Or.inl ⟨by rfl, fun w' hw => by obtain ⟨x1, x2, x3, x4, x5, x6⟩ := hw; go_simp⟩) hS ?_
          refine wpAnyH_ready (rs := [0, 6]) (by kernel_rfl) (by simp) ?_
          refine AllReadyH.cons rfl (fun K hK => ?_) (AllReadyH.cons rfl (fun K hK => ?_) AllReadyH.nil)
          · go_simp
            refine hK.out _ _ hS (fun hS1 => ?_)
            clear hK K
            refine wpAnyH_ready (rs := [6]) (by kernel_rfl) (by simp) ?_
            refine AllReadyH.cons rfl (fun K hK => ?_) AllReadyH.nil
            go_simp
            refine hK.out _ _ (ALC.out _) (fun hS1 => ?_)
            clear hK K
            refine wpAnyH_ready (rs := [7]) (by kernel_rfl) (by simp) ?_
            refine AllReadyH.cons rfl (fun K hK => ?_) AllReadyH.nil
            refine step_append_lies _ (by rfl) _ _ _ (by rfl) w2.heap.size 145 u0 _ 4 32 Tryd.underlying136 hu0 hz0 hz1 hz2 rfl (by omega) vo out.length (prC out) (by rfl) ((HP.out.ow.alloc _).drew) ⟨wr.heap.size, 0, none⟩ 1 1 [.int .i64 0, .int .u8 0, .int .i64 (yk : Int), .int .u8 (yc.toNat : Int)] (by rfl) (by rfl) (World.news_of_block (cs := #[.int .i64 0, .int .u8 0, .int .i64 (yk : Int), .int .u8 (yc.toNat : Int)]) (t := 145) (fr := (0, 0)) (heap_alloc_new wr _)) (by simp [Value.oneCell']) (by omega) (by unfold maxLen; omega) (by omega) (by show _ ≤ (wr.alloc _).heap.size; simp; omega) (wr.heap.size + 1) (by simp) ?_
            intro gg cap' w5 hown1 hgrow hat2 hlt2
            have hcz := (hgrow.cell_far ⟨w2.heap.size, 0, none⟩ (by simp; omega) (Ne.symm ne0)).trans (cl_al wr _ _ e0)
            have hfz := (hgrow.frozen_far ⟨w2.heap.size, 0, none⟩ (by simp; omega) (Ne.symm ne0)).trans (fz_al wr _ _ lt0 f0)
            have hS5 := FAR.out _ _ hgrow
            refine hK.out _ _ hS5 (fun hS2 => ?_)
            clear hK K
            obtain ⟨A1, A2⟩ := HP.out.out (p := (z0s, (⟨yk, yc⟩ : St))) hd hown1 (grown_alp hgrow) (hat2.imp id (fun e => by omega))
            have hS6 := SET.out _ (.slice (some ⟨gg, 0, none⟩) (out.length + 1) cap') hS5
            have g5 := A1.ba.cell
            have z5 := A1.ba.fz
            have B1 := hide (A1.on hd)
            have HA2 := hide A2
            clear hgrow hown1 A1 A2 hat2 hlt2
            refine wpAnyH_ready (rs := [8]) (by kernel_rfl) (by simp) ?_
            refine AllReadyH.cons rfl (fun K hK => ?_) AllReadyH.nil
            go_simp
            refine hK.out _ _ hS6 (fun hS3 => ?_)
            clear hK K
            refine wpAnyH_done (by kernel_rfl) ?_ _
            clear hcz hfz hS5 hS6 hS2 hS3
            gi_wp2
            go_roundw
            case rel => exact REL.out _ _ B1.out.1 (HA2.out.trans B1.out.2)
            case measure => exact MEA.out _ _ B1.out.1
          · go_simp
            refine hK.out _ _ (ALC.out _) (fun hS1 => ?_)
            clear hK K
            have e4a : ∀ ob : Obj, (wr.alloc ob).drew.cell? ⟨w2.heap.size, 0, none⟩ = some vo := fun ob => cl_al wr ob _ e0
            refine wpAnyH_ready (rs := [0]) (by kernel_rfl) (by simp) ?_
            refine AllReadyH.cons rfl (fun K hK => ?_) AllReadyH.nil
            go_simp
            refine hK.out _ _ (ALC.out _) (fun hS1 => ?_)
            clear hK K e4a
            refine wpAnyH_ready (rs := [7]) (by kernel_rfl) (by simp) ?_
            refine AllReadyH.cons rfl (fun K hK => ?_) AllReadyH.nil
            refine step_append_lies _ (by rfl) _ _ _ (by rfl) w2.heap.size 145 u0 _ 4 32 Tryd.underlying136 hu0 hz0 hz1 hz2 rfl (by omega) vo out.length (prC out) (by rfl) ((HP.out.ow.alloc _).drew) ⟨wr.heap.size, 0, none⟩ 1 1 [.int .i64 0, .int .u8 0, .int .i64 (yk : Int), .int .u8 (yc.toNat : Int)] (by rfl) (by rfl) (World.news_of_block (cs := #[.int .i64 0, .int .u8 0, .int .i64 (yk : Int), .int .u8 (yc.toNat : Int)]) (t := 145) (fr := (0, 0)) (heap_alloc_new wr _)) (by simp [Value.oneCell']) (by omega) (by unfold maxLen; omega) (by omega) (by show _ ≤ (wr.alloc _).heap.size; simp; omega) (wr.heap.size + 1) (by simp) ?_
            intro gg cap' w5 hown1 hgrow hat2 hlt2
            have hcz := (hgrow.cell_far ⟨w2.heap.size, 0, none⟩ (by simp; omega) (Ne.symm ne0)).trans (cl_al wr _ _ e0)
            have hfz := (hgrow.frozen_far ⟨w2.heap.size, 0, none⟩ (by simp; omega) (Ne.symm ne0)).trans (fz_al wr _ _ lt0 f0)
            have hS5 := FAR.out _ _ hgrow
            refine hK.out _ _ hS5 (fun hS2 => ?_)
            clear hK K
            obtain ⟨A1, A2⟩ := HP.out.out (p := (z0s, (⟨yk, yc⟩ : St))) hd hown1 (grown_alp hgrow) (hat2.imp id (fun e => by omega))
            have hS6 := SET.out _ (.slice (some ⟨gg, 0, none⟩) (out.length + 1) cap') hS5
            have g5 := A1.ba.cell
            have z5 := A1.ba.fz
            have B1 := hide (A1.on hd)
            have HA2 := hide A2
            clear hgrow hown1 A1 A2 hat2 hlt2
            refine wpAnyH_ready (rs := [8]) (by kernel_rfl) (by simp) ?_
            refine AllReadyH.cons rfl (fun K hK => ?_) AllReadyH.nil
            go_simp
            refine hK.out _ _ hS6 (fun hS3 => ?_)
            clear hK K
            refine wpAnyH_done (by kernel_rfl) ?_ _
            clear hcz hfz hS5 hS6 hS2 hS3
            gi_wp2
            go_roundw
            case rel => exact REL.out _ _ B1.out.1 (HA2.out.trans B1.out.2)
            case measure => exact MEA.out _ _ B1.out.1
        · obtain rfl : j = n := by omega
          have hyk : yk ≠ 2 := fun c => HNY.out (by rw [hy]; exact c)
          have hyk2 : ((yk : Int) == 2) = false := by rw [beq_eq_false_iff_ne]; omega
          have HS := hide hS
          have END : Hid (∀ (v' : Value) (W' : World), PKo w2.heap.size w4.heap.size (w4.heap.size + 1) (.slice (some ⟨gS, 0, none⟩) (stL lb).length cS) (stL lb) (out ++ [((⟨xk, xc⟩ : St), (⟨yk, yc⟩ : St))]) (at' + 1) v' W' → Moves (PO w2.heap.size w4.heap.size (w4.heap.size + 1) vo1 (.slice (some ⟨gS, 0, none⟩) (stL lb).length cS)) wr (PO w2.heap.size w4.heap.size (w4.heap.size + 1) v' (.slice (some ⟨gS, 0, none⟩) (stL lb).length cS)) W' → ∃ O', Moves O W O' W' ∧ PK w2.heap.size w4.heap.size (w4.heap.size + 1) (.slice (some ⟨gS, 0, none⟩) (stL lb).length cS) (stL lb) (prS (stL lb) (pre ++ [(⟨xk, xc⟩ : St)])).1 (prS (stL lb) (pre ++ [(⟨xk, xc⟩ : St)])).2 O' W') := hide (fun v' W' h m => by
            refine ⟨_, MV.out _ _ (mv.trans m), v', ?_, rfl⟩
            rw [HE.out, hy]
            simp only
            rw [← hout1, ← hat1]
            exact h)
          clear hout1 hat1 hns hrow hP hbx nBx hS hy hyk
          gi_wp2_with fail
          have hS := HS.out
          generalize vo1 = vo at *
          refine regionIn_any hmix (by kernel_rfl) (fun _ _ h => h) ?_
          refine wpAny_of_held (S := (fun w' => w'.cell? ⟨w4.heap.size, 0, none⟩ = some (.slice (some ⟨gS, 0, none⟩) (stL lb).length cS) ∧ w'.cell? ⟨w4.heap.size + 1, 0, none⟩ = some (.int .i64 (at' : Int)) ∧ w'.cell? ⟨gS, at' * 2, none⟩ = some (.int .i64 (yk : Int)) ∧ w'.cell? ⟨gS, at' * 2 + 1, none⟩ = some (.int .u8 (yc.toNat : Int)) ∧ w'.cell? ⟨Bx, 0, none⟩ = some (.int .i64 (xk : Int)) ∧ w'.cell? ⟨Bx, 1, none⟩ = some (.int .u8 (xc.toNat : Int)))) _ _ _ _ ?_
          refine wpAnyH_take (i := 1) (v := .agg #[.int .i64 (xk : Int), .int .u8 (xc.toNat : Int)]) rfl (by kernel_rfl) (by kernel_rfl) (by kernel_rfl) (fun _ _ _ h => h) (Or.inl ⟨by rfl, fun w' hw => by obtain ⟨x1, x2, x3, x4, x5, x6⟩ := hw; go_simp⟩) hS ?_
          refine wpAnyH_take (i := 2) (v := .slice (some ⟨gS, 0, none⟩) (stL lb).length cS) rfl (by kernel_rfl) (by kernel_rfl) (by kernel_rfl) (fun _ _ _ h => h) (Or.inl ⟨by rfl, fun w' hw => by obtain ⟨x1, x2, x3, x4, x5, x6⟩ := hw; go_simp⟩) hS ?_
          refine wpAnyH_take (i := 3) (v := .int .i64 (at' : Int)) rfl (by kernel_rfl) (by kernel_rfl) (by kernel_rfl) (fun _ _ _ h => h) (Or.inl ⟨by rfl, fun w' hw => by obtain ⟨x1, x2, x3, x4, x5, x6⟩ := hw; go_simp⟩) hS ?_
          refine wpAnyH_take (i := 4) (v := .pointer (some ⟨gS, at' * 2, none⟩)) rfl (by kernel_rfl) (by kernel_rfl) (by kernel_rfl) (fun _ _ _ h => h) (Or.inl ⟨by rfl, fun w' hw => by obtain ⟨x1, x2, x3, x4, x5, x6⟩ := hw; go_simp⟩) hS ?_
          refine wpAnyH_take (i := 5) (v := .agg #[.int .i64 (yk : Int), .int .u8 (yc.toNat : Int)]) rfl (by kernel_rfl) (by kernel_rfl) (by kernel_rfl) (fun _ _ _ h => h) (Or.inl ⟨by rfl, fun w' hw => by obtain ⟨x1, x2, x3, x4, x5, x6⟩ := hw; go_simp⟩) hS ?_
          refine wpAnyH_take (i := 6) (v := .agg #[.int .i64 (xk : Int), .int .u8 (xc.toNat : Int), .int .i64 (yk : Int), .int .u8 (yc.toNat : Int)]) rfl (by kernel_rfl) (by kernel_rfl) (by kernel_rfl) (fun _ _ _ h => h) (Or.inl ⟨by rfl, fun w' hw => by obtain ⟨x1, x2, x3, x4, x5, x6⟩ := hw; go_simp⟩) hS ?_
          refine wpAnyH_ready (rs := [0, 7]) (by kernel_rfl) (by simp) ?_
          refine AllReadyH.cons rfl (fun K hK => ?_) (AllReadyH.cons rfl (fun K hK => ?_) AllReadyH.nil)
          · go_simp
            refine hK.out _ _ hS (fun hS1 => ?_)
            clear hK K
            refine wpAnyH_ready (rs := [7]) (by kernel_rfl) (by simp) ?_
            refine AllReadyH.cons rfl (fun K hK => ?_) AllReadyH.nil
            go_simp
            refine hK.out _ _ (ALC.out _) (fun hS1 => ?_)
            clear hK K
            refine wpAnyH_ready (rs := [8]) (by kernel_rfl) (by simp) ?_
            refine AllReadyH.cons rfl (fun K hK => ?_) AllReadyH.nil
            refine step_append_lies _ (by rfl) _ _ _ (by rfl) w2.heap.size 145 u0 _ 4 32 Tryd.underlying136 hu0 hz0 hz1 hz2 rfl (by omega) vo out.length (prC out) (by rfl) ((HP.out.ow.alloc _).drew) ⟨wr.heap.size, 0, none⟩ 1 1 [.int .i64 (xk : Int), .int .u8 (xc.toNat : Int), .int .i64 (yk : Int), .int .u8 (yc.toNat : Int)] (by rfl) (by rfl) (World.news_of_block (cs := #[.int .i64 (xk : Int), .int .u8 (xc.toNat : Int), .int .i64 (yk : Int), .int .u8 (yc.toNat : Int)]) (t := 145) (fr := (0, 0)) (heap_alloc_new wr _)) (by simp [Value.oneCell']) (by omega) (by unfold maxLen; omega) (by omega) (by show _ ≤ (wr.alloc _).heap.size; simp; omega) (wr.heap.size + 1) (by simp) ?_
            intro gg cap' w5 hown1 hgrow hat2 hlt2
            have hcz := (hgrow.cell_far ⟨w2.heap.size, 0, none⟩ (by simp; omega) (Ne.symm ne0)).trans (cl_al wr _ _ e0)
            have hfz := (hgrow.frozen_far ⟨w2.heap.size, 0, none⟩ (by simp; omega) (Ne.symm ne0)).trans (fz_al wr _ _ lt0 f0)
            have hS5 := FAR.out _ _ hgrow
            refine hK.out _ _ hS5 (fun hS2 => ?_)
            clear hK K
            obtain ⟨A1, A2⟩ := HP.out.out (p := ((⟨xk, xc⟩ : St), (⟨yk, yc⟩ : St))) hd hown1 (grown_alp hgrow) (hat2.imp id (fun e => by omega))
            have hS6 := SET.out _ (.slice (some ⟨gg, 0, none⟩) (out.length + 1) cap') hS5
            have g5 := A1.ba.cell
            have z5 := A1.ba.fz
            have B1 := hide (A1.on hd)
            have HA2 := hide A2
            clear hgrow hown1 A1 A2 hat2 hlt2
            refine wpAnyH_ready (rs := [9]) (by kernel_rfl) (by simp) ?_
            refine AllReadyH.cons rfl (fun K hK => ?_) AllReadyH.nil
            go_simp
            refine hK.out _ _ hS6 (fun hS3 => ?_)
            clear hK K
            refine wpAnyH_done (by kernel_rfl) ?_ _
            clear hcz hfz hS5 hS6 hS2 hS3
            gi_wp2
            exact END.out _ _ B1.out.1 (HA2.out.trans B1.out.2)
          · go_simp
            refine hK.out _ _ (ALC.out _) (fun hS1 => ?_)
            clear hK K
            have e4a : ∀ ob : Obj, (wr.alloc ob).drew.cell? ⟨w2.heap.size, 0, none⟩ = some vo := fun ob => cl_al wr ob _ e0
            refine wpAnyH_ready (rs := [0]) (by kernel_rfl) (by simp) ?_
            refine AllReadyH.cons rfl (fun K hK => ?_) AllReadyH.nil
            go_simp
            refine hK.out _ _ (ALC.out _) (fun hS1 => ?_)
            clear hK K e4a
            refine wpAnyH_ready (rs := [8]) (by kernel_rfl) (by simp) ?_
            refine AllReadyH.cons rfl (fun K hK => ?_) AllReadyH.nil
            refine step_append_lies _ (by rfl) _ _ _ (by rfl) w2.heap.size 145 u0 _ 4 32 Tryd.underlying136 hu0 hz0 hz1 hz2 rfl (by omega) vo out.length (prC out) (by rfl) ((HP.out.ow.alloc _).drew) ⟨wr.heap.size, 0, none⟩ 1 1 [.int .i64 (xk : Int), .int .u8 (xc.toNat : Int), .int .i64 (yk : Int), .int .u8 (yc.toNat : Int)] (by rfl) (by rfl) (World.news_of_block (cs := #[.int .i64 (xk : Int), .int .u8 (xc.toNat : Int), .int .i64 (yk : Int), .int .u8 (yc.toNat : Int)]) (t := 145) (fr := (0, 0)) (heap_alloc_new wr _)) (by simp [Value.oneCell']) (by omega) (by unfold maxLen; omega) (by omega) (by show _ ≤ (wr.alloc _).heap.size; simp; omega) (wr.heap.size + 1) (by simp) ?_
            intro gg cap' w5 hown1 hgrow hat2 hlt2
            have hcz := (hgrow.cell_far ⟨w2.heap.size, 0, none⟩ (by simp; omega) (Ne.symm ne0)).trans (cl_al wr _ _ e0)
            have hfz := (hgrow.frozen_far ⟨w2.heap.size, 0, none⟩ (by simp; omega) (Ne.symm ne0)).trans (fz_al wr _ _ lt0 f0)
            have hS5 := FAR.out _ _ hgrow
            refine hK.out _ _ hS5 (fun hS2 => ?_)
            clear hK K
            obtain ⟨A1, A2⟩ := HP.out.out (p := ((⟨xk, xc⟩ : St), (⟨yk, yc⟩ : St))) hd hown1 (grown_alp hgrow) (hat2.imp id (fun e => by omega))
            have hS6 := SET.out _ (.slice (some ⟨gg, 0, none⟩) (out.length + 1) cap') hS5
            have g5 := A1.ba.cell
            have z5 := A1.ba.fz
            have B1 := hide (A1.on hd)
            have HA2 := hide A2
            clear hgrow hown1 A1 A2 hat2 hlt2
            refine wpAnyH_ready (rs := [9]) (by kernel_rfl) (by simp) ?_
            refine AllReadyH.cons rfl (fun K hK => ?_) AllReadyH.nil
            go_simp
            refine hK.out _ _ hS6 (fun hS3 => ?_)
            clear hK K
            refine wpAnyH_done (by kernel_rfl) ?_ _
            clear hcz hfz hS5 hS6 hS2 hS3
            gi_wp2
            exact END.out _ _ B1.out.1 (HA2.out.trans B1.out.2)
  case done =>
    rintro D O' W hD hnD ⟨vo, hP, rfl⟩ mv hK
    have hI := prI_of (ys := stL lb) (pre := stL la) (by omega)
    have hAt := hI.le
    have hout : (prS (stL lb) (stL la)).1.length ≤ 1200 := by have := hI.sz; omega
    have hF := HF0.out
    unfold prF at hF
    generalize prS (stL lb) (stL la) = pr at *
    obtain ⟨out0, at0⟩ := pr
    simp only at hAt hout hP hF
    have HF := hide hF
    clear hI hF
    obtain ⟨u0, hu0, hz0, hz1, hz2⟩ := info_parts Tryd.infoPair
    have et := hP.bt.cell
    have ea := hP.ba.cell
    have hDl : D < W.heap.size := (Array.getElem?_eq_some_iff.1 hK).1
    have HPS := hide hP
    have HBE : Hid (∀ (O2 : Nat → Prop) (W' : World), Moves (PO w2.heap.size w4.heap.size (w4.heap.size + 1) vo (.slice aS (stL lb).length cS)) W O2 W' → Below w.heap.size w W') := hide (fun O2 W' m => hbW.trans ((mv.trans m).below (by omega) (fun k hk c => by
      rcases c with c | c | c
      · simp at c; omega
      · cases c
      · have := hSb k c; omega)))
    clear hP mv
    rcases Nat.lt_or_ge at0 (stL lb).length with hlt0 | hge0
    · obtain ⟨gS, cS', ev, -, hcm, -⟩ := steps_row HPS.out.os (by omega)
      cases ev
      have hne : ¬ cS = at0 := by omega
      have hI0 : (0 : Int) ≤ (at0 : Int) := by omega
      have hI1 : (at0 : Int) ≤ ((stL lb).length : Int) := by omega
      gi_wp2
      clear et ea
      gi_loopw [86] (fun i wr => ∃ (j : Nat) (O2 : Nat → Prop), j ≤ (stL lb).length - at0 ∧ i = .int .i64 j ∧ PK w2.heap.size w4.heap.size (w4.heap.size + 1) (.slice (some ⟨gS, 0, none⟩) (stL lb).length cS) (stL lb) (out0 ++ (((stL lb).drop at0).take j).map (fun y => (z0s, y))) at0 O2 wr ∧ Moves (PO w2.heap.size w4.heap.size (w4.heap.size + 1) vo (.slice (some ⟨gS, 0, none⟩) (stL lb).length cS)) W O2 wr) (fun i _ => (stL lb).length - at0 - (intOf i).toNat)
      case atStart => exact ⟨0, _, by omega, rfl, ⟨vo, by simpa using HPS.out, rfl⟩, Moves.refl _ _⟩
      case round =>
        obtain ⟨j, O2, hj, rfl, ⟨vo1, hP2, rfl⟩, m2⟩ := hrel
        by_cases hlt : j < (stL lb).length - at0
        · have hjl : at0 + j < (stL lb).length := by omega
          obtain ⟨gS', cS'', ev, -, -, hrow⟩ := steps_row hP2.os (by omega)
          cases ev
          obtain ⟨r0, r1⟩ := hrow (at0 + j) hjl
          rw [show (at0 + j) * 2 = at0 * 2 + j * 2 by omega] at r0 r1
          have hy : ∃ y, (stL lb)[at0 + j] = y := ⟨_, rfl⟩
          obtain ⟨⟨yk, yc⟩, hy⟩ := hy
          rw [hy] at r0 r1
          simp only at r0 r1
          have e1 : out0 ++ (((stL lb).drop at0).take (j + 1)).map (fun y => (z0s, y)) = (out0 ++ (((stL lb).drop at0).take j).map (fun y => (z0s, y))) ++ [(z0s, (⟨yk, yc⟩ : St))] := by
            rw [List.take_succ_eq_append_getElem (by rw [List.length_drop]; omega), List.map_append, List.getElem_drop, hy, List.append_assoc]; rfl
          have HE1 := hide e1
          have hol : (out0 ++ (((stL lb).drop at0).take j).map (fun y => (z0s, y))).length ≤ 2000 := by simp; omega
          generalize out0 ++ (((stL lb).drop at0).take j).map (fun y => (z0s, y)) = out at *
          have hPa := hP2.kept (W' := wr.alloc (.cells #[.int .i64 (yk : Int), .int .u8 (yc.toNat : Int)] 89)) (fun k hk => Below.heap_alloc _ _ _ (hP2.lt k hk))
          have m3 : Moves (PO w2.heap.size w4.heap.size (w4.heap.size + 1) vo1 (.slice (some ⟨gS, 0, none⟩) (stL lb).length cS)) wr (PO w2.heap.size w4.heap.size (w4.heap.size + 1) vo1 (.slice (some ⟨gS, 0, none⟩) (stL lb).length cS)) (wr.alloc (.cells #[.int .i64 (yk : Int), .int .u8 (yc.toNat : Int)] 89)) := ((Moves.refl _ _).alloc _).wider (fun _ _ c => c) (fun _ _ c => c)
          have HM := hide (m2.trans m3)
          have HP := hide hPa
          have e0 := hPa.bo.cell
          have f0 := hPa.bo.fz
          have lt0 := hPa.bo.lt
          have ne0 : vo1.ownBlock ≠ some w2.heap.size := fun c => hPa.no _ c (by simp)
          have e0' := hP2.bo.cell
          have lt0' := hP2.bo.lt
          have f0' := hP2.bo.fz
          clear hrow hy e1 hP2 m2 m3 hPa
          have NEW : Hid (∀ j u, [Value.int .i64 0, .int .u8 0, .int .i64 (yk : Int), .int .u8 (yc.toNat : Int)][j]? = some u → ((wr.alloc (.cells #[.int .i64 (yk : Int), .int .u8 (yc.toNat : Int)] 89)).alloc (.cells #[.int .i64 0, .int .u8 0, .int .i64 (yk : Int), .int .u8 (yc.toNat : Int)] 145)).cell? ((⟨wr.heap.size + 1, 0, none⟩ : Addr).add j) = some u) := hide (World.news_of_block (cs := #[.int .i64 0, .int .u8 0, .int .i64 (yk : Int), .int .u8 (yc.toNat : Int)]) (t := 145) (fr := (0, 0)) (by have := heap_alloc_new (wr.alloc (.cells #[.int .i64 (yk : Int), .int .u8 (yc.toNat : Int)] 89)) (.cells #[.int .i64 0, .int .u8 0, .int .i64 (yk : Int), .int .u8 (yc.toNat : Int)] 145); rw [World.size_alloc] at this; exact this))
          gi_wp2_with (gi_at_builtin; refine listWide_app _ rfl _ _ 136 rfl w2.heap.size 145 u0 _ 4 32 Tryd.underlying136 hu0 hz0 hz1 hz2 rfl (by omega) vo1 out.length (prC out) rfl (HP.out.ow.alloc _) ⟨wr.heap.size + 1, 0, none⟩ 1 1 [.int .i64 0, .int .u8 0, .int .i64 (yk : Int), .int .u8 (yc.toNat : Int)] rfl rfl NEW.out (by simp [Value.oneCell']) (by omega) (by unfold maxLen; omega) (by omega) (by simp; omega) (wr.heap.size + 2) (by simp) ?_; intro gg cap' w5 hown1 hgrow hat; have hcz := (hgrow.cell_far ⟨w2.heap.size, 0, none⟩ (by simp at lt0 ⊢; omega) (Ne.symm ne0)).trans (World.cell?_of_block (Below.heap_alloc _ _ _ lt0) |>.trans e0); have hfz := (hgrow.frozen_far ⟨w2.heap.size, 0, none⟩ (by simp at lt0 ⊢; omega) (Ne.symm ne0)).trans (World.frozen?_of_block (Below.heap_alloc _ _ _ lt0) |>.trans f0))
          obtain ⟨A1, A2⟩ := HP.out.out (p := (z0s, (⟨yk, yc⟩ : St))) hd hown1 (grownBy_al hgrow) (hat.imp id (fun e => by rw [e]; simp))
          have HA1 := hide A1
          have HA2 := hide (HM.out.trans A2)
          clear A1 A2 hgrow hown1 hat hcz hfz
          gi_wp2
          go_roundw
          case rel => exact ⟨j + 1, _, by omega, by go_num, ⟨_, by rw [HE1.out]; exact HA1.out, rfl⟩, HA2.out⟩
          case measure => simp [intOf]; omega
        · obtain rfl : j = (stL lb).length - at0 := by omega
          rw [List.take_of_length_le (by rw [List.length_drop]; omega)] at hP2
          have e0 := hP2.bo.cell
          have hKr : wr.heap[D]? = some (.deferred (some [])) := (m2.same D hDl hnD).trans hK
          have HO := hide (own_stays (w2 := wr.putObj D (.deferred none)) (own_mono hP2.ow hs2) (fun x hx => World.putObj_heap_other (fun e => hnD (m2.own D hDl (.inr (.inl (e ▸ hx)))))))
          have HBf := hide ((HBE.out _ _ m2).trans (⟨rfl, rfl, rfl, by simp, fun k hk => World.putObj_heap_other (by omega)⟩ : Below w.heap.size wr (wr.putObj D (.deferred none))))
          clear hP2 m2 hK hnD
          gi_wp2
          refine ⟨by simp, .inl ⟨_, _, rfl, run_takeDeferred hKr, ?_⟩⟩
          refine ⟨.tuple #[vo1, .bool true], ?_, vo1, rfl, ?_, HBf.out⟩
          · simp [results, Tryd.f97, go_sem]
          · rw [HF.out]; exact HO.out
    · obtain rfl : at0 = (stL lb).length := by omega
      rw [List.drop_length, List.map_nil, List.append_nil] at HF
      gi_wp2
      all_goals
        gi_loopw [86] (fun i wr => i = .int .i64 0 ∧ wr = W) (fun _ _ => 0)
        case atStart => exact ⟨rfl, rfl⟩
        case round =>
          obtain ⟨rfl, rfl⟩ := hrel
          have hP2 := HPS.out
          have m2 := Moves.refl (PO w2.heap.size w4.heap.size (w4.heap.size + 1) vo (.slice aS (stL lb).length cS)) wr
          have e0 := hP2.bo.cell
          have hKr : wr.heap[D]? = some (.deferred (some [])) := (m2.same D hDl hnD).trans hK
          have HO := hide (own_stays (w2 := wr.putObj D (.deferred none)) (own_mono hP2.ow hs2) (fun x hx => World.putObj_heap_other (fun e => hnD (m2.own D hDl (.inr (.inl (e ▸ hx)))))))
          have HBf := hide ((HBE.out _ _ m2).trans (⟨rfl, rfl, rfl, by simp, fun k hk => World.putObj_heap_other (by omega)⟩ : Below w.heap.size wr (wr.putObj D (.deferred none))))
          clear hP2 m2 hK hnD
          gi_wp2
          refine ⟨by simp, .inl ⟨_, _, rfl, run_takeDeferred hKr, ?_⟩⟩
          refine ⟨.tuple #[vo, .bool true], ?_, vo, rfl, ?_, HBf.out⟩
          · simp [results, Tryd.f97, go_sem]
          · rw [HF.out]; exact HO.out
  case stop => exact fun _ _ _ _ _ _ _ _ h => h.elim
end Go.Proofs.YtbooongkbninhaaDoor

namespace Go.Proofs.YtbooongkbninhaaDoor
open Go.RowKit Go.Shelf
open Doc1

theorem ret_bb {a b c d : Bool} (h : a = c) (h2 : b = d) : Ending.returned (.tuple #[.bool a, .bool b]) = .returned (.tuple #[.bool c, .bool d]) := by rw [h, h2]
/-- Whether both changes are of one text. -/
def samK (la lb : List Pt) : Bool := goodO la && (goodO lb && decide (tkL la = tkL lb))

set_option maxRecDepth 100000 in
set_option maxHeartbeats 2000000 in
theorem pairsI_bad {w : World} {aa ab : Option Addr} {ga ca gb cb : Nat} {la lb : List Pt} (ha : Pin w aa ga ca la) (hb : Pin w ab gb cb lb) (hT : Tab w) (hk : samK la lb = false) :
    Calls Tryd.prog 97 #[.slice aa la.length ca, .slice ab lb.length cb] w fun e w' => e = .returned (.tuple #[.slice none 0 0, .bool false]) ∧ Below w.heap.size w w' := by
  have SA := hide (fun w' (h : Below w.heap.size w w') => sizesI_any (ha.later h) (hT.below h))
  have SB := hide (fun w' (h : Below w.heap.size w w') => sizesI_any (hb.later h) (hT.below h))
  have hb0 := Below.refl w.heap.size w
  clear ha hb hT
  unfold samK at hk
  cases h1 : goodO la with
  | false =>
    rw [h1] at SA
    clear hk h1
    generalize goodO lb = gB at *
    go_enter Tryd.func97, Tryd.ntmps97
    go_wp2_with fail
    refine (SA.out _ hb0).mono ?_
    rintro e w1 ⟨rfl, hb1⟩
    go_wp2_with fail
    refine (SB.out _ hb1).mono ?_
    rintro e w2 ⟨rfl, hb'⟩
    have hb2 := hb1.trans (hb'.mono hb1.size)
    clear hb' hb1 SA SB hb0
    go_wp2
    go_ret2
    exact ⟨rfl, hb2⟩
  | true =>
    rw [h1, Bool.true_and] at hk
    rw [h1] at SA
    cases h2 : goodO lb with
    | false =>
      rw [h2] at SB
      clear hk h1 h2
      go_enter Tryd.func97, Tryd.ntmps97
      go_wp2_with fail
      refine (SA.out _ hb0).mono ?_
      rintro e w1 ⟨rfl, hb1⟩
      go_wp2_with fail
      refine (SB.out _ hb1).mono ?_
      rintro e w2 ⟨rfl, hb'⟩
      have hb2 := hb1.trans (hb'.mono hb1.size)
      clear hb' hb1 SA SB hb0
      go_wp2
      go_ret2
      exact ⟨rfl, hb2⟩
    | true =>
      rw [h2, Bool.true_and] at hk
      rw [h2] at SB
      have hne : (szT la != szT lb) = true := by
        have e1 : szT la = tkL la := by unfold szT; rw [h1]; rfl
        have e2 : szT lb = tkL lb := by unfold szT; rw [h2]; rfl
        rw [e1, e2]
        simpa using of_decide_eq_false hk
      clear hk h1 h2
      generalize szT la = x at *
      generalize szT lb = y at *
      go_enter Tryd.func97, Tryd.ntmps97
      go_wp2_with fail
      refine (SA.out _ hb0).mono ?_
      rintro e w1 ⟨rfl, hb1⟩
      go_wp2_with fail
      refine (SB.out _ hb1).mono ?_
      rintro e w2 ⟨rfl, hb'⟩
      have hb2 := hb1.trans (hb'.mono hb1.size)
      clear hb' hb1 SA SB hb0
      go_wp2
      go_ret2
      exact ⟨rfl, hb2⟩

def prA (p : St × St) : Value := .agg #[.int .i64 (p.1.k : Int), .int .u8 (p.1.c.toNat : Int), .int .i64 (p.2.k : Int), .int .u8 (p.2.c.toNat : Int)]
def bothB (p : St × St) : Bool := decide (p.1.k = 3) && decide (p.2.k = 3)

set_option maxHeartbeats 1000000 in
theorem bothDrop_any (p : St × St) (w : World) :
    Calls Tryd.prog 100 #[prA p] w fun e w' => e = .returned (.bool (bothB p)) ∧ Below w.heap.size w w' := by
  unfold prA bothB
  have hw := (Below.refl w.heap.size w).alloc (Nat.le_refl _)
  by_cases h1 : p.1.k = 3
  · have e1 : ((p.1.k : Int) == 3) = true := by rw [h1]; rfl
    rw [decide_eq_true h1, Bool.true_and]
    by_cases h2 : p.2.k = 3
    · have e2 : ((p.2.k : Int) == 3) = true := by rw [h2]; rfl
      rw [decide_eq_true h2]
      clear h1 h2
      go_enter Tryd.func100, Tryd.ntmps100
      go_wp2
      go_ret
      exact ⟨rfl, hw _⟩
    · have e2 : ((p.2.k : Int) == 3) = false := by rw [beq_eq_false_iff_ne]; omega
      rw [decide_eq_false h2]
      clear h1 h2
      go_enter Tryd.func100, Tryd.ntmps100
      go_wp2
      go_ret
      exact ⟨rfl, hw _⟩
  · have e1 : ((p.1.k : Int) == 3) = false := by rw [beq_eq_false_iff_ne]; omega
    rw [decide_eq_false h1, Bool.false_and]
    clear h1
    go_enter Tryd.func100, Tryd.ntmps100
    go_wp2
    go_ret
    exact ⟨rfl, hw _⟩

set_option maxHeartbeats 1000000 in
theorem dropsUnlike_any (p : St × St) (w : World) :
    Calls Tryd.prog 115 #[prA p] w fun e w' => e = .returned (.bool (unl p)) ∧ Below w.heap.size w w' := by
  have B := hide (fun w' => bothDrop_any p w')
  have hu : unl p = (bothB p && decide (p.1.c ≠ p.2.c)) := by unfold unl bothB; rw [Bool.and_assoc]
  rw [hu]
  clear hu
  unfold prA at *
  have hw : ∀ o : Obj, Below w.heap.size w (w.alloc o) := (Below.refl w.heap.size w).alloc (Nat.le_refl _)
  have hcell : ∀ (t : TypeId) (w1 : World), Below (w.alloc (.cells #[.int .i64 (p.1.k : Int), .int .u8 (p.1.c.toNat : Int), .int .i64 (p.2.k : Int), .int .u8 (p.2.c.toNat : Int)] t)).heap.size (w.alloc (.cells #[.int .i64 (p.1.k : Int), .int .u8 (p.1.c.toNat : Int), .int .i64 (p.2.k : Int), .int .u8 (p.2.c.toNat : Int)] t)) w1 → w1.cell? ⟨w.heap.size, 1, none⟩ = some (.int .u8 (p.1.c.toNat : Int)) ∧ w1.cell? ⟨w.heap.size, 3, none⟩ = some (.int .u8 (p.2.c.toNat : Int)) := fun t w1 h => by
    have hh := heap_alloc_new w (.cells #[.int .i64 (p.1.k : Int), .int .u8 (p.1.c.toNat : Int), .int .i64 (p.2.k : Int), .int .u8 (p.2.c.toNat : Int)] t)
    have hb := h.block w.heap.size (by simp)
    constructor <;> (unfold World.cell?; rw [hb, hh]; rfl)
  have HC := hide hcell
  clear hcell
  cases h1 : bothB p with
  | false =>
    rw [h1] at B
    rw [Bool.false_and]
    clear h1
    go_enter Tryd.func115, Tryd.ntmps115
    go_wp2_with fail
    refine (B.out _).mono ?_
    rintro e w1 ⟨rfl, hb1⟩
    have hbw := (hw _).trans (hb1.mono (hw _).size)
    clear hb1
    go_wp2
    go_ret
    exact ⟨rfl, hbw⟩
  | true =>
    rw [h1] at B
    rw [Bool.true_and]
    have hne : ((p.1.c.toNat : Int) != (p.2.c.toNat : Int)) = decide (p.1.c ≠ p.2.c) := by
      by_cases h : p.1.c = p.2.c
      · rw [h]; simp
      · rw [decide_eq_true h]
        simp only [bne_iff_ne, ne_eq]
        intro e
        exact h (UInt8.toNat_inj.1 (by omega))
    generalize decide (p.1.c ≠ p.2.c) = r at *
    clear h1
    go_enter Tryd.func115, Tryd.ntmps115
    go_wp2_with fail
    refine (B.out _).mono ?_
    rintro e w1 ⟨rfl, hb1⟩
    have hbw := (hw _).trans (hb1.mono (hw _).size)
    obtain ⟨k1, k3⟩ := HC.out _ _ hb1
    clear hb1
    go_wp2
    go_ret
    exact ⟨rfl, hbw⟩
theorem prC_at (L : List (St × St)) (i : Nat) (h : i < L.length) : (prC L)[i * 4]? = some (.int .i64 (L[i].1.k : Int)) ∧ (prC L)[i * 4 + 1]? = some (.int .u8 (L[i].1.c.toNat : Int)) ∧ (prC L)[i * 4 + 2]? = some (.int .i64 (L[i].2.k : Int)) ∧ (prC L)[i * 4 + 3]? = some (.int .u8 (L[i].2.c.toNat : Int)) := by
  induction L generalizing i with
  | nil => simp at h
  | cons x L ih =>
    have e : prC (x :: L) = prV x ++ prC L := by simp [prC]
    rw [e]
    cases i with
    | zero => simp [prV]
    | succ i =>
      have := ih i (by simpa using h)
      have hl : (prV x).length = 4 := rfl
      rw [List.getElem?_append_right (by omega), List.getElem?_append_right (by omega), List.getElem?_append_right (by omega), List.getElem?_append_right (by omega), hl]
      rw [show (i + 1) * 4 - 4 = i * 4 by omega, show (i + 1) * 4 + 1 - 4 = i * 4 + 1 by omega, show (i + 1) * 4 + 2 - 4 = i * 4 + 2 by omega, show (i + 1) * 4 + 3 - 4 = i * 4 + 3 by omega]
      exact this

set_option maxRecDepth 100000 in
set_option maxHeartbeats 2000000 in
theorem indexFunc_any {w : World} {B : Nat} {v : Value} {L : List (St × St)} (h : w.ownsRow B 145 4 v L.length (prC L)) (hl : L.length ≤ 2000) :
    Calls Tryd.prog 121 #[v, .func (.func 115) #[] #[]] w fun e w' => (∃ i : Int, e = .returned (.int .i64 i) ∧ decide (0 ≤ i) = L.any unl ∧ i ≤ 2000) ∧ Below w.heap.size w w' := by
  have HO := hide h
  obtain ⟨a0, c0, rfl, hc1, hc2⟩ := own_shp h
  have U := hide (fun p w' => dropsUnlike_any p w')
  clear h
  go_enter Tryd.func121, Tryd.ntmps121
  go_wp2
  go_loopw [8] (fun i wr => ∃ k : Nat, k ≤ L.length ∧ i = .int .i64 k ∧ Hid ((L.take k).any unl = false) ∧ Below w.heap.size w wr) (fun i _ => L.length - (intOf i).toNat)
  case atStart => exact ⟨0, by omega, rfl, hide rfl, Below.refl _ _⟩
  case round =>
    obtain ⟨k, hk, rfl, hno, hbel⟩ := hrel
    by_cases hlt : k < L.length
    · obtain ⟨g, cp, ev, -, -, -, hg, hcl, -⟩ := own_cat (own_below HO.out hbel) (by omega)
      cases ev
      obtain ⟨p0, p1, p2, p3⟩ := prC_at L k hlt
      have q0 := hcl _ _ p0
      have q1 := hcl _ _ p1
      have q2 := hcl _ _ p2
      have q3 := hcl _ _ p3
      have U1 := U.out L[k]
      unfold prA at U1
      clear hcl p0 p1 p2 p3
      cases hu : unl L[k] with
      | true =>
        simp only [hu] at U1
        have U2 := hide U1
        have hany : L.any unl = true := List.any_eq_true.2 ⟨L[k], List.getElem_mem hlt, hu⟩
        have HA := hide hany
        clear U1 hu hany
        go_wp2_with fail
        refine (U2.out _).mono ?_
        rintro e w2 ⟨rfl, hb2⟩
        have hbw := hbel.trans (hb2.mono hbel.size)
        clear hb2
        go_wp2
        go_ret
        exact ⟨⟨_, rfl, by rw [HA.out]; exact decide_eq_true (by omega), by omega⟩, hbw⟩
      | false =>
        simp only [hu] at U1
        have U2 := hide U1
        have HA : Hid ((L.take (k + 1)).any unl = false) := hide (by rw [List.take_succ_eq_append_getElem hlt, List.any_append, hno.out]; simp [hu])
        clear U1 hu
        go_wp2_with fail
        refine (U2.out _).mono ?_
        rintro e w2 ⟨rfl, hb2⟩
        have hbw := hbel.trans (hb2.mono hbel.size)
        clear hb2
        go_wp2
        go_roundw
        case rel => exact ⟨k + 1, by omega, by go_num, HA, hbw⟩
        case measure => simp [intOf]; omega
    · obtain rfl : k = L.length := by omega
      have := hno.out
      rw [List.take_length] at this
      have HA := hide this
      clear this
      go_wp2
      go_ret
      exact ⟨⟨_, rfl, by rw [HA.out]; rfl, by omega⟩, hbel⟩

set_option maxHeartbeats 1000000 in
theorem containsFunc_any {w : World} {B : Nat} {v : Value} {L : List (St × St)} (h : w.ownsRow B 145 4 v L.length (prC L)) (hl : L.length ≤ 2000) :
    Calls Tryd.prog 114 #[v, .func (.func 115) #[] #[]] w fun e w' => e = .returned (.bool (L.any unl)) ∧ Below w.heap.size w w' := by
  have I := hide (indexFunc_any h hl)
  obtain ⟨a0, c0, rfl, hc1, hc2⟩ := own_shp h
  clear h
  go_enter Tryd.func114, Tryd.ntmps114
  go_wp2_with fail
  refine I.out.mono ?_
  rintro e w1 ⟨⟨i, rfl, hi, hi2⟩, hb⟩
  have HI := hide hi
  clear hi
  go_wp2
  go_ret
  exact ⟨ret_bool HI.out, hb⟩
end Go.Proofs.YtbooongkbninhaaDoor

namespace Go.Proofs.YtbooongkbninhaaDoor
open Go.RowKit Go.Shelf
open Doc1

def samA (la lb : List Pt) : Bool := samK la lb && likeB (byL la) (byL lb)

set_option maxRecDepth 100000 in
set_option maxHeartbeats 1000000 in
theorem sameI {w : World} {aa ab : Option Addr} {ga ca gb cb : Nat} {la lb : List Pt} (ha : Pin w aa ga ca la) (hb : Pin w ab gb cb lb) (hT : Tab w) :
    Calls Tryd.prog 96 #[.slice aa la.length ca, .slice ab lb.length cb] w fun e w' => e = .returned (.tuple #[.bool (samA la lb), .bool (samK la lb)]) ∧ Below w.heap.size w w' := by
  unfold samA
  cases hk : samK la lb with
  | false =>
    have P := hide (pairsI_bad ha hb hT hk)
    simp only [Bool.false_and]
    clear ha hb hT hk
    go_enter Tryd.func96, Tryd.ntmps96
    go_wp2_with fail
    refine P.out.mono ?_
    rintro e w1 ⟨rfl, hb1⟩
    go_wp2
    go_ret2
    exact ⟨rfl, hb1⟩
  | true =>
    have hk' := hk
    unfold samK at hk'
    simp only [Bool.and_eq_true, decide_eq_true_eq] at hk'
    obtain ⟨g1, g2, ht⟩ := hk'
    have hpa := goodO_pk g1
    have hpb := goodO_pk g2
    have hct : ctk (stL la) = ctk (stL lb) := by
      have h1 := (stL_sums la hpa).1
      have h2 := (stL_sums lb hpb).1
      omega
    have P := hide (pairsI_good ha hb hT g1 g2 ht)
    have hs := same_pairs hpa hpb hct
    have hln := prF_len hct
    have s1 := st_len g1
    have s2 := st_len g2
    rw [hs]
    simp only [Bool.true_and]
    generalize prF (stL la) (stL lb) = F at *
    clear ha hb hT hk hs hct hpa hpb g1 g2 ht
    have CF := hide (fun (w' : World) (B : Nat) (v : Value) (h : w'.ownsRow B 145 4 v F.length (prC F)) => containsFunc_any h (by omega))
    go_enter Tryd.func96, Tryd.ntmps96
    go_wp2_with fail
    refine P.out.mono ?_
    rintro e w1 ⟨v, rfl, ho, hb1⟩
    have C1 := hide (CF.out w1 _ v ho)
    obtain ⟨a0, c0, rfl, -, -⟩ := own_shp ho
    clear ho P CF
    go_wp2_with fail
    refine C1.out.mono ?_
    rintro e w2 ⟨rfl, hb2⟩
    have hbw := hb1.trans (hb2.mono hb1.size)
    go_wp2
    go_ret2
    exact ⟨rfl, hbw⟩

theorem like_step {bx by_ : List UInt8} {k : Nat} (h1 : k < bx.length) (h2 : k < by_.length) : likeB (bx.drop k) (by_.drop k) = ((decide (bx[k] = 0) || (decide (by_[k] = 0) || decide (bx[k] = by_[k]))) && likeB (bx.drop (k + 1)) (by_.drop (k + 1))) := by
  unfold likeB
  rw [List.drop_eq_getElem_cons h1, List.drop_eq_getElem_cons h2, List.zip_cons_cons, List.all_cons]
theorem like_end {bx by_ : List UInt8} {k : Nat} (h1 : bx.length ≤ k) : likeB (bx.drop k) (by_.drop k) = true := by
  rw [List.drop_eq_nil_of_le h1]
  simp [likeB]
theorem u8_ne0 {c : UInt8} (h : c ≠ 0) : ((c.toNat : Int) != 0) = true := by
  simp only [bne_iff_ne, ne_eq]
  intro e
  exact h (UInt8.toNat_inj.1 (by simp; omega))
theorem u8_ne {c d : UInt8} (h : c ≠ d) : ((c.toNat : Int) != (d.toNat : Int)) = true := by
  simp only [bne_iff_ne, ne_eq]
  intro e
  exact h (UInt8.toNat_inj.1 (by omega))

set_option maxRecDepth 100000 in
set_option maxHeartbeats 4000000 in
theorem l4Same_any {w : World} {aa ab : Option Addr} {ga ca gb cb : Nat} {la lb : List Pt} (ha : Pin w aa ga ca la) (hb : Pin w ab gb cb lb) (h6a : la.length ≤ 60) (h6b : lb.length ≤ 60) (hpa : ∀ p ∈ la, pk p ≠ 0) (hpb : ∀ p ∈ lb, pk p ≠ 0) :
    Calls Tryd.prog 89 #[.slice aa la.length ca, .slice ab lb.length cb] w fun e w' => e = .returned (.tuple #[.bool (decide (tkL la = tkL lb) && likeB (byL la) (byL lb)), .bool (decide (tkL la = tkL lb))]) ∧ Below w.heap.size w w' := by
  have BA := hide (l4Bytes_any ha h6a hpa)
  have BB := hide (fun w' (h : Below w.heap.size w w') => l4Bytes_any (hb.later h) h6b hpb)
  have la1 := byL_len la hpa
  have lb1 := byL_len lb hpb
  have bda := (all_bd la hpa).1
  have bdb := (all_bd lb hpb).1
  have hdec : decide (tkL la = tkL lb) = decide ((byL la).length = (byL lb).length) := decide_eq_decide.2 (by omega)
  rw [hdec]
  have hx : (byL la).length ≤ 18000 := by omega
  have hy : (byL lb).length ≤ 18000 := by omega
  clear ha hb hpa hpb hdec la1 lb1 bda bdb
  generalize byL la = bx at *
  generalize byL lb = by_ at *
  by_cases heq : bx.length = by_.length
  · rw [decide_eq_true heq, Bool.true_and]
    obtain ⟨R, hR⟩ : ∃ R, R = likeB bx by_ := ⟨_, rfl⟩
    rw [← hR]
    have HR := hide hR
    clear hR
    go_enter Tryd.func89, Tryd.ntmps89
    go_wp2_with fail
    refine BA.out.mono ?_
    rintro e w1 ⟨v1, rfl, o1, hb1⟩
    have O1 := hide o1
    obtain ⟨a1, c1, rfl, d1, d2⟩ := own_shp o1
    clear o1
    go_wp2_with fail
    refine (BB.out w1 hb1).mono ?_
    rintro e w2 ⟨v2, rfl, o2, hb'⟩
    have hb2 := hb1.trans (hb'.mono hb1.size)
    have O12 := hide (own_below O1.out hb')
    have O2 := hide o2
    obtain ⟨a2, c2, rfl, d3, d4⟩ := own_shp o2
    clear o2 hb' hb1 O1 BA BB
    go_wp2
    go_loopw [20] (fun i wr => ∃ k : Nat, k ≤ bx.length ∧ i = .int .i64 k ∧ Hid (R = likeB (bx.drop k) (by_.drop k)) ∧ Below w2.heap.size w2 wr) (fun i _ => bx.length - (intOf i).toNat)
    case atStart => exact ⟨0, by omega, rfl, hide HR.out, Below.refl _ _⟩
    case round =>
      obtain ⟨k, hk, rfl, hin, hbr⟩ := hrel
      by_cases hlt : k < bx.length
      · have hlt2 : k < by_.length := by omega
        obtain ⟨g1, cp1, ev, -, -, -, -, hc1, -⟩ := own_cat (own_below O12.out hbr) (by omega)
        cases ev
        obtain ⟨g2, cp2, ev, -, -, -, -, hc2, -⟩ := own_cat (own_below O2.out hbr) (by omega)
        cases ev
        have e1 := hc1 k (.int .u8 (bx[k].toNat : Int)) (by simp [byt, hlt])
        have e2 := hc2 k (.int .u8 (by_[k].toNat : Int)) (by simp [byt, hlt2])
        have hstep := hin.out
        rw [like_step hlt hlt2] at hstep
        clear hc1 hc2
        generalize bx[k] = x at *
        generalize by_[k] = y at *
        have hk2 : (k : Int) < (by_.length : Int) := by omega
        by_cases h0 : x = 0
        · rw [decide_eq_true h0, Bool.true_or, Bool.true_and] at hstep
          have HS := hide hstep
          have e0 : ((x.toNat : Int) != 0) = false := by rw [h0]; rfl
          clear hstep h0 hin
          go_wp2_with fail
          go_quiet (fail)
          go_wp2
          go_roundw
          case rel => exact ⟨k + 1, by omega, by go_num, HS, hbr.trans ⟨rfl, rfl, rfl, Nat.le_refl _, fun _ _ => rfl⟩⟩
          case measure => simp [intOf]; omega
        · rw [decide_eq_false h0, Bool.false_or] at hstep
          have f0 := u8_ne0 h0
          by_cases h1 : y = 0
          · rw [decide_eq_true h1, Bool.true_or, Bool.true_and] at hstep
            have HS := hide hstep
            have e0 : ((y.toNat : Int) != 0) = false := by rw [h1]; rfl
            clear hstep h0 h1 hin
            go_wp2_with fail
            go_quiet (fail)
            go_wp2
            go_roundw
            case rel => exact ⟨k + 1, by omega, by go_num, HS, hbr.trans ⟨rfl, rfl, rfl, Nat.le_refl _, fun _ _ => rfl⟩⟩
            case measure => simp [intOf]; omega
          · rw [decide_eq_false h1, Bool.false_or] at hstep
            have f1 := u8_ne0 h1
            by_cases h2 : x = y
            · rw [decide_eq_true h2, Bool.true_and] at hstep
              have HS := hide hstep
              have e0 : ((x.toNat : Int) != (y.toNat : Int)) = false := by rw [h2]; simp
              clear hstep h0 h1 h2 hin
              go_wp2_with fail
              go_quiet (fail)
              go_wp2
              go_roundw
              case rel => exact ⟨k + 1, by omega, by go_num, HS, hbr.trans ⟨rfl, rfl, rfl, Nat.le_refl _, fun _ _ => rfl⟩⟩
              case measure => simp [intOf]; omega
            · rw [decide_eq_false h2, Bool.false_and] at hstep
              have HS := hide hstep
              have e0 := u8_ne h2
              clear hstep h0 h1 h2 hin
              go_wp2_with fail
              go_quiet (fail)
              go_wp2
              go_ret2
              exact ⟨ret_bb HS.out.symm rfl, hb2.trans ((hbr.trans (⟨rfl, rfl, rfl, Nat.le_refl _, fun _ _ => rfl⟩ : Below w2.heap.size wr (wr.drewN nq))).mono hb2.size)⟩
      · have hend := hin.out
        rw [like_end (by omega)] at hend
        have HS := hide hend
        clear hend hin
        go_wp2
        go_ret2
        exact ⟨ret_bb HS.out.symm rfl, hb2.trans (hbr.mono hb2.size)⟩
  · rw [decide_eq_false heq, Bool.false_and]
    have hne : ((bx.length : Int) != (by_.length : Int)) = true := by simpa using (show (bx.length : Int) ≠ (by_.length : Int) by omega)
    go_enter Tryd.func89, Tryd.ntmps89
    go_wp2_with fail
    refine BA.out.mono ?_
    rintro e w1 ⟨v1, rfl, o1, hb1⟩
    obtain ⟨a1, c1, rfl, d1, d2⟩ := own_shp o1
    clear o1
    go_wp2_with fail
    refine (BB.out w1 hb1).mono ?_
    rintro e w2 ⟨v2, rfl, o2, hb'⟩
    have hb2 := hb1.trans (hb'.mono hb1.size)
    obtain ⟨a2, c2, rfl, d3, d4⟩ := own_shp o2
    clear o2 hb' hb1 BA BB heq
    go_wp2
    go_ret2
    exact ⟨rfl, hb2⟩

end Go.Proofs.YtbooongkbninhaaDoor
