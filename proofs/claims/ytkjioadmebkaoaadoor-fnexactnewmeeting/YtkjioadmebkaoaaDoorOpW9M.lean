/- The contract of impl.ApplyOp. The contract of impl.ApplyOp, whatever the arguments. -/
import Derived.Test.YtkjioadmebkaoaaDoorOpW78
import Derived.Test.YtkjioadmebkaoaaDoorOpSM
import Derived.Test.YtkjioadmebkaoaaDoorInAny
import Derived.Sort.QuietIn
namespace Go.Proofs.YtkjioadmebkaoaaDoor
open Go.RowKit Go.Shelf
open Doc1

attribute [local go_sem] Oper.semAt_some

/-- What ApplyOp owns between two rounds. -/
def AO (bs : List Nat) (vo : Value) (k : Nat) : Prop := k ∈ bs ∨ vo.ownBlock = some k
def AJ (Bs R0 R1 Bo Ba : Nat) (s : ByteArray) (pre : List St) (O : Nat → Prop) (W : World) : Prop :=
  ∃ vo o, (Bxd W Bs (.string s) ∧ Bxd W R0 (.string ⟨#[]⟩) ∧ Bxd W R1 (.bool false) ∧ Bxd W Bo vo ∧ Bxd W Ba (.int .i64 (ctk pre : Int))) ∧ W.ownsRow 0 5 1 vo o.length (byt o) ∧
    (∀ x, vo.ownBlock = some x → x ∉ [Bs, R0, R1, Bo, Ba]) ∧ apTL pre (s.data.toList, []) = some (s.data.toList.drop (ctk pre), o) ∧ O = AO [Bs, R0, R1, Bo, Ba] vo
theorem aJ_held (Bs R0 R1 Bo Ba : Nat) (s : ByteArray) : Held (AJ Bs R0 R1 Bo Ba s) := by
  refine ⟨?_, ?_⟩
  · rintro pre O W ⟨vo, o, ⟨h1, h2, h3, h4, h5⟩, ho, hn, ha, rfl⟩ k (hk | hk)
    · simp only [List.mem_cons, List.not_mem_nil, or_false] at hk
      rcases hk with rfl | rfl | rfl | rfl | rfl
      · exact h1.lt
      · exact h2.lt
      · exact h3.lt
      · exact h4.lt
      · exact h5.lt
    · exact own_lt ho hk
  · rintro pre O W W' ⟨vo, o, ⟨h1, h2, h3, h4, h5⟩, ho, hn, ha, rfl⟩ hs hk
    exact ⟨vo, o, ⟨h1.block (hk _ (.inl (by simp))), h2.block (hk _ (.inl (by simp))), h3.block (hk _ (.inl (by simp))), h4.block (hk _ (.inl (by simp))), h5.block (hk _ (.inl (by simp)))⟩, own_move ho (fun x hx => hk x (.inr hx)), hn, ha, rfl⟩
/-- When a round has left. -/
def AX (R0 R1 : Nat) (s : ByteArray) (c : Code) (pre : List St) (O : Nat → Prop) (W : World) : Prop :=
  c = .ret ∧ (Bxd W R0 (.string ⟨#[]⟩) ∧ Bxd W R1 (.bool false)) ∧ apTL pre (s.data.toList, []) = none ∧ O = fun k => k = R0 ∨ k = R1
theorem aX_held (R0 R1 : Nat) (s : ByteArray) (c : Code) : Held (AX R0 R1 s c) := by
  refine ⟨?_, ?_⟩
  · rintro pre O W ⟨_, ⟨h1, h2⟩, _, rfl⟩ k (rfl | rfl)
    · exact h1.lt
    · exact h2.lt
  · rintro pre O W W' ⟨hc, ⟨h1, h2⟩, ha, rfl⟩ hs hk
    exact ⟨hc, ⟨h1.block (hk _ (.inl rfl)), h2.block (hk _ (.inr rfl))⟩, ha, rfl⟩
/-- A row grows by an append within a round. -/
theorem listIn_append {l n' : Nat} {P : Program} (w : World) {ops : Array Oper} {rest : List Oper} {o : Oper} {a : Act} {Q : Exit → Act → World → Prop} (hgd : o.guard = none) (s x : Operand) (t : TypeId)
    (ho : o.op = .call { callee := .builtin .append, args := #[s, x], argTypes := #[t, t] }) (e : TypeId) (i : TypeInfo) (z : Value) (size bytes : Nat) (ht : P.underlying t = some (.slice e)) (hi : P.info? e = some i) (hz : i.zero = some z)
    (hsize : i.size = size) (hby : i.bytes = bytes) (hzs : z.cells.size = size) (hsz : 0 < size) (v : Value) (n : Nat) (xs : List Value) (hs : a.eval s = v) (hown : w.ownsRow 0 e size v n xs)
    (ad : Addr) (m c : Nat) (news : List Value) (hx : a.eval x = .slice (some ad) m c) (hl : news.length = m * size) (hnews : ∀ j u, news[j]? = some u → w.cell? (ad.add j) = some u) (h1 : ∀ u ∈ news, u.oneCell' = true)
    (hm : 0 < m) (h63 : n + m ≤ maxLen) (hbytes : (n + m) * bytes ≤ 140737488355328) (H : Nat) (hH : w.heap.size = H)
    (h : ∀ g cap w', w'.ownsRow 0 e size (.slice (some ⟨g, 0, none⟩) (n + m) cap) (n + m) (xs ++ news) → w.grownBy w' v.ownBlock → (v.ownBlock = some g ∨ g = H) → wpListIn (Fence.wide.inRound l) n' P ops Q rest (a.put o.dst (.slice (some ⟨g, 0, none⟩) (n + m) cap)) w') :
    wpListIn (Fence.wide.inRound l) n' P ops Q (o :: rest) a w :=
  wpListIn_plain hgd fun K hK => operIn_any (by rw [ho]; intro c hc; cases hc)
    (wp_append_lies w s x t ho 0 e i z size bytes ht hi hz hsize hby hzs hsz v n xs hs hown ad m c news hx hl hnews h1 hm h63 hbytes (Nat.zero_le _) H hH (fun g cap w' h1 h2 h3 _ => hK _ _ (h g cap w' h1 h2 h3)))

theorem boxes3_up {W W' : World} {a b c : Value} {t u v : TypeId} (h : Below (((W.alloc (.cells #[a] t)).alloc (.cells #[b] u)).alloc (.cells #[c] v)).heap.size (((W.alloc (.cells #[a] t)).alloc (.cells #[b] u)).alloc (.cells #[c] v)) W') :
    (Bxd W' W.heap.size a ∧ Bxd W' (W.heap.size + 1) b ∧ Bxd W' (W.heap.size + 1 + 1) c) ∧ W.heap.size + 3 ≤ W'.heap.size ∧ Below W.heap.size W W' := by
  refine three_boxes (Φ := fun X => Below X.heap.size X W' → _) ?_ h
  intro X hb hs b1 b2 b3 h
  exact ⟨⟨b1.up h, b2.up h, b3.up h⟩, by have := h.size; omega, hb.trans (h.mono hb.size)⟩
/-- What is made grows by a byte. -/
theorem aj_out {Bs R0 R1 Bo Ba : Nat} {s : ByteArray} {n : Int} {W w3 : World} {vo : Value} {o : List UInt8} {c : UInt8} {gg cap : Nat} (hd : Bs < R0 ∧ R0 < R1 ∧ R1 < Bo ∧ Bo < Ba)
    (hb : Bxd W Bs (.string s) ∧ Bxd W R0 (.string ⟨#[]⟩) ∧ Bxd W R1 (.bool false) ∧ Bxd W Bo vo ∧ Bxd W Ba (.int .i64 n)) (hn : ∀ x, vo.ownBlock = some x → x ∉ [Bs, R0, R1, Bo, Ba])
    (ho : w3.ownsRow 0 5 1 (.slice (some ⟨gg, 0, none⟩) (o.length + 1) cap) (o.length + 1) (byt o ++ [.int .u8 (c.toNat : Int)])) (hg : W.grownBy w3 vo.ownBlock) (hat : vo.ownBlock = some gg ∨ W.heap.size ≤ gg) :
    (Bxd (w3.setCell ⟨Bo, 0, none⟩ (.slice (some ⟨gg, 0, none⟩) (o.length + 1) cap)) Bs (.string s) ∧ Bxd (w3.setCell ⟨Bo, 0, none⟩ (.slice (some ⟨gg, 0, none⟩) (o.length + 1) cap)) R0 (.string ⟨#[]⟩) ∧ Bxd (w3.setCell ⟨Bo, 0, none⟩ (.slice (some ⟨gg, 0, none⟩) (o.length + 1) cap)) R1 (.bool false) ∧ Bxd (w3.setCell ⟨Bo, 0, none⟩ (.slice (some ⟨gg, 0, none⟩) (o.length + 1) cap)) Bo (.slice (some ⟨gg, 0, none⟩) (o.length + 1) cap) ∧ Bxd (w3.setCell ⟨Bo, 0, none⟩ (.slice (some ⟨gg, 0, none⟩) (o.length + 1) cap)) Ba (.int .i64 n)) ∧
    (w3.setCell ⟨Bo, 0, none⟩ (.slice (some ⟨gg, 0, none⟩) (o.length + 1) cap)).ownsRow 0 5 1 (.slice (some ⟨gg, 0, none⟩) (o.length + 1) cap) (o ++ [c]).length (byt (o ++ [c])) ∧
    (∀ x, (Value.slice (some ⟨gg, 0, none⟩) (o.length + 1) cap).ownBlock = some x → x ∉ [Bs, R0, R1, Bo, Ba]) ∧
    Moves (AO [Bs, R0, R1, Bo, Ba] vo) W (AO [Bs, R0, R1, Bo, Ba] (.slice (some ⟨gg, 0, none⟩) (o.length + 1) cap)) (w3.setCell ⟨Bo, 0, none⟩ (.slice (some ⟨gg, 0, none⟩) (o.length + 1) cap)) := by
  obtain ⟨h1, h2, h3, h4, h5⟩ := hb
  obtain ⟨d1, d2, d3, d4⟩ := hd
  have l1 := h1.lt
  have l5 := h5.lt
  have same : ∀ k, k ∈ [Bs, R0, R1, Bo, Ba] → k < W.heap.size → w3.heap[k]? = W.heap[k]? := fun k hk hl => hg.block k hl (fun e => hn k e.symm hk)
  have m1 := h1.block (same Bs (by simp) l1)
  have m2 := h2.block (same R0 (by simp) (by omega))
  have m3 := h3.block (same R1 (by simp) (by omega))
  have m4 := h4.block (same Bo (by simp) (by omega))
  have m5 := h5.block (same Ba (by simp) l5)
  have hv : ∀ x, (Value.slice (some ⟨gg, 0, none⟩) (o.length + 1) cap).ownBlock = some x → x = gg := fun x hx => by
    have : some gg = some x := hx
    injection this with this; exact this.symm
  have hgn : gg ∉ [Bs, R0, R1, Bo, Ba] := by
    rcases hat with e | e
    · exact hn gg e
    · simp; omega
  have hgo : gg ≠ Bo := by simp at hgn; omega
  refine ⟨⟨m1.other (by omega) _, m2.other (by omega) _, m3.other (by omega) _, m4.set _, m5.other (by omega) _⟩, ?_, fun x hx => by rw [hv x hx]; exact hgn, ?_⟩
  · rw [byt_snoc, List.length_append]
    exact own_move ho (fun x hx => by rw [hv x hx]; exact Below.heap_setCell _ _ _ _ hgo)
  · refine ⟨hg.os, hg.tape, hg.output, by simpa using hg.size, fun k hk no => ?_, fun k hk c => ?_⟩
    · have k1 : k ≠ Bo := fun e => no (.inl (by simp [e]))
      exact (Below.heap_setCell _ _ _ _ k1).trans (hg.block k hk (fun e => no (.inr e.symm)))
    · rcases c with c | c
      · exact .inl c
      · have := hv k c
        rcases hat with e | e
        · exact .inr (this ▸ e)
        · omega
theorem grown_al0 {w w2 : World} {ob : Obj} {row : Option Nat} (h : (w.alloc ob).grownBy w2 row) : w.grownBy w2 row :=
  ⟨h.os, h.tape, h.output, by have := h.size; simp at this; omega, fun k hk hn => (h.block k (by simp; omega) hn).trans (Below.heap_alloc w ob k hk)⟩
/-- What is taken grows by a byte. -/
theorem aj_at {Bs R0 R1 Bo Ba : Nat} {s : ByteArray} {n : Int} {W : World} {vo : Value} {o : List UInt8} (hd : Bs < R0 ∧ R0 < R1 ∧ R1 < Bo ∧ Bo < Ba)
    (hb : Bxd W Bs (.string s) ∧ Bxd W R0 (.string ⟨#[]⟩) ∧ Bxd W R1 (.bool false) ∧ Bxd W Bo vo ∧ Bxd W Ba (.int .i64 n)) (ho : W.ownsRow 0 5 1 vo o.length (byt o)) (hn : ∀ x, vo.ownBlock = some x → x ∉ [Bs, R0, R1, Bo, Ba]) (u : Value) :
    (Bxd (W.setCell ⟨Ba, 0, none⟩ u) Bs (.string s) ∧ Bxd (W.setCell ⟨Ba, 0, none⟩ u) R0 (.string ⟨#[]⟩) ∧ Bxd (W.setCell ⟨Ba, 0, none⟩ u) R1 (.bool false) ∧ Bxd (W.setCell ⟨Ba, 0, none⟩ u) Bo vo ∧ Bxd (W.setCell ⟨Ba, 0, none⟩ u) Ba u) ∧
      (W.setCell ⟨Ba, 0, none⟩ u).ownsRow 0 5 1 vo o.length (byt o) ∧ Moves (AO [Bs, R0, R1, Bo, Ba] vo) W (AO [Bs, R0, R1, Bo, Ba] vo) (W.setCell ⟨Ba, 0, none⟩ u) := by
  obtain ⟨h1, h2, h3, h4, h5⟩ := hb
  obtain ⟨d1, d2, d3, d4⟩ := hd
  refine ⟨⟨h1.other (by omega) _, h2.other (by omega) _, h3.other (by omega) _, h4.other (by omega) _, h5.set _⟩, own_move ho (fun x hx => Below.heap_setCell _ _ _ _ (fun e => hn x hx (by simp [e]))), (Moves.refl _ _).setCell (fun _ => .inl (by simp)) _⟩
theorem drop_at {s : List UInt8} {k : Nat} (h : k < s.length) : s.drop k = s[k] :: s.drop (k + 1) := List.drop_eq_getElem_cons h

set_option maxRecDepth 100000 in
set_option maxHeartbeats 4000000 in
theorem applyI_good {w : World} {aw : Option Addr} {g cap : Nat} {l : List Pt} (s : ByteArray) (h : Pin w aw g cap l) (hT : Tab w) (hs : s.size ≤ 1048576) (hg : goodO l = true) (hgs : good s.data.toList = true) (hsz : (s.size : Int) = tkL l) :
    Calls Tryd.prog 26 #[.slice aw l.length cap, .string s] w fun e w' => e = .returned (.tuple #[.string (aplO l s).1, .bool (aplO l s).2]) ∧ Below w.heap.size w w' := by
  have S := hide (fun w' (hb : Below w.heap.size w w') => sizesI_any (h.later hb) (hT.below hb))
  have T := hide (fun w' (hb : Below w.heap.size w w') => goodTextI_any s w' hs (hT.below hb))
  have hsT : szT l = tkL l := by unfold szT; rw [hg]; rfl
  rw [hg, hsT, ← hsz] at S
  rw [hgs] at T
  have hpk := goodO_pk hg
  have SO := hide (fun w' => stepsOf_any (.slice aw l.length cap) w' _ _ _ rfl)
  have H := hide h
  have hHT := hide hT
  have hsum := (stL_sums l hpk).1
  have hct : ctk (stL l) = s.size := by omega
  have hst := st_len hg
  have FIN := hide (aplO_steps hg hgs)
  have hsz' := hide hsz
  clear h hT hg hgs hsum hsT hsz
  have hdep : Fence.wide.depth = none := rfl
  refine (callsIn_wide (n := 6)).1 ?_
  refine callsIn_of_wp_marks Tryd.func26 rfl trivial ?_ rfl
  simp only [Tryd.ntmps26, List.size_toArray, List.length_cons, List.length_nil, Nat.reduceAdd, Nat.reduceSub, Array.replicate_succ, Array.replicate_zero, List.push_toArray, List.append_toArray, List.nil_append, List.cons_append]
  have hb0 : Hid (∀ a b c : Obj, Below w.heap.size w (((w.alloc a).alloc b).alloc c)) := hide (fun a b c => (((Below.refl _ _).alloc (Nat.le_refl _) _).alloc (by simp) _).alloc (by simp; omega) _)
  have cS : Hid (∀ (t : TypeId) (b c : Obj), (((w.alloc (.cells #[.string s] t)).alloc b).alloc c).cell? ⟨w.heap.size, 0, none⟩ = some (.string s)) := hide (fun t b c => (((bxd_new w (.string s) t).up ((Below.refl _ _).alloc (Nat.le_refl _) _)).up ((Below.refl _ _).alloc (Nat.le_refl _) _)).cell)
  gi_wp2_with (first
    | (refine ⟨trivial, ?_⟩; gi_at_call 86; refine (callsIn_wide.2 (S.out _ (hb0.out _ _ _))).mono ?_; rintro e w1 ⟨rfl, hb1⟩; have cs1 := (World.cell?_of_block (a := ⟨w.heap.size, 0, none⟩) (hb1.block _ (by simp; omega))).trans (cS.out _ _ _))
    | (refine ⟨trivial, ?_⟩; gi_at_call 56; refine (callsIn_wide.2 (T.out _ ((hb0.out _ _ _).trans (hb1.mono (hb0.out _ _ _).size)))).mono ?_; rintro e w' ⟨rfl, hw⟩; replace hw := hw.symm; subst hw)
    | (refine ⟨trivial, ?_⟩; gi_at_call 87; refine (callsIn_wide.2 (SO.out _)).mono ?_; rintro e w' ⟨rfl, hw⟩; replace hw := hw.symm; subst hw))
  obtain ⟨⟨q1, q2, q3⟩, hsw, hbw⟩ := boxes3_up hb1
  have R3 := hide hbw
  refine three_boxes (Φ := fun W2 => Code.wpIn _ _ _ _ _ _ W2) ?_
  intro W2 hB2 hs2 bo bA bq
  have hbW : Below w.heap.size w W2 := R3.out.trans (hB2.mono R3.out.size)
  have pin2 := H.out.later hbW
  have tab2 := hHT.out.below hbW
  have ltT := hHT.out.lt
  have ltg := H.out.lt
  have hd : w.heap.size < w.heap.size + 1 ∧ w.heap.size + 1 < w.heap.size + 1 + 1 ∧ w.heap.size + 1 + 1 < w1.heap.size ∧ w1.heap.size < w1.heap.size + 1 := by omega
  have hJ := aJ_held w.heap.size (w.heap.size + 1) (w.heap.size + 1 + 1) w1.heap.size (w1.heap.size + 1) s
  refine wpIn_range rfl (enters_of Tryd.func152 (by kernel_rfl) rfl) (steps_iter pin2 tab2 bq.cell hpk) (fun _ => rfl)
    (J := AJ w.heap.size (w.heap.size + 1) (w.heap.size + 1 + 1) w1.heap.size (w1.heap.size + 1) s) (Jx := AX (w.heap.size + 1) (w.heap.size + 1 + 1) s) (O := AO [w.heap.size, w.heap.size + 1, w.heap.size + 1 + 1, w1.heap.size, w1.heap.size + 1] (.slice none 0 0)) hJ (aX_held _ _ _) (Nat.le_refl _)
    (by
      rintro k (rfl | rfl | rfl)
      · exact ⟨by omega, rfl, fun c => c.elim (fun c => by simp at c; omega) (fun c => by cases c)⟩
      · exact ⟨by omega, rfl, fun c => c.elim (fun c => by simp at c; omega) (fun c => by cases c)⟩
      · exact ⟨by omega, rfl, fun c => c.elim (fun c => by simp at c; omega) (fun c => by cases c)⟩)
    ⟨.slice none 0 0, [], ⟨q1.up hB2, q2.up hB2, q3.up hB2, bo, bA⟩, World.ownsRow_nil _ _ _ _, (fun x hx => by cases hx), by simp [apTL, ctk], rfl⟩
    (xAx_held hJ (fun x Bx => { tmps := #[.slice aw l.length cap, .string s, undef, .pointer (some ⟨w.heap.size, 0, none⟩), .pointer (some ⟨w.heap.size + 1, 0, none⟩), .pointer (some ⟨w.heap.size + 1 + 1, 0, none⟩), .int .i64 (s.size : Int), .int .i64 (szM l), .bool true, .pointer (some ⟨w1.heap.size, 0, none⟩), .pointer (some ⟨w1.heap.size + 1, 0, none⟩), .pointer (some ⟨Bx, 0, none⟩), .tuple #[.int .i64 (s.size : Int), .int .i64 (szM l), .bool true], .slice aw l.length cap, .tuple #[.int .i64 (s.size : Int), .int .i64 (szM l), .bool true], .int .i64 (s.size : Int), .int .i64 (szM l), .bool true, .bool true, .bool false, .bool false, .string s, .int .i64 (s.size : Int), .int .i64 (s.size : Int), .bool false, .bool false, .bool false, .string s, .bool true, .bool false, .bool false, .slice aw l.length cap, .func (.func 152) #[] #[.pointer (some ⟨w1.heap.size + 1 + 1, 0, none⟩)], .agg #[.int .i64 (x.k : Int), .int .u8 (x.c.toNat : Int)], undef, undef, undef, undef, undef, undef, undef, undef, undef, undef, undef, undef, undef, undef, undef, undef, undef, undef, undef, undef, undef, undef, undef, undef, undef, undef, undef, undef, undef, undef, undef], defers := [] }))
    ?assigned ?round ?done ?stop
  case assigned =>
    rintro l1 pre x O W K hj hx hK
    have hbx := box2_new W (.int .i64 (x.k : Int)) (.int .u8 (x.c.toNat : Int))
    simp only [stE, stV]
    gi_wp2
    exact hK _ _ _ ((Moves.refl _ _).alloc _) ⟨O, W.heap.size, hJ.up hj ((Below.refl _ _).alloc (Nat.le_refl _) _), fun _ => Iff.rfl, fun c => absurd (hJ.lt hj _ c) (by omega), hbx _, rfl⟩
  case round =>
    rintro l1 pre x a' O W ⟨O1, Bx, ⟨vo, o, hbs, ho, hn, ha, rfl⟩, hB, hnB, hbx, rfl⟩ hl1 hnl hx
    have hso := (stL_so hpk x (hx.subset (by simp))).1
    have hlen : pre.length ≤ 600 := by have := pre_len hx; simp at this; omega
    have hol : o.length ≤ 600 := by have := (apTL_left pre _ _ _ (fun q hq => (stL_so hpk q (hx.subset (by simp [hq]))).1) ha).2.2; simp at this; omega
    have hcp := ctk_pre hx
    rw [hct, ctk_snoc] at hcp
    obtain ⟨u0, hu0, hz0, hz1, hz2⟩ := info_parts Tryd.infoByt
    obtain ⟨b1, b2, b3, b4, b5⟩ := hbs
    have HBS : Hid (Bxd W w.heap.size (.string s) ∧ Bxd W (w.heap.size + 1) (.string ⟨#[]⟩) ∧ Bxd W (w.heap.size + 1 + 1) (.bool false) ∧ Bxd W w1.heap.size vo ∧ Bxd W (w1.heap.size + 1) (.int .i64 (ctk pre : Int))) := hide ⟨b1, b2, b3, b4, b5⟩
    have e1 := b1.cell
    have e4 := b4.cell
    have e5 := b5.cell
    have f4 := b4.fz
    have f5 := b5.fz
    have e2 := b2.cell
    have f2 := b2.fz
    have e3 := b3.cell
    have f3 := b3.fz
    obtain ⟨c0, c1⟩ := hbx.cells
    have lt4 := b4.lt
    have lt5 := b5.lt
    have ne4 : vo.ownBlock ≠ some w1.heap.size := fun e => hn _ e (by simp)
    have ne5 : vo.ownBlock ≠ some (w1.heap.size + 1) := fun e => hn _ e (by simp)
    have HB := hide hB
    have HN := hide hn
    have HA := hide ha
    have HO := hide ho
    have hpre := hide hx
    have hmix : Tryd.prog.follows .mixedOrders = true := by kernel_rfl
    have MV : Hid (∀ O' W', Moves (AO [w.heap.size, w.heap.size + 1, w.heap.size + 1 + 1, w1.heap.size, w1.heap.size + 1] vo) W O' W' → Moves O W O' W') := hide (fun O' W' m => m.wider (fun k _ c => (HB.out k).2 (.inl c)) (fun k hk c => (HB.out k).2 (.inl (m.own k hk c))))
    clear hB hn ha hx b1 b2 b3 b4 b5 hnB hbx hnl hl1 hlen
    obtain ⟨k, c⟩ := x
    rcases hso with e | e | e <;> (simp only at e; subst e)
    · have hat : ctk pre < s.size := by simp at hcp; omega
      clear hcp
      have hatI : (ctk pre : Int) < (s.size : Int) := by omega
      have hat0 : (0 : Int) ≤ (ctk pre : Int) := by omega
      have hgl : ctk pre < s.data.toList.length := by rw [← sz_list]; exact hat
      have hget : s.data.toList[ctk pre] = s[ctk pre] := by simp [ByteArray.getElem_eq_getElem_data]
      have hck : ((ctk (pre ++ [(⟨1, c⟩ : St)]) : Nat) : Int) = (ctk pre : Int) + 1 := by rw [ctk_snoc]; simp
      have hap : Hid (apTL (pre ++ [⟨1, c⟩]) (s.data.toList, []) = some (s.data.toList.drop (ctk (pre ++ [(⟨1, c⟩ : St)])), o ++ [s[ctk pre]])) := hide (by
        rw [apTL_snoc, HA.out, Option.bind_some, ctk_snoc]
        unfold apT
        rw [drop_at hgl]
        simp [hget])
      gi_wp2_with fail
      have hS : W.drew.cell? ⟨w.heap.size, 0, none⟩ = some (.string s) ∧ W.drew.cell? ⟨w1.heap.size + 1, 0, none⟩ = some (.int .i64 (ctk pre : Int)) := ⟨e1, e5⟩
      have lt1 := World.block_lt_of_cell? W _ e1
      have ne1 : vo.ownBlock ≠ some w.heap.size := fun e => HN.out _ e (by simp)
      refine regionIn_any hmix (by kernel_rfl) (fun _ _ h => h) ?_
      refine wpAny_of_held (S := (fun w' => w'.cell? ⟨w.heap.size, 0, none⟩ = some (.string s) ∧ w'.cell? ⟨w1.heap.size + 1, 0, none⟩ = some (.int .i64 (ctk pre : Int)))) _ _ _ _ ?_
      refine wpAnyH_take (i := 1) (v := .string s) rfl (by kernel_rfl) (by kernel_rfl) (by kernel_rfl) (fun _ _ _ h => h) (Or.inl ⟨by rfl, fun w' hw => by obtain ⟨x2, x3⟩ := hw; go_simp⟩) hS ?_
      refine wpAnyH_take (i := 2) (v := .int .i64 (ctk pre : Int)) rfl (by kernel_rfl) (by kernel_rfl) (by kernel_rfl) (fun _ _ _ h => h) (Or.inl ⟨by rfl, fun w' hw => by obtain ⟨x2, x3⟩ := hw; go_simp⟩) hS ?_
      refine wpAnyH_take (i := 3) (v := .int .u8 (s[ctk pre].toNat : Int)) rfl (by kernel_rfl) (by kernel_rfl) (by kernel_rfl) (fun _ _ _ h => h) (Or.inl ⟨by rfl, fun w' hw => by obtain ⟨x2, x3⟩ := hw; go_simp⟩) hS ?_
      refine wpAnyH_ready (rs := [0, 4]) (by kernel_rfl) (by simp) ?_
      refine AllReadyH.cons rfl (fun K hK => ?_) (AllReadyH.cons rfl (fun K hK => ?_) AllReadyH.nil)
      · go_simp
        refine hK.out _ _ hS (fun hS1 => ?_)
        clear hK K
        refine wpAnyH_ready (rs := [4]) (by kernel_rfl) (by simp) ?_
        refine AllReadyH.cons rfl (fun K hK => ?_) AllReadyH.nil
        go_simp
        refine hK.out _ _ ⟨cl_al W _ _ e1, cl_al W _ _ e5⟩ (fun hS1 => ?_)
        clear hK K
        refine wpAnyH_ready (rs := [5]) (by kernel_rfl) (by simp) ?_
        refine AllReadyH.cons rfl (fun K hK => ?_) AllReadyH.nil
        refine step_append_lies _ (by rfl) _ _ _ (by rfl) 0 5 u0 _ 1 1 Tryd.underlying22 hu0 hz0 hz1 hz2 rfl (by omega) vo o.length (byt o) (by rfl) ((HO.out.alloc _).drew)
          ⟨W.heap.size, 0, none⟩ 1 1 [.int .u8 (s[ctk pre].toNat : Int)] (by rfl) (by rfl) (World.news_of_block (cs := #[.int .u8 (s[ctk pre].toNat : Int)]) (t := 5) (fr := (0, 0)) (heap_alloc_new W _)) (by simp [Value.oneCell'])
          (by omega) (by unfold maxLen; omega) (by omega) (by omega) (W.heap.size + 1) (by simp) ?_
        intro gg cap' w3 hown1 hgrow hat2 hlt2
        have hcz := (hgrow.cell_far ⟨w1.heap.size, 0, none⟩ (by simp; omega) (Ne.symm ne4)).trans (cl_al W _ _ e4)
        have hfz := (hgrow.frozen_far ⟨w1.heap.size, 0, none⟩ (by simp; omega) (Ne.symm ne4)).trans (fz_al W _ _ lt4 f4)
        have hc1 := (hgrow.cell_far ⟨w.heap.size, 0, none⟩ (by simp; omega) (Ne.symm ne1)).trans (cl_al W _ _ e1)
        have hc5 := (hgrow.cell_far ⟨w1.heap.size + 1, 0, none⟩ (by simp; omega) (Ne.symm ne5)).trans (cl_al W _ _ e5)
        refine hK.out _ _ ⟨hc1, hc5⟩ (fun hS2 => ?_)
        clear hK K
        obtain ⟨A1, A2, A3, A4⟩ := aj_out hd HBS.out HN.out hown1 (grown_al hgrow) (hat2.imp id (fun e => by omega))
        have g1 := A1.1.cell
        have g5 := A1.2.2.2.2.cell
        have z5 := A1.2.2.2.2.fz
        have B := hide (aj_at hd A1 A2 A3 (.int .i64 ((ctk pre : Int) + 1)))
        have HA4 := hide A4
        have HA3 := hide A3
        clear hgrow hown1 A1 A2 A3 A4 hat2 hlt2
        refine wpAnyH_ready (rs := [6]) (by kernel_rfl) (by simp) ?_
        refine AllReadyH.cons rfl (fun K hK => ?_) AllReadyH.nil
        go_simp
        refine hK.out _ _ ⟨g1, g5⟩ (fun hS3 => ?_)
        clear hK K
        refine wpAnyH_done (by kernel_rfl) ?_ _
        clear hcz hfz hc1 hc5
        gi_wp2
        refine ⟨_, MV.out _ _ (HA4.out.trans B.out.2.2), _, _, ?_, B.out.2.1, HA3.out, hap.out, rfl⟩
        rw [hck]; exact B.out.1
      · go_simp
        refine hK.out _ _ ⟨cl_al W _ _ e1, cl_al W _ _ e5⟩ (fun hS1 => ?_)
        clear hK K
        have e4a : ∀ ob : Obj, (W.alloc ob).drew.cell? ⟨w1.heap.size, 0, none⟩ = some vo := fun ob => cl_al W ob _ e4
        refine wpAnyH_ready (rs := [0]) (by kernel_rfl) (by simp) ?_
        refine AllReadyH.cons rfl (fun K hK => ?_) AllReadyH.nil
        go_simp
        refine hK.out _ _ ⟨cl_al W _ _ e1, cl_al W _ _ e5⟩ (fun hS1 => ?_)
        clear hK K
        clear e4a
        refine wpAnyH_ready (rs := [5]) (by kernel_rfl) (by simp) ?_
        refine AllReadyH.cons rfl (fun K hK => ?_) AllReadyH.nil
        refine step_append_lies _ (by rfl) _ _ _ (by rfl) 0 5 u0 _ 1 1 Tryd.underlying22 hu0 hz0 hz1 hz2 rfl (by omega) vo o.length (byt o) (by rfl) ((HO.out.alloc _).drew)
          ⟨W.heap.size, 0, none⟩ 1 1 [.int .u8 (s[ctk pre].toNat : Int)] (by rfl) (by rfl) (World.news_of_block (cs := #[.int .u8 (s[ctk pre].toNat : Int)]) (t := 5) (fr := (0, 0)) (heap_alloc_new W _)) (by simp [Value.oneCell'])
          (by omega) (by unfold maxLen; omega) (by omega) (by omega) (W.heap.size + 1) (by simp) ?_
        intro gg cap' w3 hown1 hgrow hat2 hlt2
        have hcz := (hgrow.cell_far ⟨w1.heap.size, 0, none⟩ (by simp; omega) (Ne.symm ne4)).trans (cl_al W _ _ e4)
        have hfz := (hgrow.frozen_far ⟨w1.heap.size, 0, none⟩ (by simp; omega) (Ne.symm ne4)).trans (fz_al W _ _ lt4 f4)
        have hc1 := (hgrow.cell_far ⟨w.heap.size, 0, none⟩ (by simp; omega) (Ne.symm ne1)).trans (cl_al W _ _ e1)
        have hc5 := (hgrow.cell_far ⟨w1.heap.size + 1, 0, none⟩ (by simp; omega) (Ne.symm ne5)).trans (cl_al W _ _ e5)
        refine hK.out _ _ ⟨hc1, hc5⟩ (fun hS2 => ?_)
        clear hK K
        obtain ⟨A1, A2, A3, A4⟩ := aj_out hd HBS.out HN.out hown1 (grown_al hgrow) (hat2.imp id (fun e => by omega))
        have g1 := A1.1.cell
        have g5 := A1.2.2.2.2.cell
        have z5 := A1.2.2.2.2.fz
        have B := hide (aj_at hd A1 A2 A3 (.int .i64 ((ctk pre : Int) + 1)))
        have HA4 := hide A4
        have HA3 := hide A3
        clear hgrow hown1 A1 A2 A3 A4 hat2 hlt2
        refine wpAnyH_ready (rs := [6]) (by kernel_rfl) (by simp) ?_
        refine AllReadyH.cons rfl (fun K hK => ?_) AllReadyH.nil
        go_simp
        refine hK.out _ _ ⟨g1, g5⟩ (fun hS3 => ?_)
        clear hK K
        refine wpAnyH_done (by kernel_rfl) ?_ _
        clear hcz hfz hc1 hc5
        gi_wp2
        refine ⟨_, MV.out _ _ (HA4.out.trans B.out.2.2), _, _, ?_, B.out.2.1, HA3.out, hap.out, rfl⟩
        rw [hck]; exact B.out.1
    · have hck : ctk (pre ++ [(⟨2, c⟩ : St)]) = ctk pre := by rw [ctk_snoc]; simp
      have hap : Hid (apTL (pre ++ [⟨2, c⟩]) (s.data.toList, []) = some (s.data.toList.drop (ctk (pre ++ [(⟨2, c⟩ : St)])), o ++ [c])) := hide (by
        rw [apTL_snoc, HA.out, Option.bind_some, hck]
        simp [apT])
      clear hcp
      gi_wp2_with (gi_at_builtin; refine listIn_append _ rfl _ _ 22 rfl 5 u0 _ 1 1 Tryd.underlying22 hu0 hz0 hz1 hz2 rfl (by omega) vo o.length (byt o) rfl (HO.out.alloc _) ⟨W.heap.size, 0, none⟩ 1 1 [.int .u8 (c.toNat : Int)] rfl rfl (World.news_of_block (cs := #[.int .u8 (c.toNat : Int)]) (t := 5) (fr := (0, 0)) (heap_alloc_new W _)) (by simp [Value.oneCell']) (by omega) (by unfold maxLen; omega) (by omega) (W.heap.size + 1) (by simp) ?_; intro gg cap' w3 hown1 hgrow hat; have hcz := (hgrow.cell_far ⟨w1.heap.size, 0, none⟩ (by simp; omega) (Ne.symm ne4)).trans (World.cell?_of_block (Below.heap_alloc W _ _ lt4) |>.trans e4); have hfz := (hgrow.frozen_far ⟨w1.heap.size, 0, none⟩ (by simp; omega) (Ne.symm ne4)).trans (World.frozen?_of_block (Below.heap_alloc W _ _ lt4) |>.trans f4))
      obtain ⟨A1, A2, A3, A4⟩ := aj_out hd HBS.out HN.out hown1 (grown_al0 hgrow) (hat.imp id (fun e => by omega))
      refine ⟨_, MV.out _ _ A4, _, _, ?_, A2, A3, hap.out, rfl⟩
      rw [hck]; exact A1
    · have hat : ctk pre < s.size := by simp at hcp; omega
      clear hcp
      have hatI : (ctk pre : Int) < (s.size : Int) := by omega
      have hat0 : (0 : Int) ≤ (ctk pre : Int) := by omega
      have hgl : ctk pre < s.data.toList.length := by rw [← sz_list]; exact hat
      have hget : s.data.toList[ctk pre] = s[ctk pre] := by simp [ByteArray.getElem_eq_getElem_data]
      have hck : ((ctk (pre ++ [(⟨3, c⟩ : St)]) : Nat) : Int) = (ctk pre : Int) + 1 := by rw [ctk_snoc]; simp
      by_cases hc : s[ctk pre] = c
      · have hbe : ((s[ctk pre].toNat : Int) != (c.toNat : Int)) = false := by rw [hc]; simp
        have hap : Hid (apTL (pre ++ [⟨3, c⟩]) (s.data.toList, []) = some (s.data.toList.drop (ctk (pre ++ [(⟨3, c⟩ : St)])), o)) := hide (by
          rw [apTL_snoc, HA.out, Option.bind_some, ctk_snoc]
          unfold apT
          rw [drop_at hgl]
          simp [hget, hc])
        have A := hide (aj_at hd HBS.out HO.out HN.out (.int .i64 ((ctk pre : Int) + 1)))
        clear hc hget
        gi_wp2_with fail
        gi_region_with_o (fail)
        all_goals
          gi_wp2
          refine ⟨_, MV.out _ _ A.out.2.2.drew, hJ.kept (W := W.setCell ⟨w1.heap.size + 1, 0, none⟩ (.int .i64 ((ctk pre : Int) + 1))) ⟨vo, o, ?_, A.out.2.1, HN.out, hap.out, rfl⟩ (Nat.le_refl _) (fun _ _ => rfl)⟩
          rw [hck]; exact A.out.1
      · have hbe : ((s[ctk pre].toNat : Int) != (c.toNat : Int)) = true := by
          simp only [bne_iff_ne, ne_eq]
          intro e
          exact hc (UInt8.toNat_inj.1 (by omega))
        have hap : Hid (apTL (pre ++ [⟨3, c⟩]) (s.data.toList, []) = none) := hide (by
          rw [apTL_snoc, HA.out, Option.bind_some]
          unfold apT
          rw [drop_at hgl]
          simp [hget, hc])
        have g3 := fun v => (HBS.out.2.2.1.other (B' := w.heap.size + 1) (by omega) v).cell
        have z3 := fun v => (HBS.out.2.2.1.other (B' := w.heap.size + 1) (by omega) v).fz
        have X1 := hide ((HBS.out.2.1.set (.string ⟨#[]⟩)).other (B' := w.heap.size + 1 + 1) (by omega) (.bool false))
        have X2 := hide ((HBS.out.2.2.1.other (B' := w.heap.size + 1) (by omega) (.string ⟨#[]⟩)).set (.bool false))
        have MX : Hid (Moves (AO [w.heap.size, w.heap.size + 1, w.heap.size + 1 + 1, w1.heap.size, w1.heap.size + 1] vo) W (fun k => k = w.heap.size + 1 ∨ k = w.heap.size + 1 + 1) ((W.setCell ⟨w.heap.size + 1, 0, none⟩ (.string ⟨#[]⟩)).setCell ⟨w.heap.size + 1 + 1, 0, none⟩ (.bool false)).drew) :=
          hide ((((Moves.refl _ _).setCell (fun _ => .inl (by simp)) _).setCell (fun _ => .inl (by simp)) _).wider (fun _ _ c => c) (fun k _ c => .inl (by rcases c with rfl | rfl <;> simp))).drew
        clear hc hget
        gi_wp2_with fail
        gi_region_with_o (fail)
        all_goals
          gi_wp2
          exact ⟨_, MV.out _ _ MX.out, rfl, ⟨X1.out.block rfl, X2.out.block rfl⟩, hap.out, rfl⟩
  case done =>
    rintro D O' W hD hnD ⟨vo, o, ⟨b1, b2, b3, b4, b5⟩, ho, hn, ha, rfl⟩ mv hK
    have hct2 : s.data.toList.drop (ctk (stL l)) = [] := by rw [hct, sz_list]; simp
    rw [hct2] at ha
    have hans := hide (FIN.out.1 o hsz'.out ha)
    have e4 := b4.cell
    have e2 := b2.cell
    have f2 := b2.fz
    have e3 := (b3.other (B' := w.heap.size + 1) (by omega) (.string (ba o))).cell
    have f3 := (b3.other (B' := w.heap.size + 1) (by omega) (.string (ba o))).fz
    have hcv : (convert 22 9 vo).run Tryd.prog W = .ok (.string (ba o)) W := conv_own ho
    have nD1 : D ≠ w.heap.size + 1 := fun e => hnD (.inl (by simp [e]))
    have nD2 : D ≠ w.heap.size + 1 + 1 := fun e => hnD (.inl (by simp [e]))
    have Y1 := (b2.set (.string (ba o))).other (B' := w.heap.size + 1 + 1) (by omega) (.bool true)
    have Y2 := (b3.other (B' := w.heap.size + 1) (by omega) (.string (ba o))).set (.bool true)
    have hK2 : ((W.setCell ⟨w.heap.size + 1, 0, none⟩ (.string (ba o))).setCell ⟨w.heap.size + 1 + 1, 0, none⟩ (.bool true)).heap[D]? = some (.deferred (some [])) := ((Below.heap_setCell _ _ _ _ nD2).trans (Below.heap_setCell _ _ _ _ nD1)).trans hK
    have k1 := (Y1.block (W' := ((W.setCell ⟨w.heap.size + 1, 0, none⟩ (.string (ba o))).setCell ⟨w.heap.size + 1 + 1, 0, none⟩ (.bool true)).putObj D (.deferred none)) (World.putObj_heap_other (Ne.symm nD1))).cell
    have k2 := (Y2.block (W' := ((W.setCell ⟨w.heap.size + 1, 0, none⟩ (.string (ba o))).setCell ⟨w.heap.size + 1 + 1, 0, none⟩ (.bool true)).putObj D (.deferred none)) (World.putObj_heap_other (Ne.symm nD2))).cell
    have hfin : Hid (Below w.heap.size w (((W.setCell ⟨w.heap.size + 1, 0, none⟩ (.string (ba o))).setCell ⟨w.heap.size + 1 + 1, 0, none⟩ (.bool true)).putObj D (.deferred none))) := hide (by
      have h1 : Below w.heap.size w W := hbW.trans (mv.below (by omega) (fun k hk c => c.elim (fun c => by simp at c; omega) (fun c => by cases c)))
      have h2 := (h1.setCell (p := ⟨w.heap.size + 1, 0, none⟩) (by show _ ≤ _ + 1; omega) (.string (ba o))).setCell (p := ⟨w.heap.size + 1 + 1, 0, none⟩) (by show _ ≤ _ + 1 + 1; omega) (.bool true)
      exact h2.trans ⟨rfl, rfl, rfl, by simp, fun k hk => World.putObj_heap_other (by omega)⟩)
    clear b1 b2 b3 b4 b5 ho hn ha hnD mv Y1 Y2 hK
    gi_wp2
    refine ⟨by simp, .inl ⟨_, _, rfl, run_takeDeferred hK2, ?_⟩⟩
    refine ⟨.tuple #[.string (ba o), .bool true], ?_, by rw [hans.out], hfin.out⟩
    simp [results, Tryd.f26, go_sem, k1, k2]
  case stop =>
    rintro D c pre O' W hD hnD hpre ⟨rfl, ⟨b2, b3⟩, ha, rfl⟩ mv hK
    have hans := hide (FIN.out.2.1 (apTL_none hpre ha))
    have nD1 : D ≠ w.heap.size + 1 := fun e => hnD (.inl e)
    have nD2 : D ≠ w.heap.size + 1 + 1 := fun e => hnD (.inr e)
    have k1 := (b2.block (W' := W.putObj D (.deferred none)) (World.putObj_heap_other (Ne.symm nD1))).cell
    have k2 := (b3.block (W' := W.putObj D (.deferred none)) (World.putObj_heap_other (Ne.symm nD2))).cell
    have hfin : Hid (Below w.heap.size w (W.putObj D (.deferred none))) := hide (by
      have h1 : Below w.heap.size w W := hbW.trans (mv.below (by omega) (fun k hk c => c.elim (fun c => by simp at c; omega) (fun c => by cases c)))
      exact h1.trans ⟨rfl, rfl, rfl, by simp, fun k hk => World.putObj_heap_other (by omega)⟩)
    clear b2 b3 ha mv hnD hpre
    gi_wp2
    refine ⟨by simp, .inl ⟨_, _, rfl, run_takeDeferred hK, ?_⟩⟩
    refine ⟨.tuple #[.string ⟨#[]⟩, .bool false], ?_, by rw [hans.out], hfin.out⟩
    simp [results, Tryd.f26, go_sem, k1, k2]
end Go.Proofs.YtkjioadmebkaoaaDoor

namespace Go.Proofs.YtkjioadmebkaoaaDoor
open Go.RowKit
open Doc1

set_option maxRecDepth 100000 in
set_option maxHeartbeats 4000000 in
theorem applyI {w : World} {aw : Option Addr} {g cap : Nat} {l : List Pt} (s : ByteArray) (h : Pin w aw g cap l) (hT : Tab w) (hs : s.size ≤ 1048576) :
    Calls Tryd.prog 26 #[.slice aw l.length cap, .string s] w fun e w' => e = .returned (.tuple #[.string (aplO l s).1, .bool (aplO l s).2]) ∧ Below w.heap.size w w' := by
  by_cases hall : goodO l = true ∧ good s.data.toList = true ∧ (s.size : Int) = tkL l
  · exact applyI_good s h hT hs hall.1 hall.2.1 hall.2.2
  · have S := hide (fun w' (hb : Below w.heap.size w w') => sizesI_any (h.later hb) (hT.below hb))
    have T := hide (fun w' (hb : Below w.heap.size w w') => goodTextI_any s w' hs (hT.below hb))
    have hno : aplO l s = (⟨#[]⟩, false) := by
      by_cases h1 : goodO l = true
      · by_cases h2 : good s.data.toList = true
        · exact (aplO_steps h1 h2).2.2 (fun c => hall ⟨h1, h2, c⟩)
        · unfold aplO; rw [if_neg (fun c => h2 c.2.1)]
      · unfold aplO; rw [if_neg (fun c => h1 c.1)]
    rw [hno]
    clear hno h hT
    have hb0 : Hid (∀ a b c : Obj, Below w.heap.size w (((w.alloc a).alloc b).alloc c)) := hide (fun a b c => (((Below.refl _ _).alloc (Nat.le_refl _) _).alloc (by simp) _).alloc (by simp; omega) _)
    cases h1 : goodO l with
    | false =>
      rw [h1] at S
      clear hall T
      go_enter Tryd.func26, Tryd.ntmps26
      go_wp2_with (go_at_call 86; refine (S.out _ (hb0.out _ _ _)).mono ?_; rintro e w1 ⟨rfl, hb1⟩; obtain ⟨⟨q1, q2, q3⟩, hsw, hbw⟩ := boxes3_up hb1; have e1 := q1.cell; have e2 := q2.cell; have f2 := q2.fz; have e3 := (q3.other (B' := w.heap.size + 1) (by omega) (.string ⟨#[]⟩)).cell; have f3 := (q3.other (B' := w.heap.size + 1) (by omega) (.string ⟨#[]⟩)).fz; have k1 := ((q2.set (.string ⟨#[]⟩)).other (B' := w.heap.size + 1 + 1) (by omega) (.bool false)).cell; have k2 := ((q3.other (B' := w.heap.size + 1) (by omega) (.string ⟨#[]⟩)).set (.bool false)).cell)
      refine bodyPost_ret (v := .tuple #[.string ⟨#[]⟩, .bool false]) (by simp [results, Tryd.results26, go_sem, k1, k2]) rfl ⟨rfl, ?_⟩
      exact (hbw.setCell (p := ⟨w.heap.size + 1, 0, none⟩) (by show _ ≤ _ + 1; omega) _).setCell (p := ⟨w.heap.size + 1 + 1, 0, none⟩) (by show _ ≤ _ + 1 + 1; omega) _
    | true =>
      have hsT : szT l = tkL l := by unfold szT; rw [h1]; rfl
      rw [h1, hsT] at S
      by_cases h2 : (s.size : Int) = tkL l
      · have h3 : good s.data.toList = false := by
          cases h4 : good s.data.toList with
          | false => rfl
          | true => exact absurd ⟨h1, h4, h2⟩ hall
        rw [h3] at T
        rw [← h2] at S
        clear hall h3 h2 hsT h1
        go_enter Tryd.func26, Tryd.ntmps26
        go_wp2_with (first
          | (go_at_call 86; refine (S.out _ (hb0.out _ _ _)).mono ?_; rintro e w1 ⟨rfl, hb1⟩; obtain ⟨⟨q1, q2, q3⟩, hsw, hbw⟩ := boxes3_up hb1; have e1 := q1.cell; have e2 := q2.cell; have f2 := q2.fz; have e3 := (q3.other (B' := w.heap.size + 1) (by omega) (.string ⟨#[]⟩)).cell; have f3 := (q3.other (B' := w.heap.size + 1) (by omega) (.string ⟨#[]⟩)).fz; have k1 := ((q2.set (.string ⟨#[]⟩)).other (B' := w.heap.size + 1 + 1) (by omega) (.bool false)).cell; have k2 := ((q3.other (B' := w.heap.size + 1) (by omega) (.string ⟨#[]⟩)).set (.bool false)).cell)
          | (go_at_call 56; refine (T.out _ hbw).mono ?_; rintro e w' ⟨rfl, hw⟩; replace hw := hw.symm; subst hw))
        refine bodyPost_ret (v := .tuple #[.string ⟨#[]⟩, .bool false]) (by simp [results, Tryd.results26, go_sem, k1, k2]) rfl ⟨rfl, ?_⟩
        exact (hbw.setCell (p := ⟨w.heap.size + 1, 0, none⟩) (by show _ ≤ _ + 1; omega) _).setCell (p := ⟨w.heap.size + 1 + 1, 0, none⟩) (by show _ ≤ _ + 1 + 1; omega) _
      · have hne : ((s.size : Int) != tkL l) = true := by simpa using h2
        clear hall T hsT h1 h2
        go_enter Tryd.func26, Tryd.ntmps26
        go_wp2_with (go_at_call 86; refine (S.out _ (hb0.out _ _ _)).mono ?_; rintro e w1 ⟨rfl, hb1⟩; obtain ⟨⟨q1, q2, q3⟩, hsw, hbw⟩ := boxes3_up hb1; have e1 := q1.cell; have e2 := q2.cell; have f2 := q2.fz; have e3 := (q3.other (B' := w.heap.size + 1) (by omega) (.string ⟨#[]⟩)).cell; have f3 := (q3.other (B' := w.heap.size + 1) (by omega) (.string ⟨#[]⟩)).fz; have k1 := ((q2.set (.string ⟨#[]⟩)).other (B' := w.heap.size + 1 + 1) (by omega) (.bool false)).cell; have k2 := ((q3.other (B' := w.heap.size + 1) (by omega) (.string ⟨#[]⟩)).set (.bool false)).cell)
        refine bodyPost_ret (v := .tuple #[.string ⟨#[]⟩, .bool false]) (by simp [results, Tryd.results26, go_sem, k1, k2]) rfl ⟨rfl, ?_⟩
        exact (hbw.setCell (p := ⟨w.heap.size + 1, 0, none⟩) (by show _ ≤ _ + 1; omega) _).setCell (p := ⟨w.heap.size + 1 + 1, 0, none⟩) (by show _ ≤ _ + 1 + 1; omega) _
end Go.Proofs.YtkjioadmebkaoaaDoor
