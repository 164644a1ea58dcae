/- A region that draws its order, within a round: what is shown of it outside serves within, where nothing of it is deferred and nothing runs out of room. The contract of impl.ApplyOp. The contract of impl.ApplyOp, whatever the arguments. The program's editedPieces. The program's EditRope. The drawings of a change of a text; the drawing of any change, and of a place of what it takes. The texts of ropes that are made, split, joined and edited; EditRope at changes of any length. The drawings of a rope and a place, of a rope and a change, of two ropes. The law FnRopes: a text comes back from its rope, byte by byte, and ropes are joined as texts are. -/
import Derived.OrdersIn
import Derived.Tactics
import Derived.Test.YtkjioadmebkaoaaDoorOpW78
import Derived.Test.YtkjioadmebkaoaaDoorOpSM
import Derived.Sort.QuietIn
import Derived.Test.YtkjioadmebkaoaaDoorEdrS
import Derived.Test.YtkjioadmebkaoaaDoorDrwA
import Derived.Test.YtkjioadmebkaoaaDoorOpOnM
import Derived.Test.YtkjioadmebkaoaaDoorDroM
import Derived.Deep.RegionWith
import Derived.BigQuiet
namespace Go.Proofs.YtkjioadmebkaoaaDoor
open Go

theorem rowsIn_any {l n : Nat} {P : Program} {row : String} {args : Array Value} {w : World} {R : Value → World → Prop} (h : Rows P row args w R) : RowsIn (Fence.wide.inRound l) n P row args w R :=
  fun c cs _ => let ⟨v, w', r, s⟩ := h c cs; ⟨v, w', r, stepsIn_wide.2 s⟩
theorem callsIn_any {l n : Nat} {P : Program} {f : FuncId} {args : Array Value} {w : World} {R : Ending → World → Prop} (h : Calls P f args w R) : CallsIn (Fence.wide.inRound l) n P f args w R := (callsIn_wide (n := n)).2 h
theorem operIn_any {l n : Nat} {P : Program} {o : Oper} {a : Act} {w : World} {K : Act → World → Prop} {Q : Exit → Act → World → Prop} (hd : ∀ c, o.op ≠ .defer c) (h : o.wp P a w K Q) : o.wpIn (Fence.wide.inRound l) n P a w K Q := by
  refine ⟨fun _ _ => trivial, ?_⟩
  rw [Oper.semAt_eq _ _ _ hd]
  unfold Oper.wp at h
  revert h
  generalize (execOp a.eval o).run P w = r
  intro h
  match r, h with
  | .ok (.value _) _, h => exact h
  | .ok .skip _, h => exact h
  | .ok (.defer _) _, h => exact h
  | .ok (.enter _ _) _, h => exact ⟨fun c => (by cases c), callsIn_any h⟩
  | .ok (.row _ _) _, h => exact ⟨fun c => (by cases c), rowsIn_any h⟩
  | .halt (.panic _) _, h => exact h
theorem anyIn_any {l n : Nat} {P : Program} {md : Region.Mode} {ops : Array Oper} {Q : Exit → Act → World → Prop} (hd : ∀ (i : Nat) (o : Oper), ops[i]? = some o → ∀ c, o.op ≠ .defer c) (hQ : ∀ a w, ¬ Q .outgrown a w) :
    ∀ (fuel : Nat) (listed : Array Bool) (a : Act) (w : World), wpAny P md ops Q fuel listed a w → wpAnyIn (Fence.wide.inRound l) n P md ops Q fuel listed a w
  | 0, _, _, _, h => h
  | fuel + 1, listed, a, w, h => by
    refine ⟨h.1, fun i hi => ?_⟩
    have hi := h.2 i hi
    unfold wpOp at hi
    unfold wpOpIn
    cases ho : ops[i]? with
    | none => rw [ho] at hi; exact anyIn_any hd hQ fuel _ _ _ hi
    | some o =>
      rw [ho] at hi
      simp only at hi ⊢
      split
      · rename_i hw
        rw [if_pos hw] at hi
        rcases hi with hi | ⟨_, a₀, w₀, hq⟩
        · exact Oper.wpIn_mono (fun a' w' h' => anyIn_any hd hQ fuel _ a' w' h') (operIn_any (hd i o ho) hi)
        · exact absurd hq (hQ a₀ w₀)
      · rename_i hw
        rw [if_neg hw] at hi
        exact ⟨fun _ _ => trivial, anyIn_any hd hQ fuel _ _ _ hi⟩
/-- None of the operations is a deferred call. -/
def noDefer (ops : Array Oper) : Bool := ops.all fun o => match o.op with | .defer _ => false | _ => true
theorem noDefer_spec {ops : Array Oper} (h : noDefer ops = true) : ∀ (i : Nat) (o : Oper), ops[i]? = some o → ∀ c, o.op ≠ .defer c := by
  intro i o hi c hc
  have := Array.all_eq_true'.1 h o (Array.mem_of_getElem? hi)
  rw [hc] at this
  cases this
theorem regionIn_any {l n id : Nat} {P : Program} {ops : Array Oper} {Q : Exit → Act → World → Prop} {a : Act} {w : World} (hm : P.follows .mixedOrders = true) (hd : noDefer ops = true) (hQ : ∀ a w, ¬ Q .outgrown a w)
    (h : wpAny P .any ops Q ops.size (Array.replicate ops.size false) a w.drew) : (Code.region id ops true).wpIn (Fence.wide.inRound l) n P Q a w :=
  wpIn_region_any hm (anyIn_any (noDefer_spec hd) hQ _ _ _ _ h)
end Go.Proofs.YtkjioadmebkaoaaDoor

namespace Go.Proofs.YtkjioadmebkaoaaDoor
open Go.RowKit Go.Shelf
open Doc1

attribute [local go_sem] Oper.semAt_some

/-- What ApplyOp owns between two rounds. -/
def AO (bs : List Nat) (vo : Value) (k : Nat) : Prop := k ∈ bs ∨ vo.ownBlock = some k
def AJ (Bs R0 R1 Bo Ba : Nat) (s : ByteArray) (pre : List St) (O : Nat → Prop) (W : World) : Prop :=
  ∃ vo o, (Bxd W Bs (.string s) ∧ Bxd W R0 (.string ⟨#[]⟩) ∧ Bxd W R1 (.bool false) ∧ Bxd W Bo vo ∧ Bxd W Ba (.int .i64 (ctk pre : Int))) ∧ W.ownsRow 0 5 1 vo o.length (byt o) ∧
    (∀ x, vo.ownBlock = some x → x ∉ [Bs, R0, R1, Bo, Ba]) ∧ apTL pre (s.data.toList, []) = some (s.data.toList.drop (ctk pre), o) ∧ O = AO [Bs, R0, R1, Bo, Ba] vo
theorem aJ_held (Bs R0 R1 Bo Ba : Nat) (s : ByteArray) : Held (AJ Bs R0 R1 Bo Ba s) := by
  refine ⟨?_, ?_⟩
  · rintro pre O W ⟨vo, o, ⟨h1, h2, h3, h4, h5⟩, ho, hn, ha, rfl⟩ k (hk | hk)
    · simp only [List.mem_cons, List.not_mem_nil, or_false] at hk
      rcases hk with rfl | rfl | rfl | rfl | rfl
      · exact h1.lt
      · exact h2.lt
      · exact h3.lt
      · exact h4.lt
      · exact h5.lt
    · exact own_lt ho hk
  · rintro pre O W W' ⟨vo, o, ⟨h1, h2, h3, h4, h5⟩, ho, hn, ha, rfl⟩ hs hk
    exact ⟨vo, o, ⟨h1.block (hk _ (.inl (by simp))), h2.block (hk _ (.inl (by simp))), h3.block (hk _ (.inl (by simp))), h4.block (hk _ (.inl (by simp))), h5.block (hk _ (.inl (by simp)))⟩, own_move ho (fun x hx => hk x (.inr hx)), hn, ha, rfl⟩
/-- When a round has left. -/
def AX (R0 R1 : Nat) (s : ByteArray) (c : Code) (pre : List St) (O : Nat → Prop) (W : World) : Prop :=
  c = .ret ∧ (Bxd W R0 (.string ⟨#[]⟩) ∧ Bxd W R1 (.bool false)) ∧ apTL pre (s.data.toList, []) = none ∧ O = fun k => k = R0 ∨ k = R1
theorem aX_held (R0 R1 : Nat) (s : ByteArray) (c : Code) : Held (AX R0 R1 s c) := by
  refine ⟨?_, ?_⟩
  · rintro pre O W ⟨_, ⟨h1, h2⟩, _, rfl⟩ k (rfl | rfl)
    · exact h1.lt
    · exact h2.lt
  · rintro pre O W W' ⟨hc, ⟨h1, h2⟩, ha, rfl⟩ hs hk
    exact ⟨hc, ⟨h1.block (hk _ (.inl rfl)), h2.block (hk _ (.inr rfl))⟩, ha, rfl⟩
/-- A row grows by an append within a round. -/
theorem listIn_append {l n' : Nat} {P : Program} (w : World) {ops : Array Oper} {rest : List Oper} {o : Oper} {a : Act} {Q : Exit → Act → World → Prop} (hgd : o.guard = none) (s x : Operand) (t : TypeId)
    (ho : o.op = .call { callee := .builtin .append, args := #[s, x], argTypes := #[t, t] }) (e : TypeId) (i : TypeInfo) (z : Value) (size bytes : Nat) (ht : P.underlying t = some (.slice e)) (hi : P.info? e = some i) (hz : i.zero = some z)
    (hsize : i.size = size) (hby : i.bytes = bytes) (hzs : z.cells.size = size) (hsz : 0 < size) (v : Value) (n : Nat) (xs : List Value) (hs : a.eval s = v) (hown : w.ownsRow 0 e size v n xs)
    (ad : Addr) (m c : Nat) (news : List Value) (hx : a.eval x = .slice (some ad) m c) (hl : news.length = m * size) (hnews : ∀ j u, news[j]? = some u → w.cell? (ad.add j) = some u) (h1 : ∀ u ∈ news, u.oneCell' = true)
    (hm : 0 < m) (h63 : n + m ≤ maxLen) (hbytes : (n + m) * bytes ≤ 140737488355328) (H : Nat) (hH : w.heap.size = H)
    (h : ∀ g cap w', w'.ownsRow 0 e size (.slice (some ⟨g, 0, none⟩) (n + m) cap) (n + m) (xs ++ news) → w.grownBy w' v.ownBlock → (v.ownBlock = some g ∨ g = H) → wpListIn (Fence.wide.inRound l) n' P ops Q rest (a.put o.dst (.slice (some ⟨g, 0, none⟩) (n + m) cap)) w') :
    wpListIn (Fence.wide.inRound l) n' P ops Q (o :: rest) a w :=
  wpListIn_plain hgd fun K hK => operIn_any (by rw [ho]; intro c hc; cases hc)
    (wp_append_lies w s x t ho 0 e i z size bytes ht hi hz hsize hby hzs hsz v n xs hs hown ad m c news hx hl hnews h1 hm h63 hbytes (Nat.zero_le _) H hH (fun g cap w' h1 h2 h3 _ => hK _ _ (h g cap w' h1 h2 h3)))

theorem boxes3_up {W W' : World} {a b c : Value} {t u v : TypeId} (h : Below (((W.alloc (.cells #[a] t)).alloc (.cells #[b] u)).alloc (.cells #[c] v)).heap.size (((W.alloc (.cells #[a] t)).alloc (.cells #[b] u)).alloc (.cells #[c] v)) W') :
    (Bxd W' W.heap.size a ∧ Bxd W' (W.heap.size + 1) b ∧ Bxd W' (W.heap.size + 1 + 1) c) ∧ W.heap.size + 3 ≤ W'.heap.size ∧ Below W.heap.size W W' := by
  refine three_boxes (Φ := fun X => Below X.heap.size X W' → _) ?_ h
  intro X hb hs b1 b2 b3 h
  exact ⟨⟨b1.up h, b2.up h, b3.up h⟩, by have := h.size; omega, hb.trans (h.mono hb.size)⟩
/-- What is made grows by a byte. -/
theorem aj_out {Bs R0 R1 Bo Ba : Nat} {s : ByteArray} {n : Int} {W w3 : World} {vo : Value} {o : List UInt8} {c : UInt8} {gg cap : Nat} (hd : Bs < R0 ∧ R0 < R1 ∧ R1 < Bo ∧ Bo < Ba)
    (hb : Bxd W Bs (.string s) ∧ Bxd W R0 (.string ⟨#[]⟩) ∧ Bxd W R1 (.bool false) ∧ Bxd W Bo vo ∧ Bxd W Ba (.int .i64 n)) (hn : ∀ x, vo.ownBlock = some x → x ∉ [Bs, R0, R1, Bo, Ba])
    (ho : w3.ownsRow 0 5 1 (.slice (some ⟨gg, 0, none⟩) (o.length + 1) cap) (o.length + 1) (byt o ++ [.int .u8 (c.toNat : Int)])) (hg : W.grownBy w3 vo.ownBlock) (hat : vo.ownBlock = some gg ∨ W.heap.size ≤ gg) :
    (Bxd (w3.setCell ⟨Bo, 0, none⟩ (.slice (some ⟨gg, 0, none⟩) (o.length + 1) cap)) Bs (.string s) ∧ Bxd (w3.setCell ⟨Bo, 0, none⟩ (.slice (some ⟨gg, 0, none⟩) (o.length + 1) cap)) R0 (.string ⟨#[]⟩) ∧ Bxd (w3.setCell ⟨Bo, 0, none⟩ (.slice (some ⟨gg, 0, none⟩) (o.length + 1) cap)) R1 (.bool false) ∧ Bxd (w3.setCell ⟨Bo, 0, none⟩ (.slice (some ⟨gg, 0, none⟩) (o.length + 1) cap)) Bo (.slice (some ⟨gg, 0, none⟩) (o.length + 1) cap) ∧ Bxd (w3.setCell ⟨Bo, 0, none⟩ (.slice (some ⟨gg, 0, none⟩) (o.length + 1) cap)) Ba (.int .i64 n)) ∧
    (w3.setCell ⟨Bo, 0, none⟩ (.slice (some ⟨gg, 0, none⟩) (o.length + 1) cap)).ownsRow 0 5 1 (.slice (some ⟨gg, 0, none⟩) (o.length + 1) cap) (o ++ [c]).length (byt (o ++ [c])) ∧
    (∀ x, (Value.slice (some ⟨gg, 0, none⟩) (o.length + 1) cap).ownBlock = some x → x ∉ [Bs, R0, R1, Bo, Ba]) ∧
    Moves (AO [Bs, R0, R1, Bo, Ba] vo) W (AO [Bs, R0, R1, Bo, Ba] (.slice (some ⟨gg, 0, none⟩) (o.length + 1) cap)) (w3.setCell ⟨Bo, 0, none⟩ (.slice (some ⟨gg, 0, none⟩) (o.length + 1) cap)) := by
  obtain ⟨h1, h2, h3, h4, h5⟩ := hb
  obtain ⟨d1, d2, d3, d4⟩ := hd
  have l1 := h1.lt
  have l5 := h5.lt
  have same : ∀ k, k ∈ [Bs, R0, R1, Bo, Ba] → k < W.heap.size → w3.heap[k]? = W.heap[k]? := fun k hk hl => hg.block k hl (fun e => hn k e.symm hk)
  have m1 := h1.block (same Bs (by simp) l1)
  have m2 := h2.block (same R0 (by simp) (by omega))
  have m3 := h3.block (same R1 (by simp) (by omega))
  have m4 := h4.block (same Bo (by simp) (by omega))
  have m5 := h5.block (same Ba (by simp) l5)
  have hv : ∀ x, (Value.slice (some ⟨gg, 0, none⟩) (o.length + 1) cap).ownBlock = some x → x = gg := fun x hx => by
    have : some gg = some x := hx
    injection this with this; exact this.symm
  have hgn : gg ∉ [Bs, R0, R1, Bo, Ba] := by
    rcases hat with e | e
    · exact hn gg e
    · simp; omega
  have hgo : gg ≠ Bo := by simp at hgn; omega
  refine ⟨⟨m1.other (by omega) _, m2.other (by omega) _, m3.other (by omega) _, m4.set _, m5.other (by omega) _⟩, ?_, fun x hx => by rw [hv x hx]; exact hgn, ?_⟩
  · rw [byt_snoc, List.length_append]
    exact own_move ho (fun x hx => by rw [hv x hx]; exact Below.heap_setCell _ _ _ _ hgo)
  · refine ⟨hg.os, hg.tape, hg.output, by simpa using hg.size, fun k hk no => ?_, fun k hk c => ?_⟩
    · have k1 : k ≠ Bo := fun e => no (.inl (by simp [e]))
      exact (Below.heap_setCell _ _ _ _ k1).trans (hg.block k hk (fun e => no (.inr e.symm)))
    · rcases c with c | c
      · exact .inl c
      · have := hv k c
        rcases hat with e | e
        · exact .inr (this ▸ e)
        · omega
theorem grown_al0 {w w2 : World} {ob : Obj} {row : Option Nat} (h : (w.alloc ob).grownBy w2 row) : w.grownBy w2 row :=
  ⟨h.os, h.tape, h.output, by have := h.size; simp at this; omega, fun k hk hn => (h.block k (by simp; omega) hn).trans (Below.heap_alloc w ob k hk)⟩
/-- What is taken grows by a byte. -/
theorem aj_at {Bs R0 R1 Bo Ba : Nat} {s : ByteArray} {n : Int} {W : World} {vo : Value} {o : List UInt8} (hd : Bs < R0 ∧ R0 < R1 ∧ R1 < Bo ∧ Bo < Ba)
    (hb : Bxd W Bs (.string s) ∧ Bxd W R0 (.string ⟨#[]⟩) ∧ Bxd W R1 (.bool false) ∧ Bxd W Bo vo ∧ Bxd W Ba (.int .i64 n)) (ho : W.ownsRow 0 5 1 vo o.length (byt o)) (hn : ∀ x, vo.ownBlock = some x → x ∉ [Bs, R0, R1, Bo, Ba]) (u : Value) :
    (Bxd (W.setCell ⟨Ba, 0, none⟩ u) Bs (.string s) ∧ Bxd (W.setCell ⟨Ba, 0, none⟩ u) R0 (.string ⟨#[]⟩) ∧ Bxd (W.setCell ⟨Ba, 0, none⟩ u) R1 (.bool false) ∧ Bxd (W.setCell ⟨Ba, 0, none⟩ u) Bo vo ∧ Bxd (W.setCell ⟨Ba, 0, none⟩ u) Ba u) ∧
      (W.setCell ⟨Ba, 0, none⟩ u).ownsRow 0 5 1 vo o.length (byt o) ∧ Moves (AO [Bs, R0, R1, Bo, Ba] vo) W (AO [Bs, R0, R1, Bo, Ba] vo) (W.setCell ⟨Ba, 0, none⟩ u) := by
  obtain ⟨h1, h2, h3, h4, h5⟩ := hb
  obtain ⟨d1, d2, d3, d4⟩ := hd
  refine ⟨⟨h1.other (by omega) _, h2.other (by omega) _, h3.other (by omega) _, h4.other (by omega) _, h5.set _⟩, own_move ho (fun x hx => Below.heap_setCell _ _ _ _ (fun e => hn x hx (by simp [e]))), (Moves.refl _ _).setCell (fun _ => .inl (by simp)) _⟩
theorem drop_at {s : List UInt8} {k : Nat} (h : k < s.length) : s.drop k = s[k] :: s.drop (k + 1) := List.drop_eq_getElem_cons h

set_option maxRecDepth 100000 in
set_option maxHeartbeats 4000000 in
theorem applyI_good {w : World} {aw : Option Addr} {g cap : Nat} {l : List Pt} (s : ByteArray) (h : Pin w aw g cap l) (hT : Tab w) (hs : s.size ≤ 1048576) (hg : goodO l = true) (hgs : good s.data.toList = true) (hsz : (s.size : Int) = tkL l) :
    Calls Tryd.prog 26 #[.slice aw l.length cap, .string s] w fun e w' => e = .returned (.tuple #[.string (aplO l s).1, .bool (aplO l s).2]) ∧ Below w.heap.size w w' := by
  have S := hide (fun w' (hb : Below w.heap.size w w') => sizesI_any (h.later hb) (hT.below hb))
  have T := hide (fun w' (hb : Below w.heap.size w w') => goodTextI_any s w' hs (hT.below hb))
  have hsT : szT l = tkL l := by unfold szT; rw [hg]; rfl
  rw [hg, hsT, ← hsz] at S
  rw [hgs] at T
  have hpk := goodO_pk hg
  have SO := hide (fun w' => stepsOf_any (.slice aw l.length cap) w' _ _ _ rfl)
  have H := hide h
  have hHT := hide hT
  have hsum := (stL_sums l hpk).1
  have hct : ctk (stL l) = s.size := by omega
  have hst := st_len hg
  have FIN := hide (aplO_steps hg hgs)
  have hsz' := hide hsz
  clear h hT hg hgs hsum hsT hsz
  have hdep : Fence.wide.depth = none := rfl
  refine (callsIn_wide (n := 6)).1 ?_
  refine callsIn_of_wp_marks Tryd.func26 rfl trivial ?_ rfl
  simp only [Tryd.ntmps26, List.size_toArray, List.length_cons, List.length_nil, Nat.reduceAdd, Nat.reduceSub, Array.replicate_succ, Array.replicate_zero, List.push_toArray, List.append_toArray, List.nil_append, List.cons_append]
  have hb0 : Hid (∀ a b c : Obj, Below w.heap.size w (((w.alloc a).alloc b).alloc c)) := hide (fun a b c => (((Below.refl _ _).alloc (Nat.le_refl _) _).alloc (by simp) _).alloc (by simp; omega) _)
  have cS : Hid (∀ (t : TypeId) (b c : Obj), (((w.alloc (.cells #[.string s] t)).alloc b).alloc c).cell? ⟨w.heap.size, 0, none⟩ = some (.string s)) := hide (fun t b c => (((bxd_new w (.string s) t).up ((Below.refl _ _).alloc (Nat.le_refl _) _)).up ((Below.refl _ _).alloc (Nat.le_refl _) _)).cell)
  gi_wp2_with (first
    | (refine ⟨trivial, ?_⟩; gi_at_call 86; refine (callsIn_wide.2 (S.out _ (hb0.out _ _ _))).mono ?_; rintro e w1 ⟨rfl, hb1⟩; have cs1 := (World.cell?_of_block (a := ⟨w.heap.size, 0, none⟩) (hb1.block _ (by simp; omega))).trans (cS.out _ _ _))
    | (refine ⟨trivial, ?_⟩; gi_at_call 56; refine (callsIn_wide.2 (T.out _ ((hb0.out _ _ _).trans (hb1.mono (hb0.out _ _ _).size)))).mono ?_; rintro e w' ⟨rfl, hw⟩; replace hw := hw.symm; subst hw)
    | (refine ⟨trivial, ?_⟩; gi_at_call 87; refine (callsIn_wide.2 (SO.out _)).mono ?_; rintro e w' ⟨rfl, hw⟩; replace hw := hw.symm; subst hw))
  obtain ⟨⟨q1, q2, q3⟩, hsw, hbw⟩ := boxes3_up hb1
  have R3 := hide hbw
  refine three_boxes (Φ := fun W2 => Code.wpIn _ _ _ _ _ _ W2) ?_
  intro W2 hB2 hs2 bo bA bq
  have hbW : Below w.heap.size w W2 := R3.out.trans (hB2.mono R3.out.size)
  have pin2 := H.out.later hbW
  have tab2 := hHT.out.below hbW
  have ltT := hHT.out.lt
  have ltg := H.out.lt
  have hd : w.heap.size < w.heap.size + 1 ∧ w.heap.size + 1 < w.heap.size + 1 + 1 ∧ w.heap.size + 1 + 1 < w1.heap.size ∧ w1.heap.size < w1.heap.size + 1 := by omega
  have hJ := aJ_held w.heap.size (w.heap.size + 1) (w.heap.size + 1 + 1) w1.heap.size (w1.heap.size + 1) s
  refine wpIn_range rfl (enters_of Tryd.func152 (by kernel_rfl) rfl) (steps_iter pin2 tab2 bq.cell hpk) (fun _ => rfl)
    (J := AJ w.heap.size (w.heap.size + 1) (w.heap.size + 1 + 1) w1.heap.size (w1.heap.size + 1) s) (Jx := AX (w.heap.size + 1) (w.heap.size + 1 + 1) s) (O := AO [w.heap.size, w.heap.size + 1, w.heap.size + 1 + 1, w1.heap.size, w1.heap.size + 1] (.slice none 0 0)) hJ (aX_held _ _ _) (Nat.le_refl _)
    (by
      rintro k (rfl | rfl | rfl)
      · exact ⟨by omega, rfl, fun c => c.elim (fun c => by simp at c; omega) (fun c => by cases c)⟩
      · exact ⟨by omega, rfl, fun c => c.elim (fun c => by simp at c; omega) (fun c => by cases c)⟩
      · exact ⟨by omega, rfl, fun c => c.elim (fun c => by simp at c; omega) (fun c => by cases c)⟩)
    ⟨.slice none 0 0, [], ⟨q1.up hB2, q2.up hB2, q3.up hB2, bo, bA⟩, World.ownsRow_nil _ _ _ _, (fun x hx => by cases hx), by simp [apTL, ctk], rfl⟩
    (xAx_held hJ (fun x Bx => { tmps := #[.slice aw l.length cap, .string s, undef, .pointer (some ⟨w.heap.size, 0, none⟩), .pointer (some ⟨w.heap.size + 1, 0, none⟩), .pointer (some ⟨w.heap.size + 1 + 1, 0, none⟩), .int .i64 (s.size : Int), .int .i64 (szM l), .bool true, .pointer (some ⟨w1.heap.size, 0, none⟩), .pointer (some ⟨w1.heap.size + 1, 0, none⟩), .pointer (some ⟨Bx, 0, none⟩), .tuple #[.int .i64 (s.size : Int), .int .i64 (szM l), .bool true], .slice aw l.length cap, .tuple #[.int .i64 (s.size : Int), .int .i64 (szM l), .bool true], .int .i64 (s.size : Int), .int .i64 (szM l), .bool true, .bool true, .bool false, .bool false, .string s, .int .i64 (s.size : Int), .int .i64 (s.size : Int), .bool false, .bool false, .bool false, .string s, .bool true, .bool false, .bool false, .slice aw l.length cap, .func (.func 152) #[] #[.pointer (some ⟨w1.heap.size + 1 + 1, 0, none⟩)], .agg #[.int .i64 (x.k : Int), .int .u8 (x.c.toNat : Int)], undef, undef, undef, undef, undef, undef, undef, undef, undef, undef, undef, undef, undef, undef, undef, undef, undef, undef, undef, undef, undef, undef, undef, undef, undef, undef, undef, undef, undef, undef, undef], defers := [] }))
    ?assigned ?round ?done ?stop
  case assigned =>
    rintro l1 pre x O W K hj hx hK
    have hbx := box2_new W (.int .i64 (x.k : Int)) (.int .u8 (x.c.toNat : Int))
    simp only [stE, stV]
    gi_wp2
    exact hK _ _ _ ((Moves.refl _ _).alloc _) ⟨O, W.heap.size, hJ.up hj ((Below.refl _ _).alloc (Nat.le_refl _) _), fun _ => Iff.rfl, fun c => absurd (hJ.lt hj _ c) (by omega), hbx _, rfl⟩
  case round =>
    rintro l1 pre x a' O W ⟨O1, Bx, ⟨vo, o, hbs, ho, hn, ha, rfl⟩, hB, hnB, hbx, rfl⟩ hl1 hnl hx
    have hso := (stL_so hpk x (hx.subset (by simp))).1
    have hlen : pre.length ≤ 600 := by have := pre_len hx; simp at this; omega
    have hol : o.length ≤ 600 := by have := (apTL_left pre _ _ _ (fun q hq => (stL_so hpk q (hx.subset (by simp [hq]))).1) ha).2.2; simp at this; omega
    have hcp := ctk_pre hx
    rw [hct, ctk_snoc] at hcp
    obtain ⟨u0, hu0, hz0, hz1, hz2⟩ := info_parts Tryd.infoByt
    obtain ⟨b1, b2, b3, b4, b5⟩ := hbs
    have HBS : Hid (Bxd W w.heap.size (.string s) ∧ Bxd W (w.heap.size + 1) (.string ⟨#[]⟩) ∧ Bxd W (w.heap.size + 1 + 1) (.bool false) ∧ Bxd W w1.heap.size vo ∧ Bxd W (w1.heap.size + 1) (.int .i64 (ctk pre : Int))) := hide ⟨b1, b2, b3, b4, b5⟩
    have e1 := b1.cell
    have e4 := b4.cell
    have e5 := b5.cell
    have f4 := b4.fz
    have f5 := b5.fz
    have e2 := b2.cell
    have f2 := b2.fz
    have e3 := b3.cell
    have f3 := b3.fz
    obtain ⟨c0, c1⟩ := hbx.cells
    have lt4 := b4.lt
    have lt5 := b5.lt
    have ne4 : vo.ownBlock ≠ some w1.heap.size := fun e => hn _ e (by simp)
    have ne5 : vo.ownBlock ≠ some (w1.heap.size + 1) := fun e => hn _ e (by simp)
    have HB := hide hB
    have HN := hide hn
    have HA := hide ha
    have HO := hide ho
    have hpre := hide hx
    have hmix : Tryd.prog.follows .mixedOrders = true := by kernel_rfl
    have MV : Hid (∀ O' W', Moves (AO [w.heap.size, w.heap.size + 1, w.heap.size + 1 + 1, w1.heap.size, w1.heap.size + 1] vo) W O' W' → Moves O W O' W') := hide (fun O' W' m => m.wider (fun k _ c => (HB.out k).2 (.inl c)) (fun k hk c => (HB.out k).2 (.inl (m.own k hk c))))
    clear hB hn ha hx b1 b2 b3 b4 b5 hnB hbx hnl hl1 hlen
    obtain ⟨k, c⟩ := x
    rcases hso with e | e | e <;> (simp only at e; subst e)
    · have hat : ctk pre < s.size := by simp at hcp; omega
      clear hcp
      have hatI : (ctk pre : Int) < (s.size : Int) := by omega
      have hat0 : (0 : Int) ≤ (ctk pre : Int) := by omega
      have hgl : ctk pre < s.data.toList.length := by rw [← sz_list]; exact hat
      have hget : s.data.toList[ctk pre] = s[ctk pre] := by simp [ByteArray.getElem_eq_getElem_data]
      have hck : ((ctk (pre ++ [(⟨1, c⟩ : St)]) : Nat) : Int) = (ctk pre : Int) + 1 := by rw [ctk_snoc]; simp
      have hap : Hid (apTL (pre ++ [⟨1, c⟩]) (s.data.toList, []) = some (s.data.toList.drop (ctk (pre ++ [(⟨1, c⟩ : St)])), o ++ [s[ctk pre]])) := hide (by
        rw [apTL_snoc, HA.out, Option.bind_some, ctk_snoc]
        unfold apT
        rw [drop_at hgl]
        simp [hget])
      gi_wp2_with fail
      have hS : W.drew.cell? ⟨w.heap.size, 0, none⟩ = some (.string s) ∧ W.drew.cell? ⟨w1.heap.size + 1, 0, none⟩ = some (.int .i64 (ctk pre : Int)) := ⟨e1, e5⟩
      have lt1 := World.block_lt_of_cell? W _ e1
      have ne1 : vo.ownBlock ≠ some w.heap.size := fun e => HN.out _ e (by simp)
      refine regionIn_any hmix (by kernel_rfl) (fun _ _ h => h) ?_
      refine wpAny_of_held (S := (fun w' => w'.cell? ⟨w.heap.size, 0, none⟩ = some (.string s) ∧ w'.cell? ⟨w1.heap.size + 1, 0, none⟩ = some (.int .i64 (ctk pre : Int)))) _ _ _ _ ?_
      refine wpAnyH_take (i := 1) (v := .string s) rfl (by kernel_rfl) (by kernel_rfl) (by kernel_rfl) (fun _ _ _ h => h) (Or.inl ⟨by rfl, fun w' hw => by obtain ⟨x2, x3⟩ := hw; go_simp⟩) hS ?_
      refine wpAnyH_take (i := 2) (v := .int .i64 (ctk pre : Int)) rfl (by kernel_rfl) (by kernel_rfl) (by kernel_rfl) (fun _ _ _ h => h) (Or.inl ⟨by rfl, fun w' hw => by obtain ⟨x2, x3⟩ := hw; go_simp⟩) hS ?_
      refine wpAnyH_take (i := 3) (v := .int .u8 (s[ctk pre].toNat : Int)) rfl (by kernel_rfl) (by kernel_rfl) (by kernel_rfl) (fun _ _ _ h => h) (Or.inl ⟨by rfl, fun w' hw => by obtain ⟨x2, x3⟩ := hw; go_simp⟩) hS ?_
      refine wpAnyH_ready (rs := [0, 4]) (by kernel_rfl) (by simp) ?_
      refine AllReadyH.cons rfl (fun K hK => ?_) (AllReadyH.cons rfl (fun K hK => ?_) AllReadyH.nil)
      · go_simp
        refine hK.out _ _ hS (fun hS1 => ?_)
        clear hK K
        refine wpAnyH_ready (rs := [4]) (by kernel_rfl) (by simp) ?_
        refine AllReadyH.cons rfl (fun K hK => ?_) AllReadyH.nil
        go_simp
        refine hK.out _ _ ⟨cl_al W _ _ e1, cl_al W _ _ e5⟩ (fun hS1 => ?_)
        clear hK K
        refine wpAnyH_ready (rs := [5]) (by kernel_rfl) (by simp) ?_
        refine AllReadyH.cons rfl (fun K hK => ?_) AllReadyH.nil
        refine step_append_lies _ (by rfl) _ _ _ (by rfl) 0 5 u0 _ 1 1 Tryd.underlying22 hu0 hz0 hz1 hz2 rfl (by omega) vo o.length (byt o) (by rfl) ((HO.out.alloc _).drew)
          ⟨W.heap.size, 0, none⟩ 1 1 [.int .u8 (s[ctk pre].toNat : Int)] (by rfl) (by rfl) (World.news_of_block (cs := #[.int .u8 (s[ctk pre].toNat : Int)]) (t := 5) (fr := (0, 0)) (heap_alloc_new W _)) (by simp [Value.oneCell'])
          (by omega) (by unfold maxLen; omega) (by omega) (by omega) (W.heap.size + 1) (by simp) ?_
        intro gg cap' w3 hown1 hgrow hat2 hlt2
        have hcz := (hgrow.cell_far ⟨w1.heap.size, 0, none⟩ (by simp; omega) (Ne.symm ne4)).trans (cl_al W _ _ e4)
        have hfz := (hgrow.frozen_far ⟨w1.heap.size, 0, none⟩ (by simp; omega) (Ne.symm ne4)).trans (fz_al W _ _ lt4 f4)
        have hc1 := (hgrow.cell_far ⟨w.heap.size, 0, none⟩ (by simp; omega) (Ne.symm ne1)).trans (cl_al W _ _ e1)
        have hc5 := (hgrow.cell_far ⟨w1.heap.size + 1, 0, none⟩ (by simp; omega) (Ne.symm ne5)).trans (cl_al W _ _ e5)
        refine hK.out _ _ ⟨hc1, hc5⟩ (fun hS2 => ?_)
        clear hK K
        obtain ⟨A1, A2, A3, A4⟩ := aj_out hd HBS.out HN.out hown1 (grown_al hgrow) (hat2.imp id (fun e => by omega))
        have g1 := A1.1.cell
        have g5 := A1.2.2.2.2.cell
        have z5 := A1.2.2.2.2.fz
        have B := hide (aj_at hd A1 A2 A3 (.int .i64 ((ctk pre : Int) + 1)))
        have HA4 := hide A4
        have HA3 := hide A3
        clear hgrow hown1 A1 A2 A3 A4 hat2 hlt2
        refine wpAnyH_ready (rs := [6]) (by kernel_rfl) (by simp) ?_
        refine AllReadyH.cons rfl (fun K hK => ?_) AllReadyH.nil
        go_simp
        refine hK.out _ _ ⟨g1, g5⟩ (fun hS3 => ?_)
        clear hK K
        refine wpAnyH_done (by kernel_rfl) ?_ _
        clear hcz hfz hc1 hc5
        gi_wp2
        refine ⟨_, MV.out _ _ (HA4.out.trans B.out.2.2), _, _, ?_, B.out.2.1, HA3.out, hap.out, rfl⟩
        rw [hck]; exact B.out.1
      · go_simp
        refine hK.out _ _ ⟨cl_al W _ _ e1, cl_al W _ _ e5⟩ (fun hS1 => ?_)
        clear hK K
        have e4a : ∀ ob : Obj, (W.alloc ob).drew.cell? ⟨w1.heap.size, 0, none⟩ = some vo := fun ob => cl_al W ob _ e4
        refine wpAnyH_ready (rs := [0]) (by kernel_rfl) (by simp) ?_
        refine AllReadyH.cons rfl (fun K hK => ?_) AllReadyH.nil
        go_simp
        refine hK.out _ _ ⟨cl_al W _ _ e1, cl_al W _ _ e5⟩ (fun hS1 => ?_)
        clear hK K
        clear e4a
        refine wpAnyH_ready (rs := [5]) (by kernel_rfl) (by simp) ?_
        refine AllReadyH.cons rfl (fun K hK => ?_) AllReadyH.nil
        refine step_append_lies _ (by rfl) _ _ _ (by rfl) 0 5 u0 _ 1 1 Tryd.underlying22 hu0 hz0 hz1 hz2 rfl (by omega) vo o.length (byt o) (by rfl) ((HO.out.alloc _).drew)
          ⟨W.heap.size, 0, none⟩ 1 1 [.int .u8 (s[ctk pre].toNat : Int)] (by rfl) (by rfl) (World.news_of_block (cs := #[.int .u8 (s[ctk pre].toNat : Int)]) (t := 5) (fr := (0, 0)) (heap_alloc_new W _)) (by simp [Value.oneCell'])
          (by omega) (by unfold maxLen; omega) (by omega) (by omega) (W.heap.size + 1) (by simp) ?_
        intro gg cap' w3 hown1 hgrow hat2 hlt2
        have hcz := (hgrow.cell_far ⟨w1.heap.size, 0, none⟩ (by simp; omega) (Ne.symm ne4)).trans (cl_al W _ _ e4)
        have hfz := (hgrow.frozen_far ⟨w1.heap.size, 0, none⟩ (by simp; omega) (Ne.symm ne4)).trans (fz_al W _ _ lt4 f4)
        have hc1 := (hgrow.cell_far ⟨w.heap.size, 0, none⟩ (by simp; omega) (Ne.symm ne1)).trans (cl_al W _ _ e1)
        have hc5 := (hgrow.cell_far ⟨w1.heap.size + 1, 0, none⟩ (by simp; omega) (Ne.symm ne5)).trans (cl_al W _ _ e5)
        refine hK.out _ _ ⟨hc1, hc5⟩ (fun hS2 => ?_)
        clear hK K
        obtain ⟨A1, A2, A3, A4⟩ := aj_out hd HBS.out HN.out hown1 (grown_al hgrow) (hat2.imp id (fun e => by omega))
        have g1 := A1.1.cell
        have g5 := A1.2.2.2.2.cell
        have z5 := A1.2.2.2.2.fz
        have B := hide (aj_at hd A1 A2 A3 (.int .i64 ((ctk pre : Int) + 1)))
        have HA4 := hide A4
        have HA3 := hide A3
        clear hgrow hown1 A1 A2 A3 A4 hat2 hlt2
        refine wpAnyH_ready (rs := [6]) (by kernel_rfl) (by simp) ?_
        refine AllReadyH.cons rfl (fun K hK => ?_) AllReadyH.nil
        go_simp
        refine hK.out _ _ ⟨g1, g5⟩ (fun hS3 => ?_)
        clear hK K
        refine wpAnyH_done (by kernel_rfl) ?_ _
        clear hcz hfz hc1 hc5
        gi_wp2
        refine ⟨_, MV.out _ _ (HA4.out.trans B.out.2.2), _, _, ?_, B.out.2.1, HA3.out, hap.out, rfl⟩
        rw [hck]; exact B.out.1
    · have hck : ctk (pre ++ [(⟨2, c⟩ : St)]) = ctk pre := by rw [ctk_snoc]; simp
      have hap : Hid (apTL (pre ++ [⟨2, c⟩]) (s.data.toList, []) = some (s.data.toList.drop (ctk (pre ++ [(⟨2, c⟩ : St)])), o ++ [c])) := hide (by
        rw [apTL_snoc, HA.out, Option.bind_some, hck]
        simp [apT])
      clear hcp
      gi_wp2_with (gi_at_builtin; refine listIn_append _ rfl _ _ 22 rfl 5 u0 _ 1 1 Tryd.underlying22 hu0 hz0 hz1 hz2 rfl (by omega) vo o.length (byt o) rfl (HO.out.alloc _) ⟨W.heap.size, 0, none⟩ 1 1 [.int .u8 (c.toNat : Int)] rfl rfl (World.news_of_block (cs := #[.int .u8 (c.toNat : Int)]) (t := 5) (fr := (0, 0)) (heap_alloc_new W _)) (by simp [Value.oneCell']) (by omega) (by unfold maxLen; omega) (by omega) (W.heap.size + 1) (by simp) ?_; intro gg cap' w3 hown1 hgrow hat; have hcz := (hgrow.cell_far ⟨w1.heap.size, 0, none⟩ (by simp; omega) (Ne.symm ne4)).trans (World.cell?_of_block (Below.heap_alloc W _ _ lt4) |>.trans e4); have hfz := (hgrow.frozen_far ⟨w1.heap.size, 0, none⟩ (by simp; omega) (Ne.symm ne4)).trans (World.frozen?_of_block (Below.heap_alloc W _ _ lt4) |>.trans f4))
      obtain ⟨A1, A2, A3, A4⟩ := aj_out hd HBS.out HN.out hown1 (grown_al0 hgrow) (hat.imp id (fun e => by omega))
      refine ⟨_, MV.out _ _ A4, _, _, ?_, A2, A3, hap.out, rfl⟩
      rw [hck]; exact A1
    · have hat : ctk pre < s.size := by simp at hcp; omega
      clear hcp
      have hatI : (ctk pre : Int) < (s.size : Int) := by omega
      have hat0 : (0 : Int) ≤ (ctk pre : Int) := by omega
      have hgl : ctk pre < s.data.toList.length := by rw [← sz_list]; exact hat
      have hget : s.data.toList[ctk pre] = s[ctk pre] := by simp [ByteArray.getElem_eq_getElem_data]
      have hck : ((ctk (pre ++ [(⟨3, c⟩ : St)]) : Nat) : Int) = (ctk pre : Int) + 1 := by rw [ctk_snoc]; simp
      by_cases hc : s[ctk pre] = c
      · have hbe : ((s[ctk pre].toNat : Int) != (c.toNat : Int)) = false := by rw [hc]; simp
        have hap : Hid (apTL (pre ++ [⟨3, c⟩]) (s.data.toList, []) = some (s.data.toList.drop (ctk (pre ++ [(⟨3, c⟩ : St)])), o)) := hide (by
          rw [apTL_snoc, HA.out, Option.bind_some, ctk_snoc]
          unfold apT
          rw [drop_at hgl]
          simp [hget, hc])
        have A := hide (aj_at hd HBS.out HO.out HN.out (.int .i64 ((ctk pre : Int) + 1)))
        clear hc hget
        gi_wp2_with fail
        gi_region_with_o (fail)
        all_goals
          gi_wp2
          refine ⟨_, MV.out _ _ A.out.2.2.drew, hJ.kept (W := W.setCell ⟨w1.heap.size + 1, 0, none⟩ (.int .i64 ((ctk pre : Int) + 1))) ⟨vo, o, ?_, A.out.2.1, HN.out, hap.out, rfl⟩ (Nat.le_refl _) (fun _ _ => rfl)⟩
          rw [hck]; exact A.out.1
      · have hbe : ((s[ctk pre].toNat : Int) != (c.toNat : Int)) = true := by
          simp only [bne_iff_ne, ne_eq]
          intro e
          exact hc (UInt8.toNat_inj.1 (by omega))
        have hap : Hid (apTL (pre ++ [⟨3, c⟩]) (s.data.toList, []) = none) := hide (by
          rw [apTL_snoc, HA.out, Option.bind_some]
          unfold apT
          rw [drop_at hgl]
          simp [hget, hc])
        have g3 := fun v => (HBS.out.2.2.1.other (B' := w.heap.size + 1) (by omega) v).cell
        have z3 := fun v => (HBS.out.2.2.1.other (B' := w.heap.size + 1) (by omega) v).fz
        have X1 := hide ((HBS.out.2.1.set (.string ⟨#[]⟩)).other (B' := w.heap.size + 1 + 1) (by omega) (.bool false))
        have X2 := hide ((HBS.out.2.2.1.other (B' := w.heap.size + 1) (by omega) (.string ⟨#[]⟩)).set (.bool false))
        have MX : Hid (Moves (AO [w.heap.size, w.heap.size + 1, w.heap.size + 1 + 1, w1.heap.size, w1.heap.size + 1] vo) W (fun k => k = w.heap.size + 1 ∨ k = w.heap.size + 1 + 1) ((W.setCell ⟨w.heap.size + 1, 0, none⟩ (.string ⟨#[]⟩)).setCell ⟨w.heap.size + 1 + 1, 0, none⟩ (.bool false)).drew) :=
          hide ((((Moves.refl _ _).setCell (fun _ => .inl (by simp)) _).setCell (fun _ => .inl (by simp)) _).wider (fun _ _ c => c) (fun k _ c => .inl (by rcases c with rfl | rfl <;> simp))).drew
        clear hc hget
        gi_wp2_with fail
        gi_region_with_o (fail)
        all_goals
          gi_wp2
          exact ⟨_, MV.out _ _ MX.out, rfl, ⟨X1.out.block rfl, X2.out.block rfl⟩, hap.out, rfl⟩
  case done =>
    rintro D O' W hD hnD ⟨vo, o, ⟨b1, b2, b3, b4, b5⟩, ho, hn, ha, rfl⟩ mv hK
    have hct2 : s.data.toList.drop (ctk (stL l)) = [] := by rw [hct, sz_list]; simp
    rw [hct2] at ha
    have hans := hide (FIN.out.1 o hsz'.out ha)
    have e4 := b4.cell
    have e2 := b2.cell
    have f2 := b2.fz
    have e3 := (b3.other (B' := w.heap.size + 1) (by omega) (.string (ba o))).cell
    have f3 := (b3.other (B' := w.heap.size + 1) (by omega) (.string (ba o))).fz
    have hcv : (convert 22 9 vo).run Tryd.prog W = .ok (.string (ba o)) W := conv_own ho
    have nD1 : D ≠ w.heap.size + 1 := fun e => hnD (.inl (by simp [e]))
    have nD2 : D ≠ w.heap.size + 1 + 1 := fun e => hnD (.inl (by simp [e]))
    have Y1 := (b2.set (.string (ba o))).other (B' := w.heap.size + 1 + 1) (by omega) (.bool true)
    have Y2 := (b3.other (B' := w.heap.size + 1) (by omega) (.string (ba o))).set (.bool true)
    have hK2 : ((W.setCell ⟨w.heap.size + 1, 0, none⟩ (.string (ba o))).setCell ⟨w.heap.size + 1 + 1, 0, none⟩ (.bool true)).heap[D]? = some (.deferred (some [])) := ((Below.heap_setCell _ _ _ _ nD2).trans (Below.heap_setCell _ _ _ _ nD1)).trans hK
    have k1 := (Y1.block (W' := ((W.setCell ⟨w.heap.size + 1, 0, none⟩ (.string (ba o))).setCell ⟨w.heap.size + 1 + 1, 0, none⟩ (.bool true)).putObj D (.deferred none)) (World.putObj_heap_other (Ne.symm nD1))).cell
    have k2 := (Y2.block (W' := ((W.setCell ⟨w.heap.size + 1, 0, none⟩ (.string (ba o))).setCell ⟨w.heap.size + 1 + 1, 0, none⟩ (.bool true)).putObj D (.deferred none)) (World.putObj_heap_other (Ne.symm nD2))).cell
    have hfin : Hid (Below w.heap.size w (((W.setCell ⟨w.heap.size + 1, 0, none⟩ (.string (ba o))).setCell ⟨w.heap.size + 1 + 1, 0, none⟩ (.bool true)).putObj D (.deferred none))) := hide (by
      have h1 : Below w.heap.size w W := hbW.trans (mv.below (by omega) (fun k hk c => c.elim (fun c => by simp at c; omega) (fun c => by cases c)))
      have h2 := (h1.setCell (p := ⟨w.heap.size + 1, 0, none⟩) (by show _ ≤ _ + 1; omega) (.string (ba o))).setCell (p := ⟨w.heap.size + 1 + 1, 0, none⟩) (by show _ ≤ _ + 1 + 1; omega) (.bool true)
      exact h2.trans ⟨rfl, rfl, rfl, by simp, fun k hk => World.putObj_heap_other (by omega)⟩)
    clear b1 b2 b3 b4 b5 ho hn ha hnD mv Y1 Y2 hK
    gi_wp2
    refine ⟨by simp, .inl ⟨_, _, rfl, run_takeDeferred hK2, ?_⟩⟩
    refine ⟨.tuple #[.string (ba o), .bool true], ?_, by rw [hans.out], hfin.out⟩
    simp [results, Tryd.f26, go_sem, k1, k2]
  case stop =>
    rintro D c pre O' W hD hnD hpre ⟨rfl, ⟨b2, b3⟩, ha, rfl⟩ mv hK
    have hans := hide (FIN.out.2.1 (apTL_none hpre ha))
    have nD1 : D ≠ w.heap.size + 1 := fun e => hnD (.inl e)
    have nD2 : D ≠ w.heap.size + 1 + 1 := fun e => hnD (.inr e)
    have k1 := (b2.block (W' := W.putObj D (.deferred none)) (World.putObj_heap_other (Ne.symm nD1))).cell
    have k2 := (b3.block (W' := W.putObj D (.deferred none)) (World.putObj_heap_other (Ne.symm nD2))).cell
    have hfin : Hid (Below w.heap.size w (W.putObj D (.deferred none))) := hide (by
      have h1 : Below w.heap.size w W := hbW.trans (mv.below (by omega) (fun k hk c => c.elim (fun c => by simp at c; omega) (fun c => by cases c)))
      exact h1.trans ⟨rfl, rfl, rfl, by simp, fun k hk => World.putObj_heap_other (by omega)⟩)
    clear b2 b3 ha mv hnD hpre
    gi_wp2
    refine ⟨by simp, .inl ⟨_, _, rfl, run_takeDeferred hK, ?_⟩⟩
    refine ⟨.tuple #[.string ⟨#[]⟩, .bool false], ?_, by rw [hans.out], hfin.out⟩
    simp [results, Tryd.f26, go_sem, k1, k2]
end Go.Proofs.YtkjioadmebkaoaaDoor

namespace Go.Proofs.YtkjioadmebkaoaaDoor
open Go.RowKit
open Doc1

set_option maxRecDepth 100000 in
set_option maxHeartbeats 4000000 in
theorem applyI {w : World} {aw : Option Addr} {g cap : Nat} {l : List Pt} (s : ByteArray) (h : Pin w aw g cap l) (hT : Tab w) (hs : s.size ≤ 1048576) :
    Calls Tryd.prog 26 #[.slice aw l.length cap, .string s] w fun e w' => e = .returned (.tuple #[.string (aplO l s).1, .bool (aplO l s).2]) ∧ Below w.heap.size w w' := by
  by_cases hall : goodO l = true ∧ good s.data.toList = true ∧ (s.size : Int) = tkL l
  · exact applyI_good s h hT hs hall.1 hall.2.1 hall.2.2
  · have S := hide (fun w' (hb : Below w.heap.size w w') => sizesI_any (h.later hb) (hT.below hb))
    have T := hide (fun w' (hb : Below w.heap.size w w') => goodTextI_any s w' hs (hT.below hb))
    have hno : aplO l s = (⟨#[]⟩, false) := by
      by_cases h1 : goodO l = true
      · by_cases h2 : good s.data.toList = true
        · exact (aplO_steps h1 h2).2.2 (fun c => hall ⟨h1, h2, c⟩)
        · unfold aplO; rw [if_neg (fun c => h2 c.2.1)]
      · unfold aplO; rw [if_neg (fun c => h1 c.1)]
    rw [hno]
    clear hno h hT
    have hb0 : Hid (∀ a b c : Obj, Below w.heap.size w (((w.alloc a).alloc b).alloc c)) := hide (fun a b c => (((Below.refl _ _).alloc (Nat.le_refl _) _).alloc (by simp) _).alloc (by simp; omega) _)
    cases h1 : goodO l with
    | false =>
      rw [h1] at S
      clear hall T
      go_enter Tryd.func26, Tryd.ntmps26
      go_wp2_with (go_at_call 86; refine (S.out _ (hb0.out _ _ _)).mono ?_; rintro e w1 ⟨rfl, hb1⟩; obtain ⟨⟨q1, q2, q3⟩, hsw, hbw⟩ := boxes3_up hb1; have e1 := q1.cell; have e2 := q2.cell; have f2 := q2.fz; have e3 := (q3.other (B' := w.heap.size + 1) (by omega) (.string ⟨#[]⟩)).cell; have f3 := (q3.other (B' := w.heap.size + 1) (by omega) (.string ⟨#[]⟩)).fz; have k1 := ((q2.set (.string ⟨#[]⟩)).other (B' := w.heap.size + 1 + 1) (by omega) (.bool false)).cell; have k2 := ((q3.other (B' := w.heap.size + 1) (by omega) (.string ⟨#[]⟩)).set (.bool false)).cell)
      refine bodyPost_ret (v := .tuple #[.string ⟨#[]⟩, .bool false]) (by simp [results, Tryd.results26, go_sem, k1, k2]) rfl ⟨rfl, ?_⟩
      exact (hbw.setCell (p := ⟨w.heap.size + 1, 0, none⟩) (by show _ ≤ _ + 1; omega) _).setCell (p := ⟨w.heap.size + 1 + 1, 0, none⟩) (by show _ ≤ _ + 1 + 1; omega) _
    | true =>
      have hsT : szT l = tkL l := by unfold szT; rw [h1]; rfl
      rw [h1, hsT] at S
      by_cases h2 : (s.size : Int) = tkL l
      · have h3 : good s.data.toList = false := by
          cases h4 : good s.data.toList with
          | false => rfl
          | true => exact absurd ⟨h1, h4, h2⟩ hall
        rw [h3] at T
        rw [← h2] at S
        clear hall h3 h2 hsT h1
        go_enter Tryd.func26, Tryd.ntmps26
        go_wp2_with (first
          | (go_at_call 86; refine (S.out _ (hb0.out _ _ _)).mono ?_; rintro e w1 ⟨rfl, hb1⟩; obtain ⟨⟨q1, q2, q3⟩, hsw, hbw⟩ := boxes3_up hb1; have e1 := q1.cell; have e2 := q2.cell; have f2 := q2.fz; have e3 := (q3.other (B' := w.heap.size + 1) (by omega) (.string ⟨#[]⟩)).cell; have f3 := (q3.other (B' := w.heap.size + 1) (by omega) (.string ⟨#[]⟩)).fz; have k1 := ((q2.set (.string ⟨#[]⟩)).other (B' := w.heap.size + 1 + 1) (by omega) (.bool false)).cell; have k2 := ((q3.other (B' := w.heap.size + 1) (by omega) (.string ⟨#[]⟩)).set (.bool false)).cell)
          | (go_at_call 56; refine (T.out _ hbw).mono ?_; rintro e w' ⟨rfl, hw⟩; replace hw := hw.symm; subst hw))
        refine bodyPost_ret (v := .tuple #[.string ⟨#[]⟩, .bool false]) (by simp [results, Tryd.results26, go_sem, k1, k2]) rfl ⟨rfl, ?_⟩
        exact (hbw.setCell (p := ⟨w.heap.size + 1, 0, none⟩) (by show _ ≤ _ + 1; omega) _).setCell (p := ⟨w.heap.size + 1 + 1, 0, none⟩) (by show _ ≤ _ + 1 + 1; omega) _
      · have hne : ((s.size : Int) != tkL l) = true := by simpa using h2
        clear hall T hsT h1 h2
        go_enter Tryd.func26, Tryd.ntmps26
        go_wp2_with (go_at_call 86; refine (S.out _ (hb0.out _ _ _)).mono ?_; rintro e w1 ⟨rfl, hb1⟩; obtain ⟨⟨q1, q2, q3⟩, hsw, hbw⟩ := boxes3_up hb1; have e1 := q1.cell; have e2 := q2.cell; have f2 := q2.fz; have e3 := (q3.other (B' := w.heap.size + 1) (by omega) (.string ⟨#[]⟩)).cell; have f3 := (q3.other (B' := w.heap.size + 1) (by omega) (.string ⟨#[]⟩)).fz; have k1 := ((q2.set (.string ⟨#[]⟩)).other (B' := w.heap.size + 1 + 1) (by omega) (.bool false)).cell; have k2 := ((q3.other (B' := w.heap.size + 1) (by omega) (.string ⟨#[]⟩)).set (.bool false)).cell)
        refine bodyPost_ret (v := .tuple #[.string ⟨#[]⟩, .bool false]) (by simp [results, Tryd.results26, go_sem, k1, k2]) rfl ⟨rfl, ?_⟩
        exact (hbw.setCell (p := ⟨w.heap.size + 1, 0, none⟩) (by show _ ≤ _ + 1; omega) _).setCell (p := ⟨w.heap.size + 1 + 1, 0, none⟩) (by show _ ≤ _ + 1 + 1; omega) _
end Go.Proofs.YtkjioadmebkaoaaDoor

set_option linter.unusedVariables false
namespace Go.Proofs.YtkjioadmebkaoaaDoor
open Go.RowKit Go.Shelf
open Doc1

attribute [local go_sem] Oper.semAt_some

theorem lvO_shape (o : Option Lm) : lvO o = .nilIface ∨ ∃ T x, lvO o = .iface T x := by
  cases o with
  | none => exact .inl rfl
  | some t => exact .inr (lv_is t)

theorem addPcs_opt (o : Option Lm) (B : Nat) (v : Value) (l : List ByteArray) (w : World) (h : PcOwn w B v l) (hB : B ≤ w.heap.size) (hl : l.length + nbO o ≤ 100000) (hz : szO o ≤ 1000000) : Calls Tryd.prog 65 #[v, lvO o] w (PcPost (pcO o) B v l w) := by
  cases o with
  | none => exact addPieces_none B v l w h hB
  | some t => exact addPieces_any t B v l w h hB hl hz
/-- What lies between two rounds: what is left, and the pieces. -/
def EJ (Br Bo : Nat) (o : Option Lm) (pre : List Pt) (O : Nat → Prop) (W : World) : Prop :=
  ∃ vo, Bxd W Br (lvO (edF pre o).1) ∧ Bxd W Bo vo ∧ PcOwn W 0 vo (edF pre o).2 ∧ (∀ x, vo.ownBlock = some x → x ∉ [Br, Bo]) ∧ Br ≠ Bo ∧ O = AO [Br, Bo] vo
theorem eJ_held (Br Bo : Nat) (o : Option Lm) : Held (EJ Br Bo o) := by
  refine ⟨?_, ?_⟩
  · rintro pre O W ⟨vo, h1, h2, ho, hn, hne, rfl⟩ k (hk | hk)
    · simp only [List.mem_cons, List.not_mem_nil, or_false] at hk
      rcases hk with rfl | rfl
      · exact h1.lt
      · exact h2.lt
    · exact own_lt ho hk
  · rintro pre O W W' ⟨vo, h1, h2, ho, hn, hne, rfl⟩ hs hk
    exact ⟨vo, h1.block (hk _ (.inl (by simp))), h2.block (hk _ (.inl (by simp))), own_move ho (fun x hx => hk x (.inr hx)), hn, hne, rfl⟩
/-- Within a round: besides, the box of the part. -/
def PAx (J : List Pt → (Nat → Prop) → World → Prop) (act : Pt → Nat → Act) (pre : List Pt) (x : Pt) (a' : Act) (B : Nat → Prop) (W : World) : Prop :=
  ∃ O Bx, J pre O W ∧ (∀ k, B k ↔ O k ∨ k = Bx) ∧ ¬ O Bx ∧ (∃ t, W.heap[Bx]? = some (.cells #[.int .i64 x.keep, .string x.put, .string x.drop] t (0, 0))) ∧ a' = act x Bx
theorem pAx_hd {J : List Pt → (Nat → Prop) → World → Prop} (hJ : Held J) (act : Pt → Nat → Act) (pre : List Pt) (x : Pt) (a' : Act) : Held (fun (_ : Unit) => PAx J act pre x a') :=
  ⟨fun ⟨O, Bx, h, hB, _, ⟨t, hx⟩, _⟩ k hk => by
      rcases (hB k).1 hk with c | rfl
      · exact hJ.lt h k c
      · exact (Array.getElem?_eq_some_iff.1 hx).1,
    fun ⟨O, Bx, h, hB, hn, ⟨t, hx⟩, ha⟩ hs hk => ⟨O, Bx, hJ.kept h hs (fun k c => hk k ((hB k).2 (.inl c))), hB, hn, ⟨t, (hk Bx ((hB Bx).2 (.inr rfl))).trans hx⟩, ha⟩⟩
theorem box_cells {W : World} {Bx : Nat} {x : Pt} (h : ∃ t, W.heap[Bx]? = some (.cells #[.int .i64 x.keep, .string x.put, .string x.drop] t (0, 0))) : W.cell? ⟨Bx, 0, none⟩ = some (.int .i64 x.keep) ∧ W.cell? ⟨Bx, 1, none⟩ = some (.string x.put) ∧ W.cell? ⟨Bx, 2, none⟩ = some (.string x.drop) := by
  obtain ⟨t, h⟩ := h
  exact ⟨by rw [cell_of_row _ _ 0 _ _ (0, 0) h]; rfl, by rw [cell_of_row _ _ 1 _ _ (0, 0) h]; rfl, by rw [cell_of_row _ _ 2 _ _ (0, 0) h]; rfl⟩

theorem ej_grow {Br Bo : Nat} {W w2 w3 : World} {vo v3 a : Value} {ps : List ByteArray} (hne : Br ≠ Bo) (h1 : Bxd W Br a) (h2 : Bxd W Bo vo) (hn : ∀ x, vo.ownBlock = some x → x ∉ [Br, Bo]) (hb : Below W.heap.size W w2) (hf : w2.grownBy w3 vo.ownBlock) (ho : PcOwn w3 0 v3 ps) (hl : v3.ownBlock = vo.ownBlock ∨ ∀ y, v3.ownBlock = some y → w2.heap.size ≤ y) :
    Bxd w3 Br a ∧ Bxd w3 Bo vo ∧ Bxd (w3.setCell ⟨Bo, 0, none⟩ v3) Br a ∧ Bxd (w3.setCell ⟨Bo, 0, none⟩ v3) Bo v3 ∧ PcOwn (w3.setCell ⟨Bo, 0, none⟩ v3) 0 v3 ps ∧ (∀ x, v3.ownBlock = some x → x ∉ [Br, Bo]) ∧ Moves (AO [Br, Bo] vo) W (AO [Br, Bo] v3) (w3.setCell ⟨Bo, 0, none⟩ v3) := by
  have l1 := h1.lt
  have l2 := h2.lt
  have hs := hb.size
  have n1 : vo.ownBlock ≠ some Br := fun c => hn Br c (by simp)
  have n2 : vo.ownBlock ≠ some Bo := fun c => hn Bo c (by simp)
  have q1 : Bxd w3 Br a := (h1.up hb).block (hf.block Br (by omega) (Ne.symm n1))
  have q2 : Bxd w3 Bo vo := (h2.up hb).block (hf.block Bo (by omega) (Ne.symm n2))
  have n3 : ∀ x, v3.ownBlock = some x → x ∉ [Br, Bo] := by
    intro x hx
    rcases hl with e | e
    · exact hn x (e ▸ hx)
    · have := e x hx
      simp only [List.mem_cons, List.not_mem_nil, or_false]
      omega
  refine ⟨q1, q2, q1.other (by omega) _, q2.set _, own_move ho (fun x hx => Below.heap_setCell _ _ _ _ (fun c => n3 x hx (by have : x = Bo := c; simp [this]))), n3, ?_⟩
  refine ⟨hf.os.trans hb.os, hf.tape.trans hb.tape, hf.output.trans hb.output, ?_, fun k hk hno => ?_, fun k hk c => ?_⟩
  · have := hf.size
    simp [World.setCell]
    omega
  · have c1 : k ≠ Bo := fun c => hno (.inl (by simp [c]))
    have c2 : vo.ownBlock ≠ some k := fun c => hno (.inr c)
    exact (Below.heap_setCell _ _ _ _ (by show k ≠ Bo; exact c1)).trans ((hf.block k (by omega) (Ne.symm c2)).trans (hb.block k hk))
  · rcases c with c | c
    · exact .inl c
    · rcases hl with e | e
      · exact .inr (e ▸ c)
      · have := e k c; omega
theorem ej_rest {Br Bo : Nat} {W W1 : World} {vo v3 a u : Value} {ps : List ByteArray} (hne : Br ≠ Bo) (h1 : Bxd W1 Br a) (h2 : Bxd W1 Bo v3) (hn : ∀ x, v3.ownBlock = some x → x ∉ [Br, Bo]) (ho : PcOwn W1 0 v3 ps) (mv : Moves (AO [Br, Bo] vo) W (AO [Br, Bo] v3) W1) :
    Bxd (W1.setCell ⟨Br, 0, none⟩ u) Br u ∧ Bxd (W1.setCell ⟨Br, 0, none⟩ u) Bo v3 ∧ PcOwn (W1.setCell ⟨Br, 0, none⟩ u) 0 v3 ps ∧ Moves (AO [Br, Bo] vo) W (AO [Br, Bo] v3) (W1.setCell ⟨Br, 0, none⟩ u) :=
  ⟨h1.set _, h2.other hne.symm _, own_move ho (fun x hx => Below.heap_setCell _ _ _ _ (fun c => hn x hx (by have : x = Br := c; simp [this]))), mv.setCell (fun _ => .inl (by simp)) _⟩
theorem own_up {w : World} {B n sz : Nat} {e : TypeId} {v : Value} {xs : List Value} (h : w.ownsRow 0 e sz v n xs) (hb : ∀ y, v.ownBlock = some y → B ≤ y) : w.ownsRow B e sz v n xs :=
  ⟨h.1, h.2.imp id (fun ⟨g, cap, cur, e1, _, e3⟩ => ⟨g, cap, cur, e1, hb g (by rw [e1]; rfl), e3⟩)⟩
theorem stC_one (l : List ByteArray) : ∀ u ∈ stC l, u.oneCell' = true := by
  intro u hu
  unfold stC at hu
  obtain ⟨x, hx, rfl⟩ := List.mem_map.1 hu
  rfl
theorem pk_le (p : Pt) : pk p ≤ 3 := by unfold pk; split <;> (try split) <;> (try split) <;> omega
theorem pre_at {pre : List Pt} {x : Pt} {op : List Pt} (h : pre ++ [x] <+: op) : ∃ k, ∃ hk : k < op.length, pre = op.take k ∧ op[k] = x := by
  obtain ⟨r, rfl⟩ := h
  refine ⟨pre.length, by simp, by simp, by simp⟩

set_option maxRecDepth 100000 in
set_option maxHeartbeats 8000000 in
theorem edited {w : World} {ao : Option Addr} {g co : Nat} {op : List Pt} {o : Option Lm} (hp : Pin w ao g co op) (hT : Tab w) (hg : goodO op = true) (ht : tkL op = (szO o : Int)) (hgd : gdO o) (hnb : nbO o ≤ 200) (hsz : szO o ≤ 300) :
    Calls Tryd.prog 81 #[lvO o, .slice ao op.length co] w fun e w' => ∃ v, e = .returned v ∧ PcOwn w' w.heap.size v (edF op o).2 ∧ Below w.heap.size w w' := by
  obtain ⟨u0, hu0, hz0, hz1, hz2⟩ := info_parts Tryd.infoPiece
  have PO := hide (fun w' => partsOf_any (.slice ao op.length co) w' _ _ _ rfl)
  have EI := hide (edI_at hg ht hgd hnb)
  have hpk := goodO_pk hg
  have HPK := hide hpk
  have hmk := (goodO_le hg).2.2
  have HMK := hide (fun k => (tkL_take hpk k).2)
  have H := hide hp
  have hHT := hide hT
  have ltT := hT.lt
  have ltg := hp.lt
  clear hp hT hg ht hgd hnb hpk
  have hdep : Fence.wide.depth = none := rfl
  have hmix : Tryd.prog.follows .mixedOrders = true := by kernel_rfl
  obtain ⟨LO, hLO⟩ : ∃ LO, lvO o = LO := ⟨_, rfl⟩
  have hsh := lvO_shape o
  rw [hLO] at hsh ⊢
  have HLO := hide hLO
  clear hLO
  refine (callsIn_wide (n := 6)).1 ?_
  refine callsIn_of_wp_marks Tryd.func81 rfl trivial ?_ rfl
  simp only [Tryd.ntmps81, List.size_toArray, List.length_cons, List.length_nil, Nat.reduceAdd, Nat.reduceSub, Array.replicate_succ, Array.replicate_zero, List.push_toArray, List.append_toArray, List.nil_append, List.cons_append]
  rcases hsh with rfl | ⟨T0, x0, rfl⟩
  all_goals
    gi_wp2_with (refine ⟨trivial, ?_⟩; gi_at_call 149; refine (callsIn_wide.2 (PO.out _)).mono ?_; rintro e w' ⟨rfl, hw⟩; replace hw := hw.symm; subst hw)
    refine three_boxes (Φ := fun W2 => Code.wpIn _ _ _ _ _ _ W2) ?_
    intro W2 hB2 hs2 br bs bq
    rw [← HLO.out] at br ⊢
    have hJ := eJ_held w.heap.size (w.heap.size + 1) o
    have pin2 := H.out.later hB2
    have tab2 := hHT.out.below hB2
    refine wpIn_range rfl (enters_of Tryd.func186 (by kernel_rfl) rfl) (parts_iter pin2 tab2 bq.cell) (fun _ => rfl)
      (J := EJ w.heap.size (w.heap.size + 1) o) (Jx := fun _ _ _ _ => False) (O := AO [w.heap.size, w.heap.size + 1] (.slice none 0 0)) hJ (fun _ => no_held) (Nat.le_refl _)
      (by
        rintro k (rfl | rfl | rfl)
        · exact ⟨by omega, rfl, fun c => by
            rcases c with c | c
            · simp only [List.mem_cons, List.not_mem_nil, or_false] at c; omega
            · simp [Value.ownBlock] at c⟩
        · exact ⟨by omega, rfl, fun c => by
            rcases c with c | c
            · simp only [List.mem_cons, List.not_mem_nil, or_false] at c; omega
            · simp [Value.ownBlock] at c⟩
        · exact ⟨by omega, rfl, fun c => by
            rcases c with c | c
            · simp only [List.mem_cons, List.not_mem_nil, or_false] at c; omega
            · simp [Value.ownBlock] at c⟩)
      ⟨.slice none 0 0, br, bs, World.ownsRow_nil _ _ _ _, (fun x hx => by simp [Value.ownBlock] at hx), by omega, rfl⟩
      (pAx_hd hJ (fun x Bx => { tmps := #[lvO o, .slice ao op.length co, .pointer (some ⟨w.heap.size, 0, none⟩), undef, .slice none 0 0, .pointer (some ⟨w.heap.size + 1, 0, none⟩), .int .i64 (pk x : Int), .pointer (some ⟨Bx, 0, none⟩), undef, undef, .slice ao op.length co, .func (.func 186) #[] #[.pointer (some ⟨w.heap.size + 1 + 1, 0, none⟩)], .int .i64 (pk x : Int), .agg #[.int .i64 x.keep, .string x.put, .string x.drop], undef, undef, undef, undef, undef, undef, undef, undef, undef, undef, undef, undef, undef, undef, undef, undef, undef, undef, undef, undef, undef, undef, undef, undef, undef, undef, undef, undef, undef, undef, undef, undef], defers := [] }))
      ?assigned ?round ?done ?stop
    case assigned =>
      rintro l1 pre x O W K hj hx hK
      simp only [ptE, ptV]
      gi_wp2
      exact hK _ _ _ ((Moves.refl _ _).alloc _) ⟨O, W.heap.size, hJ.up hj ((Below.refl _ _).alloc (Nat.le_refl _) _), fun _ => Iff.rfl, fun c => absurd (hJ.lt hj _ c) (by omega), ⟨_, heap_alloc_new W _⟩, rfl⟩
    case round =>
      rintro l1 pre x a' O W ⟨O1, Bx, ⟨vo, hbr, hbo, how, hnv, hne, rfl⟩, hB, hnB, hbx, rfl⟩ hl1 hnl hx
      have hxm : x ∈ op := hx.subset (by simp)
      have hpx := HPK.out x hxm
      obtain ⟨k, hk, hpre, hxe⟩ := pre_at hx
      have ei := EI.out k (by omega)
      have ei2 := EI.out (k + 1) hk
      have hle := ed_le HPK.out hk ei ei2
      have hstep := edF_snoc pre x o
      rw [← hpre] at ei
      rw [hxe, ← hpre] at hle
      have hee : edF (op.take (k + 1)) o = edK x (edF pre o) := by rw [edF_succ hk, ← hpre, hxe]
      rw [hee] at ei2
      obtain ⟨s, hse⟩ : ∃ s, edF pre o = s := ⟨_, rfl⟩
      rw [hse] at hbr how ei ei2 hstep hle
      have hsl : s.2.length ≤ 300 := by
        have q1 := pcs_few ei.pc
        have q2 := ei.tt
        have q3 := HMK.out k
        omega
      have hps : x.put.size ≤ 1048576 ∧ x.drop.size ≤ 1048576 := by
        obtain ⟨j, hj, rfl⟩ := List.getElem_of_mem hxm
        exact H.out.sz j hj
      unfold tk1 at hle
      obtain ⟨z0, z1, z2⟩ := box_cells hbx
      have HBX := hide hbx
      have HBR := hide hbr
      have HBO := hide hbo
      have HOW := hide how
      have HNV := hide hnv
      have HEI := hide ei
      have HEI2 := hide ei2
      have HST := hide hstep
      have HB := hide hB
      have MV : Hid (∀ O' W', Moves (AO [w.heap.size, w.heap.size + 1] vo) W O' W' → Moves O W O' W') := hide (fun O' W' m => m.wider (fun k _ c => (HB.out k).2 (.inl c)) (fun k hk c => (HB.out k).2 (.inl (m.own k hk c))))
      have b1 := hbr.cell
      have b2 := hbr.fz
      have b3 := hbo.cell
      have b4 := hbo.fz
      have nb1 : Bx ≠ w.heap.size + 1 := fun c => hnB (.inl (by simp [c]))
      have nb2 : vo.ownBlock ≠ some Bx := fun c => hnB (.inr c)
      have ltx := World.block_lt_of_cell? W _ z1
      clear hx hxm hpre hxe ei ei2 hstep hee hse hbr hbo how hnv hB hnB hbx hnl hl1
      by_cases k2 : pk x = 2
      · have hc := pk_two k2
        have hpk : ((pk x : Nat) : Int) = 2 := by omega
        have hps3 : x.put.size ≤ 300 := by rw [szB]; exact good_len hc.2.2.2
        have hps0 : 0 < x.put.size := by rw [szB]; exact List.length_pos_iff.2 hc.2.2.1
        have hed : edK x s = (s.1, s.2 ++ cutL x.put) := by unfold edK; rw [if_pos k2]
        have HED := hide hed
        have hm0 : 0 < (cutL x.put).length := by rw [cutL_len]; unfold cutN; omega
        have hm1 : (cutL x.put).length ≤ 300 := by rw [cutL_len]; unfold cutN; omega
        have CU := hide (fun w' => cutInPieces_any x.put w' (by omega))
        have hS : W.drew.cell? ⟨Bx, 1, none⟩ = some (.string x.put) := z1
        clear hc hed hle
        gi_wp2_with fail
        refine regionIn_any hmix (by kernel_rfl) (fun _ _ h => h) ?_
        refine wpAny_of_held (S := (fun w' => w'.cell? ⟨Bx, 1, none⟩ = some (.string x.put))) _ _ _ _ ?_
        refine wpAnyH_take (i := 1) (v := .pointer (some ⟨Bx, 1, none⟩)) rfl (by kernel_rfl) (by kernel_rfl) (by kernel_rfl) (fun _ _ _ h => h) (Or.inl ⟨by rfl, fun w' hw => by go_simp⟩) hS ?_
        refine wpAnyH_take (i := 2) (v := .string x.put) rfl (by kernel_rfl) (by kernel_rfl) (by kernel_rfl) (fun _ _ _ h => h) (Or.inl ⟨by rfl, fun w' hw => by go_simp⟩) hS ?_
        refine wpAnyH_ready (rs := [0, 3]) (by kernel_rfl) (by simp) ?_
        refine AllReadyH.cons rfl (fun K hK => ?_) (AllReadyH.cons rfl (fun K hK => ?_) AllReadyH.nil)
        · go_simp
          refine hK.out _ _ hS (fun hS1 => ?_)
          clear hK K
          refine wpAnyH_ready (rs := [3]) (by kernel_rfl) (by simp) ?_
          refine AllReadyH.cons rfl (fun K hK => ?_) AllReadyH.nil
          go_simp
          go_at_call 59
          refine (CU.out _).mono ?_
          rintro e w2 ⟨vc, rfl, hoc, hb2⟩
          replace hb2 : Below W.heap.size W w2 := ((Below.refl _ _).drew).trans hb2
          have hS2 : w2.cell? ⟨Bx, 1, none⟩ = some (.string x.put) := (hb2.cell ltx).trans z1
          have b5 := (HBO.out.up hb2).cell
          obtain ⟨gc, cc, rfl, -, -, -, hgc, -⟩ := own_open hoc hm0
          have hcs := World.ownsRow.cells hoc (g := gc) rfl
          have hst : (stC (cutL x.put)).length = (cutL x.put).length := by simp [stC]
          go_simp
          refine hK.out _ _ hS2 (fun _ => ?_)
          clear hK K
          refine wpAnyH_ready (rs := [4]) (by kernel_rfl) (by simp) ?_
          refine AllReadyH.cons rfl (fun K hK => ?_) AllReadyH.nil
          refine step_append_lies _ (by rfl) _ _ _ (by rfl) 0 200 u0 (.string ⟨#[]⟩) 1 16 Tryd.underlying108 hu0 hz0 hz1 hz2 rfl (by omega) vo s.2.length (stC s.2) (by rfl) (own_below HOW.out hb2) ⟨gc, 0, none⟩ (cutL x.put).length cc (stC (cutL x.put)) (by rfl) (by rw [hst, Nat.mul_one]) hcs (stC_one _) hm0 (by unfold maxLen; omega) (by omega) (Nat.zero_le _) w2.heap.size rfl ?_
          intro gg cap' w3 hown1 hgrow hat2 hlt2
          have hS3 : w3.cell? ⟨Bx, 1, none⟩ = some (.string x.put) := (hgrow.cell_far ⟨Bx, 1, none⟩ (by have := hb2.size; show Bx < _; omega) (Ne.symm nb2)).trans hS2
          have gg := ej_grow hne HBR.out HBO.out HNV.out hb2 hgrow (PcOwn.app hown1) (hat2.imp (fun e => e.symm) (fun e y hy => by simp only [Value.ownBlock, Option.some.injEq] at hy; omega))
          have g1 := gg.2.1.cell
          have g2 := gg.2.1.fz
          have GG := hide gg
          clear gg
          refine hK.out _ _ hS3 (fun _ => ?_)
          clear hK K
          refine wpAnyH_ready (rs := [5]) (by kernel_rfl) (by simp) ?_
          refine AllReadyH.cons rfl (fun K hK => ?_) AllReadyH.nil
          go_simp
          refine hK.out _ _ ((World.cell?_setCell_far _ _ _ _ (Ne.symm nb1)).trans hS3) (fun _ => ?_)
          clear hK K
          refine wpAnyH_done (by kernel_rfl) ?_ _
          gi_wp2
          obtain ⟨-, -, r1, r2, r3, r4, r5⟩ := GG.out
          refine ⟨_, MV.out _ _ r5, _, ?_, r2, ?_, r4, hne, rfl⟩
          · rw [HST.out, HED.out]; exact r1
          · rw [HST.out, HED.out]; exact r3
        · go_simp
          go_at_call 59
          refine (CU.out _).mono ?_
          rintro e w2 ⟨vc, rfl, hoc, hb2⟩
          replace hb2 : Below W.heap.size W w2 := ((Below.refl _ _).drew).trans hb2
          have hS2 : w2.cell? ⟨Bx, 1, none⟩ = some (.string x.put) := (hb2.cell ltx).trans z1
          have b5 := (HBO.out.up hb2).cell
          obtain ⟨gc, cc, rfl, -, -, -, hgc, -⟩ := own_open hoc hm0
          have hcs := World.ownsRow.cells hoc (g := gc) rfl
          have hst : (stC (cutL x.put)).length = (cutL x.put).length := by simp [stC]
          go_simp
          refine hK.out _ _ hS2 (fun _ => ?_)
          clear hK K
          refine wpAnyH_ready (rs := [0]) (by kernel_rfl) (by simp) ?_
          refine AllReadyH.cons rfl (fun K hK => ?_) AllReadyH.nil
          go_simp
          refine hK.out _ _ hS2 (fun _ => ?_)
          clear hK K
          refine wpAnyH_ready (rs := [4]) (by kernel_rfl) (by simp) ?_
          refine AllReadyH.cons rfl (fun K hK => ?_) AllReadyH.nil
          refine step_append_lies _ (by rfl) _ _ _ (by rfl) 0 200 u0 (.string ⟨#[]⟩) 1 16 Tryd.underlying108 hu0 hz0 hz1 hz2 rfl (by omega) vo s.2.length (stC s.2) (by rfl) (own_below HOW.out hb2) ⟨gc, 0, none⟩ (cutL x.put).length cc (stC (cutL x.put)) (by rfl) (by rw [hst, Nat.mul_one]) hcs (stC_one _) hm0 (by unfold maxLen; omega) (by omega) (Nat.zero_le _) w2.heap.size rfl ?_
          intro gg cap' w3 hown1 hgrow hat2 hlt2
          have hS3 : w3.cell? ⟨Bx, 1, none⟩ = some (.string x.put) := (hgrow.cell_far ⟨Bx, 1, none⟩ (by have := hb2.size; show Bx < _; omega) (Ne.symm nb2)).trans hS2
          have gg := ej_grow hne HBR.out HBO.out HNV.out hb2 hgrow (PcOwn.app hown1) (hat2.imp (fun e => e.symm) (fun e y hy => by simp only [Value.ownBlock, Option.some.injEq] at hy; omega))
          have g1 := gg.2.1.cell
          have g2 := gg.2.1.fz
          have GG := hide gg
          clear gg
          refine hK.out _ _ hS3 (fun _ => ?_)
          clear hK K
          refine wpAnyH_ready (rs := [5]) (by kernel_rfl) (by simp) ?_
          refine AllReadyH.cons rfl (fun K hK => ?_) AllReadyH.nil
          go_simp
          refine hK.out _ _ ((World.cell?_setCell_far _ _ _ _ (Ne.symm nb1)).trans hS3) (fun _ => ?_)
          clear hK K
          refine wpAnyH_done (by kernel_rfl) ?_ _
          gi_wp2
          obtain ⟨-, -, r1, r2, r3, r4, r5⟩ := GG.out
          refine ⟨_, MV.out _ _ r5, _, ?_, r2, ?_, r4, hne, rfl⟩
          · rw [HST.out, HED.out]; exact r1
          · rw [HST.out, HED.out]; exact r3
      · by_cases k1 : pk x = 1
        · have hc := pk_one k1
          obtain ⟨n, hn⟩ : ∃ n, x.keep.toNat = n := ⟨_, rfl⟩
          have hkn : x.keep = (n : Int) := by omega
          have hn300 : n ≤ 300 := by omega
          have hnl : n ≤ szO s.1 := by omega
          have hed : edK x s = ((splO s.1 n).2, s.2 ++ pcO (splO s.1 n).1) := by unfold edK; rw [if_neg k2, if_pos k1, hn]
          have SP := hide (fun w' => splitLimb_opt s.1 n w' hnl HEI.out.gd (by omega))
          have hg3 := splO_nb s.1 n
          have hg4 := splO_sz s.1 n hnl
          have hnb1 := HEI.out.nb
          obtain ⟨Y1, hY1⟩ : ∃ Y1, (splO s.1 n).1 = Y1 := ⟨_, rfl⟩
          obtain ⟨Y2, hY2⟩ : ∃ Y2, (splO s.1 n).2 = Y2 := ⟨_, rfl⟩
          rw [hY1, hY2] at SP hed
          rw [hY1] at hg3 hg4
          have AP : Hid (∀ w', Below W.heap.size W w' → _) := hide (fun w' (hb : Below W.heap.size W w') => addPcs_opt Y1 0 vo s.2 w' (own_below HOW.out hb) (Nat.zero_le _) (by omega) (by omega))
          have HED := hide hed
          have hpk : ((pk x : Nat) : Int) = 1 := by omega
          have hsh := lvO_shape Y2
          obtain ⟨LY, hLY⟩ : ∃ LY, lvO Y2 = LY := ⟨_, rfl⟩
          obtain ⟨LX, hLX⟩ : ∃ LX, lvO Y1 = LX := ⟨_, rfl⟩
          obtain ⟨LS, hLS⟩ : ∃ LS, lvO s.1 = LS := ⟨_, rfl⟩
          rw [hLY] at SP hsh
          rw [hLX] at SP AP
          rw [hLS] at SP b1
          have HLY := hide hLY
          clear hc hn hnl hed hg3 hg4 hnb1 hY1 hY2 hLY hLX hLS hle
          rcases hsh with rfl | ⟨T2, x2, rfl⟩
          all_goals
            gi_wp2_with (first
              | (refine ⟨trivial, ?_⟩; gi_at_call 72; refine (callsIn_wide.2 (SP.out _)).mono ?_; rintro e w2 ⟨rfl, hb2⟩; have b5 := (HBO.out.up hb2).cell)
              | (refine ⟨trivial, ?_⟩; gi_at_call 65; refine (callsIn_wide.2 (AP.out _ hb2)).mono ?_; rintro e w3 ⟨v3, rfl, ho3, hf3, hl3⟩; obtain ⟨a3, c3, e3, -, -⟩ := own_shp ho3; obtain ⟨N3, hN3⟩ : ∃ N3, (s.2 ++ pcO Y1).length = N3 := ⟨_, rfl⟩; rw [hN3] at e3; clear hN3; subst e3; have gg := ej_grow hne HBR.out HBO.out HNV.out hb2 hf3.g ho3 hl3; have g1 := gg.2.1.cell; have g2 := gg.2.1.fz; have g3 := gg.2.2.1.cell; have g4 := gg.2.2.1.fz; have GG := hide gg; clear gg))
            obtain ⟨-, -, r1, r2, r3, r4, r5⟩ := GG.out
            obtain ⟨t1, t2, t3, t4⟩ := ej_rest hne r1 r2 r4 r3 r5
            refine ⟨_, MV.out _ _ t4, _, ?_, t2, ?_, r4, hne, rfl⟩
            · rw [HST.out, HED.out, HLY.out]; exact t1
            · rw [HST.out, HED.out]; exact t3
        · have hc := pk_three hpx k1 k2
          have hk3 : ((pk x : Nat) : Int) = 3 := by
            have := pk_le x
            omega
          have hnl : x.drop.size ≤ szO s.1 := by omega
          have hed : edK x s = ((splO s.1 x.drop.size).2, s.2) := by unfold edK; rw [if_neg k2, if_neg k1]
          have SP := hide (fun w' => splitLimb_opt s.1 x.drop.size w' hnl HEI.out.gd (by omega))
          obtain ⟨Y2, hY2⟩ : ∃ Y2, (splO s.1 x.drop.size).2 = Y2 := ⟨_, rfl⟩
          rw [hY2] at SP hed
          have HED := hide hed
          have hsh := lvO_shape Y2
          obtain ⟨LY, hLY⟩ : ∃ LY, lvO Y2 = LY := ⟨_, rfl⟩
          obtain ⟨LX, hLX⟩ : ∃ LX, lvO (splO s.1 x.drop.size).1 = LX := ⟨_, rfl⟩
          obtain ⟨LS, hLS⟩ : ∃ LS, lvO s.1 = LS := ⟨_, rfl⟩
          rw [hLY] at SP hsh
          rw [hLX] at SP
          rw [hLS] at SP b1
          have HLY := hide hLY
          clear hc hnl hed hY2 hLY hLX hLS hle
          rcases hsh with rfl | ⟨T2, x2, rfl⟩
          all_goals
            gi_wp2_with (refine ⟨trivial, ?_⟩; gi_at_call 72; refine (callsIn_wide.2 (SP.out _)).mono ?_; rintro e w2 ⟨rfl, hb2⟩; have b5 := (HBR.out.up hb2).cell; have b6 := (HBR.out.up hb2).fz)
            obtain ⟨t1, t2, t3, t4⟩ := ej_rest hne (HBR.out.up hb2) (HBO.out.up hb2) HNV.out (own_below HOW.out hb2) (moves_up hb2)
            refine ⟨_, MV.out _ _ t4, _, ?_, t2, ?_, HNV.out, hne, rfl⟩
            · rw [HST.out, HED.out, HLY.out]; exact t1
            · rw [HST.out, HED.out]; exact t3
    case done =>
      rintro D O' W hD hnD ⟨vo, hbr, hbo, how, hnv, hne, rfl⟩ mv hK
      have hb3 : Below w.heap.size w W := hB2.trans ⟨mv.os, mv.tape, mv.output, mv.size, fun k hk => mv.same k (by omega) (fun c => by
        rcases c with c | c
        · simp only [List.mem_cons, List.not_mem_nil, or_false] at c; omega
        · simp [Value.ownBlock] at c)⟩
      have hvb : ∀ y, vo.ownBlock = some y → w.heap.size ≤ y := fun y hy => by
        by_cases c : y < W2.heap.size
        · rcases mv.own y c (.inr hy) with d | d
          · exact absurd d (hnv y hy)
          · simp [Value.ownBlock] at d
        · omega
      obtain ⟨av, cv, rfl, -, -⟩ := own_shp how
      have b3 := hbo.cell
      have nDv : ∀ y, (Value.slice av (edF op o).2.length cv).ownBlock = some y → y ≠ D := fun y hy c => hnD (.inr (c ▸ hy))
      have how2 : PcOwn (W.putObj D (.deferred none)) w.heap.size (.slice av (edF op o).2.length cv) (edF op o).2 := own_up (own_move how (fun x hx => World.putObj_heap_other (nDv x hx))) hvb
      have HOW := hide how2
      have HE := hide (hb3.trans (⟨rfl, rfl, rfl, by simp, fun k hk => World.putObj_heap_other (by omega)⟩ : Below w.heap.size W (W.putObj D (.deferred none))))
      clear hb3 hvb nDv how2 how hbr hbo hnv mv hnD
      gi_wp2
      refine ⟨by simp, .inl ⟨_, _, rfl, run_takeDeferred hK, ?_⟩⟩
      refine ⟨.slice av (edF op o).2.length cv, ?_, _, rfl, HOW.out, HE.out⟩
      simp [results, Tryd.f81, go_sem]
    case stop => exact fun _ _ _ _ _ _ _ _ h => h.elim
end Go.Proofs.YtkjioadmebkaoaaDoor

set_option linter.unusedVariables false
namespace Go.Proofs.YtkjioadmebkaoaaDoor
open Go.RowKit
open Doc1

set_option maxRecDepth 100000 in
set_option maxHeartbeats 4000000 in
theorem jnRow_any (l : List ByteArray) (a : Option Addr) (cap : Nat) (w : World) (hs : ∀ i (h : i < l.length), ∃ g, a = some ⟨g, 0, none⟩ ∧ g < w.heap.size ∧ w.cell? ⟨g, i, none⟩ = some (.string l[i])) (hl : l.length ≤ 100000) (hc : l.length ≤ cap ∧ cap ≤ maxLen) (ht : tot l ≤ 100000) :
    Calls Tryd.prog 80 #[.slice a l.length cap] w fun e w' => e = .returned (lvO (inRow l)) ∧ Below w.heap.size w w' := by
  have JL := hide joinLimbs_any
  have HS := hide hs
  have HT := hide ht
  clear hs ht
  go_enter Tryd.func80, Tryd.ntmps80
  go_wp2
  go_loopw [3, 8] (fun v vi wr => ∃ (k : Nat), k ≤ l.length ∧ vi = .int .i64 (k : Int) ∧ ∃ o, v = lvO o ∧ Hid (o = inRow (l.take k)) ∧ Hid (Below w.heap.size w wr)) (fun _ vi _ => l.length - (intOf vi).toNat)
  case atStart => exact ⟨0, by omega, rfl, none, rfl, hide rfl, hide (Below.refl _ _)⟩
  case round =>
    obtain ⟨k, hk, rfl, o, rfl, HO, HB⟩ := hrel
    by_cases hlt : k < l.length
    · obtain ⟨g, rfl, hg, c⟩ := HS.out k hlt
      have c1 : wr.cell? ⟨g, k, none⟩ = some (.string l[k]) := (World.cell?_of_block (HB.out.block g hg)).trans c
      have h1 : szO o ≤ 1000000 := by
        have := HT.out; have := tot_take_drop l k
        rw [HO.out, szO_row]; omega
      have h2 : szO (some (.pc l[k])) ≤ 1000000 := by
        have := HT.out; have := tot_at hlt
        show l[k].size ≤ _
        omega
      have J := hide (JL.out o (some (.pc l[k])) wr h1 h2)
      rw [show lvO (some (.pc l[k])) = .iface 200 (.string l[k]) from rfl] at J
      have HN : Hid (jo o (some (.pc l[k])) = inRow (l.take (k + 1))) := hide (by rw [List.take_succ_eq_append_getElem hlt, inRow_snoc, HO.out])
      obtain ⟨va, hva⟩ : ∃ va, lvO o = va := ⟨_, rfl⟩
      rw [hva] at J ⊢
      clear c h1 h2 hva
      go_wp2_with fail
      refine J.out.mono ?_
      rintro e w2 ⟨rfl, hb2⟩
      have HB2 := hide (HB.out.trans (hb2.mono HB.out.size))
      clear hb2 J
      go_wp2
      exact ⟨⟨k + 1, by omega, by go_num, _, rfl, HN, HB2⟩, by simp [intOf]; omega⟩
    · have HE : Hid (inRow l = o) := hide (by rw [HO.out, List.take_of_length_le (by omega)])
      go_wp2
      go_ret
      exact ⟨by rw [HE.out] <;> rfl, HB.out⟩
theorem jnRow_own {w : World} {B : Nat} {v : Value} {l : List ByteArray} (h : PcOwn w B v l) (hl : l.length ≤ 100000) (ht : tot l ≤ 100000) :
    Calls Tryd.prog 80 #[v] w fun e w' => e = .returned (lvO (inRow l)) ∧ Below w.heap.size w w' := by
  obtain ⟨a, cap, rfl, k1, k2, hc⟩ := h.at'
  exact jnRow_any l a cap w hc hl ⟨k1, k2⟩ ht

set_option maxRecDepth 100000 in
set_option maxHeartbeats 8000000 in
theorem editI {w : World} {a : Option Addr} {cap : Nat} {l : List Bg} {ao : Option Addr} {g co : Nat} {op : List Pt} (h : RIn w a cap l) (hp : Pin w ao g co op) (hT : Tab w) :
    Calls Tryd.prog 24 #[.agg #[.slice a l.length cap], .slice ao op.length co] w (RpPost w (edL l op) (edB l op)) := by
  obtain ⟨w1, hw1⟩ : ∃ w1, w1 = (w.alloc (.cells #[.slice a l.length cap] 26)).alloc (.cells #[.slice none 0 0] 26) := ⟨_, rfl⟩
  obtain ⟨hs1, hb1, -, hc1⟩ := boxes2 w (.slice a l.length cap) (.slice none 0 0)
  rw [← hw1] at hs1 hb1 hc1
  have R1 := hide (root_of (h.later hb1) (hT.below hb1))
  unfold RtPost at R1
  have ok1 := rt_ok l
  have hpl := pcO_len (rtO l)
  have htt := pcO_tot (rtO l)
  have hcz := catB_size (pcO (rtO l))
  have A1 := hide (fun w => addPieces_opt (rtO l) w (by omega) (by omega))
  have TX := hide (fun (w : World) (B : Nat) (v : Value) (h : PcOwn w B v (pcO (rtO l))) => textOfPieces_own h (by omega) (by omega))
  have AP := hide (fun w' (hb : Below w.heap.size w w') => applyI (catB (pcO (rtO l))) (hp.later hb) (hT.below hb) (by omega))
  have HN : Hid (rtB l = false → edL l op = [] ∧ edB l op = false) := hide (fun c => by unfold edL edB edQ; rw [c]; exact ⟨rfl, rfl⟩)
  have HM : Hid ((aplO op (catB (pcO (rtO l)))).2 = false → edL l op = [] ∧ edB l op = false) := hide (fun c => by unfold edL edB edQ; rw [c, Bool.and_false]; exact ⟨rfl, rfl⟩)
  have HY : Hid (rtB l = true → (aplO op (catB (pcO (rtO l)))).2 = true → edL l op = okB (inRow (edF op (rtO l)).2) ∧ edB l op = fit (inRow (edF op (rtO l)).2) ∧
      (∀ w', Below w.heap.size w w' → Calls Tryd.prog 81 #[lvO (rtO l), .slice ao op.length co] w' fun e w2 => ∃ v, e = .returned v ∧ PcOwn w2 w'.heap.size v (edF op (rtO l)).2 ∧ Below w'.heap.size w' w2) ∧
      (∀ w' B v, PcOwn w' B v (edF op (rtO l)).2 → Calls Tryd.prog 80 #[v] w' fun e w2 => e = .returned (lvO (inRow (edF op (rtO l)).2)) ∧ Below w'.heap.size w' w2) ∧
      (∀ w', Calls Tryd.prog 57 #[lvO (inRow (edF op (rtO l)).2)] w' (RpPost w' (okB (inRow (edF op (rtO l)).2)) (fit (inRow (edF op (rtO l)).2))))) := hide (fun c1 c2 => by
    obtain ⟨hgd, hnb, hsz, hgt, hcs⟩ := rt_text c1
    have hy := apl_yes c2
    have hgo := hy.1
    have htk : tkL op = (szO (rtO l) : Int) := by rw [← hy.2.2.1, hcs]
    have ei := edI_at hgo htk hgd hnb op.length (Nat.le_refl _)
    rw [List.take_length] at ei
    have fin := ed_fin ei (goodO_le hgo).2.2
    have hfew := pcs_few ei.pc
    have htot := ei.tt
    rw [List.take_length] at htot
    have hmk := (goodO_le hgo).2.2
    refine ⟨by unfold edL edQ edO; rw [c1, c2]; rfl, by unfold edB edQ edO; rw [c1, c2]; rfl, fun w' hb => edited (hp.later hb) (hT.below hb) hgo htk hgd hnb hsz, fun w' B v ho => jnRow_own ho (by omega) (by omega), fun w' => ropeWith_any _ w' (by omega) (by omega)⟩)
  unfold RpPost at HY ⊢
  obtain ⟨L, hL⟩ : ∃ L, edL l op = L := ⟨_, rfl⟩
  obtain ⟨bb, hbb⟩ : ∃ bb, edB l op = bb := ⟨_, rfl⟩
  rw [hL, hbb]
  obtain ⟨v1, hv1⟩ : ∃ vo, lvO (rtO l) = vo := ⟨_, rfl⟩
  obtain ⟨v3, hv3⟩ : ∃ vo, lvO (inRow (edF op (rtO l)).2) = vo := ⟨_, rfl⟩
  obtain ⟨L3, hL3⟩ : ∃ L3, okB (inRow (edF op (rtO l)).2) = L3 := ⟨_, rfl⟩
  obtain ⟨b3, hb3⟩ : ∃ b3, fit (inRow (edF op (rtO l)).2) = b3 := ⟨_, rfl⟩
  obtain ⟨bl, hbl⟩ : ∃ bl, rtB l = bl := ⟨_, rfl⟩
  obtain ⟨tx, htx⟩ : ∃ tx, catB (pcO (rtO l)) = tx := ⟨_, rfl⟩
  simp only [htx] at TX AP HM HY hcz
  obtain ⟨ba, hba⟩ : ∃ ba, (aplO op tx).2 = ba := ⟨_, rfl⟩
  obtain ⟨ta, hta⟩ : ∃ ta, (aplO op tx).1 = ta := ⟨_, rfl⟩
  simp only [hv1, hv3, hL3, hb3, hbl, hL, hbb, hba, hta] at R1 AP HN HM HY A1
  have HB1 := hide hb1
  have HC1 := hide hc1
  have hcap := hp.cap
  have hlen := hp.len
  clear hv1 hv3 hL3 hb3 hL hbb hbl htx hba hta ok1 h hT hp hb1 hc1 hpl htt hcz
  go_enter Tryd.func24, Tryd.ntmps24
  go_wp2_with fail
  rw [← hw1]
  clear hw1
  refine R1.out.mono ?_
  rintro e w2 ⟨rfl, hb2⟩
  have HB2 : Hid (Below w.heap.size w w2) := hide (HB1.out.trans (hb2.mono HB1.out.size))
  have HC2 := hide (HC1.out.later hb2)
  clear hb2 HC1 HB1
  cases bl with
  | false =>
    obtain ⟨rfl, rfl⟩ := HN.out rfl
    have hc := HC2.out.cell
    have hf := HC2.out.fz
    clear HN HY HM
    go_wp2
    refine bodyPost_ret (results_cell_tmp rfl _ _ (w.heap.size + 1) 26 _ (0, 0) _ (.bool false) rfl rfl (HC2.out.put _) Tryd.underlying26 rfl Tryd.sizeRope) rfl ?_
    exact ⟨_, rfl, World.ownsRow_nil _ _ _ _, HB2.out.setCell (by show w.heap.size ≤ w.heap.size + 1; omega) _⟩
  | true =>
    go_wp2_with fail
    refine (A1.out w2).mono ?_
    rintro e w3 ⟨v4, rfl, own3, hb3⟩
    have HC3 := hide (HC2.out.later hb3)
    have HB3 : Hid (Below w.heap.size w w3) := hide (HB2.out.trans (hb3.mono HB2.out.size))
    have T3 := hide (TX.out w3 _ v4 own3)
    clear hb3 own3 HC2 HB2 TX
    go_wp2_with fail
    refine T3.out.mono ?_
    rintro e w4 ⟨rfl, hb4⟩
    have HC4 := hide (HC3.out.later hb4)
    have HB4 : Hid (Below w.heap.size w w4) := hide (HB3.out.trans (hb4.mono HB3.out.size))
    have AP4 := hide (AP.out w4 HB4.out)
    clear hb4 HC3 HB3 T3 AP
    go_wp2_with fail
    refine AP4.out.mono ?_
    rintro e w5 ⟨rfl, hb5⟩
    have HC5 := hide (HC4.out.later hb5)
    have HB5 : Hid (Below w.heap.size w w5) := hide (HB4.out.trans (hb5.mono HB4.out.size))
    clear hb5 HC4 HB4 AP4
    cases ba with
    | false =>
      obtain ⟨rfl, rfl⟩ := HM.out rfl
      have hc := HC5.out.cell
      have hf := HC5.out.fz
      clear HN HY HM
      go_wp2
      refine bodyPost_ret (results_cell_tmp rfl _ _ (w.heap.size + 1) 26 _ (0, 0) _ (.bool false) rfl rfl (HC5.out.put _) Tryd.underlying26 rfl Tryd.sizeRope) rfl ?_
      exact ⟨_, rfl, World.ownsRow_nil _ _ _ _, HB5.out.setCell (by show w.heap.size ≤ w.heap.size + 1; omega) _⟩
    | true =>
      obtain ⟨rfl, rfl, E1, J1, RW1⟩ := HY.out (by trivial) (by trivial)
      have E5 := hide (E1 w5 HB5.out)
      have J := hide J1
      have RW := hide RW1
      clear HN HY HM E1 J1 RW1
      go_wp2_with fail
      refine E5.out.mono ?_
      rintro e w6 ⟨v6, rfl, own6, hb6⟩
      have HC6 := hide (HC5.out.later hb6)
      have HB6 : Hid (Below w.heap.size w w6) := hide (HB5.out.trans (hb6.mono HB5.out.size))
      have J6 := hide (J.out w6 _ v6 own6)
      clear hb6 own6 HC5 HB5 J E5
      go_wp2_with fail
      refine J6.out.mono ?_
      rintro e w7 ⟨rfl, hb7⟩
      have HC7 := hide (HC6.out.later hb7)
      have HB7 : Hid (Below w.heap.size w w7) := hide (HB6.out.trans (hb7.mono HB6.out.size))
      clear hb7 HC6 HB6 J6
      go_wp2_with fail
      refine (RW.out w7).mono ?_
      rintro e w8 ⟨v8, rfl, own8, hb8⟩
      obtain ⟨a8, c8, rfl, -⟩ := own_shp own8
      have HC8 := hide (HC7.out.later hb8)
      have hc := HC8.out.cell
      have hf := HC8.out.fz
      have HB8 : Hid (Below w.heap.size w w8) := hide (HB7.out.trans (hb8.mono HB7.out.size))
      have HO8 := hide (own_aside own8 HC7.out.lt 0 (.slice a8 L.length c8))
      have HS7 := hide HB7.out.size
      clear hb8 own8 HC7 HB7
      go_wp2
      refine bodyPost_ret (results_cell_tmp rfl _ _ (w.heap.size + 1) 26 _ (0, 0) _ (.bool bb) rfl rfl (HC8.out.put _) Tryd.underlying26 rfl Tryd.sizeRope) rfl ?_
      exact ⟨_, rfl, own_mono HO8.out HS7.out, HB8.out.setCell (by show w.heap.size ≤ w.heap.size + 1; omega) _⟩
end Go.Proofs.YtkjioadmebkaoaaDoor

namespace Go.Proofs.YtkjioadmebkaoaaDoor
open Go.RowKit
open Doc1

/-- What the drawing of a change and a text leaves. -/
def OpPost (w : World) (e : Ending) (w' : World) : Prop := ∃ v L s, e = .returned (.tuple #[v, .string s]) ∧ POwn w' w.heap.size v L ∧ L.length ≤ 2586186935075 ∧ (∀ p ∈ L, smP p) ∧ s.size ≤ 303 ∧ Below w.heap.size w w'

end Go.Proofs.YtkjioadmebkaoaaDoor

namespace Go.Proofs.YtkjioadmebkaoaaDoor
open Go.RowKit
open Doc1

set_option maxHeartbeats 1000000 in
theorem among_any (g : Nat) (C : Value) (M : Nat) (b o len cap : Nat) (lo hi : Int) (w : World) (hcur : CurAt g C M w) (hco : CodeAt g C w) (hM : M ≤ 3999999999999999990) (hb : b ≠ g) (hl : ∀ j, j < len → ∃ z : Int, (lo ≤ z ∧ z ≤ hi) ∧ w.cell? ⟨b, o + j, none⟩ = some (.int .i64 z)) (h1 : 0 < len) (_h2 : len ≤ 1000000) (_h3 : len ≤ cap) :
    Calls Tryd.prog 148 #[.pointer (some ⟨g, 0, none⟩), .slice (some ⟨b, o, none⟩) len cap] w fun e w' => ∃ z : Int, e = .returned (.int .i64 z) ∧ (lo ≤ z ∧ z ≤ hi) ∧ CurAt g C (M + 2) w' ∧ w.grownBy w' (some g) := by
  have H1 := hide (pick_any g C M len w hcur hco hM)
  clear hcur hco hM
  go_enter Tryd.func148, Tryd.ntmps148
  go_wp2_with fail
  refine H1.out.mono ?_
  rintro e w1 ⟨y, rfl, hy0, hy1, hy2, hc1, hg1⟩
  obtain ⟨n, rfl⟩ : ∃ n : Nat, y = n := ⟨y.toNat, by omega⟩
  have hn : n < len := by have := hy2 (by omega); omega
  obtain ⟨z, hz, hcs⟩ := hl n hn
  have hc' : w1.cell? ⟨b, o + n, none⟩ = some (.int .i64 z) := hg1.cell hcs (fun e => hb (by cases e; rfl))
  clear hl hy2 hcs
  go_wp2
  go_ret
  exact ⟨z, rfl, hz, hc1, hg1⟩

/-- What the drawing of a change leaves. -/
def ChPost (g : Nat) (C : Value) (M : Nat) (w : World) (e : Ending) (w' : World) : Prop :=
  ∃ v L, e = .returned v ∧ POwn w' w.heap.size v L ∧ L.length ≤ 2586186935076 ∧ (∀ p ∈ L, smP p) ∧ CurAt g C M w' ∧ w.grownBy w' (some g)
theorem part_at {L : List Pt} {n : Nat} (h : n < L.length) : L = L.take n ++ L[n] :: L.drop (n + 1) := by
  rw [List.getElem_cons_drop]; exact (List.take_append_drop n L).symm
theorem smP_set {L : List Pt} {n : Nat} {x : Pt} (hs : ∀ p ∈ L, smP p) (hx : smP x) : ∀ p ∈ L.take n ++ x :: L.drop (n + 1), smP p := by
  intro p hp
  rcases List.mem_append.1 hp with c | c
  · exact hs p (List.mem_of_mem_take c)
  · rcases List.mem_cons.1 c with c | c
    · rw [c]; exact hx
    · exact hs p (List.mem_of_mem_drop c)
theorem len_set {L : List Pt} {n : Nat} (hn : n < L.length) (x : Pt) : (L.take n ++ x :: L.drop (n + 1)).length = L.length := by
  simp; omega
/-- A field of a part is written. -/
theorem POwn.put {w : World} {B gb cap : Nat} {L : List Pt} {n : Nat} (h : POwn w B (.slice (some ⟨gb, 0, none⟩) L.length cap) L) (hn : n < L.length) (f : Nat) (u : Value) {x' : Pt} (hf : f < 3) (hx : (ptC L[n]).set f u = ptC x') :
    POwn (w.setCell ⟨gb, n * 3 + f, none⟩ u) B (.slice (some ⟨gb, 0, none⟩) L.length cap) (L.take n ++ x' :: L.drop (n + 1)) := by
  have hl := part_at hn
  have h0 : POwn w B (.slice (some ⟨gb, 0, none⟩) L.length cap) (L.take n ++ L[n] :: L.drop (n + 1)) := by rw [← hl]; exact h
  have := POwn.set (x' := x') h0 (by rw [← hl]) f u hf hx
  rw [List.length_take, Nat.min_eq_left (by omega)] at this
  exact this
theorem setBlk {w w1 : World} {g b k : Nat} {u : Value} (h : w.grownBy w1 (some g)) (hb : w.heap.size ≤ b) : w.grownBy (w1.setCell ⟨b, k, none⟩ u) (some g) :=
  ⟨h.os, h.tape, h.output, by have := h.size; simpa using this, fun j hj hne => (Below.heap_setCell _ _ _ _ (by show j ≠ b; omega)).trans (h.block j hj hne)⟩
theorem CurAt.setBlk {g : Nat} {C : Value} {M : Nat} {w : World} {b k : Nat} {u : Value} (h : CurAt g C M w) (hb : g ≠ b) : CurAt g C M (w.setCell ⟨b, k, none⟩ u) :=
  h.grown (r := some b) ⟨rfl, rfl, rfl, by simp, fun j _ hne => Below.heap_setCell _ _ _ _ (fun e => hne (by rw [e]))⟩ (fun e => hb (Option.some.inj e).symm)

set_option maxRecDepth 100000 in
set_option maxHeartbeats 8000000 in
theorem op_any (g : Nat) (C : Value) (M : Nat) (w : World) (hcur : CurAt g C M w) (hco : CodeAt g C w) (hC : codeLen C ≤ 1048576) (hM : M ≤ 900000000000000) :
    Calls Tryd.prog 77 #[.pointer (some ⟨g, 0, none⟩)] w (ChPost g C (M + 9000000000000) w) := by
  obtain ⟨u0, hu0, hz0, hz1, hz2⟩ := info_parts Tryd.infoPart
  have hgl : g < w.heap.size := hcur.lt
  go_enter Tryd.func77, Tryd.ntmps77
  go_wp2_with fail
  refine (plainText_any _ _ _ _ hcur hco (by omega)).mono ?_
  rintro e w1 ⟨s, rfl, hs, hc1, hg1⟩
  have hco1 := hco.grown hg1
  clear hcur
  go_wp2_with fail
  refine (opOn_any _ _ _ s w1 hc1 hco1 hC (by omega) hs).mono ?_
  rintro e w2 ⟨v, L, rfl, hown, hL, hsm, hc2, hg2⟩
  have HCO := hide (hco1.grown hg2)
  have HG := hide (hg1.trans hg2)
  have hs1 := hg1.size
  have hs2 := HG.out.size
  have HSM := hide hsm
  clear hsm hc1 hco1 hg1 hg2 hco
  replace hown := POwn.mono hown hs1
  rcases List.eq_nil_or_concat L with rfl | ⟨L0, x0, hLx⟩
  · obtain ⟨av, cv, rfl, -, -⟩ := own_shp hown
    go_wp2
    go_ret
    exact ⟨_, [], rfl, hown, by simp, HSM.out, hc2.mono (by omega), HG.out⟩
  · have hne : L ≠ [] := by rw [hLx]; simp
    obtain ⟨gb, cap, rfl, hcap, hcm, hgb, hglt, hcl, hbk⟩ := POwn.shape hown hne
    clear hLx x0 L0
    have hlp : 0 < L.length := List.length_pos_iff.2 hne
    have hgg : g ≠ gb := by omega
    go_wp2_with fail
    refine (one_any g C _ 12 w2 hc2 HCO.out (by omega)).mono ?_
    rintro e w3 ⟨b, rfl, hc3, hg3⟩
    have HCO3 := hide (HCO.out.grown hg3)
    have HG3 := hide (HG.out.trans hg3)
    have own3 := own_grown hown hg3 (fun b hb e => by have := (hown.lt b hb).1; have := Option.some.inj e; omega)
    clear hc2 hg3 HCO HG hown hcl hbk hglt
    cases b with
    | false =>
      go_wp2
      go_ret
      exact ⟨_, L, rfl, own3, by omega, HSM.out, hc3.mono (by omega), HG3.out⟩
    | true =>
      have PK := hide (pick_any g C _ 4 w3 hc3 HCO3.out (by omega))
      go_wp2_with fail
      refine PK.out.mono ?_
      rintro e w4 ⟨y, rfl, hy0, hy1, hy2, hc4, hg4⟩
      have hy3 := hy2 (by omega)
      obtain ⟨q, rfl⟩ : ∃ q : Nat, y = q := ⟨y.toNat, by omega⟩
      have HCO4 := hide (HCO3.out.grown hg4)
      have HG4 := hide (HG3.out.trans hg4)
      have own4 := own_grown own3 hg4 (fun b hb e => by have := (own3.lt b hb).1; have := Option.some.inj e; omega)
      have hs4 := HG4.out.size
      clear hy2 hc3 hg4 HCO3 HG3 own3 PK
      by_cases q0 : q = 0
      · subst q0
        have PK := hide (pick_any g C _ (L.length : Int) w4 hc4 HCO4.out (by omega))
        go_wp2_with fail
        refine PK.out.mono ?_
        rintro e w5 ⟨z, rfl, hz0', hz1', hz2', hc5, hg5⟩
        have hz3 := hz2' (by omega)
        obtain ⟨n, rfl⟩ : ∃ n : Nat, z = n := ⟨z.toNat, by omega⟩
        have hn : n < L.length := by omega
        have HCO5 := hide (HCO4.out.grown hg5)
        have HG5 := hide (HG4.out.trans hg5)
        have own5 := own_grown own4 hg5 (fun b hb e => by have := (own4.lt b hb).1; have := Option.some.inj e; omega)
        clear hz2' hc4 hg5 HCO4 HG4 own4 PK
        have PK := hide (pick_any g C _ 5 w5 hc5 HCO5.out (by omega))
        go_wp2_with fail
        refine PK.out.mono ?_
        rintro e w6 ⟨t, rfl, ht0, ht1, ht2, hc6, hg6⟩
        have ht3 := ht2 (by omega)
        have HG6 := hide (HG5.out.trans hg6)
        have own6 := own_grown own5 hg6 (fun b hb e => by have := (own5.lt b hb).1; have := Option.some.inj e; omega)
        clear ht2 hc5 hg6 HCO5 HG5 own5 PK
        obtain ⟨gb', cap', ev, -, -, -, hglt, hcl, hbk⟩ := POwn.shape own6 hne
        cases ev
        obtain ⟨d0, d1, d2⟩ := hcl.ptat n hn
        have f0 := hbk.fz (n * 3)
        have OS := hide (POwn.put own6 hn 0 (.int .i64 (t - 1)) (x' := ⟨t - 1, L[n].put, L[n].drop⟩) (by omega) rfl)
        have hsx := HSM.out _ (List.getElem_mem hn)
        clear own6 hcl hbk
        go_wp2
        go_ret
        exact ⟨_, _, rfl, OS.out, by rw [len_set hn]; omega, smP_set HSM.out ⟨⟨by show -1 ≤ t - 1; omega, by show t - 1 ≤ 301; omega⟩, hsx.2.1, hsx.2.2⟩, (hc6.setBlk hgg).mono (by omega), setBlk HG6.out hgb⟩
      · have b0 : ((q : Int) == 0) = false := by simp; omega
        have b0' : ¬ (q : Int) = 0 := by omega
        by_cases q1 : q = 1
        · subst q1
          have PK := hide (pick_any g C _ (L.length : Int) w4 hc4 HCO4.out (by omega))
          go_wp2_with fail
          refine PK.out.mono ?_
          rintro e w5 ⟨z, rfl, hz0', hz1', hz2', hc5, hg5⟩
          have hz3 := hz2' (by omega)
          obtain ⟨n, rfl⟩ : ∃ n : Nat, z = n := ⟨z.toNat, by omega⟩
          have hn : n < L.length := by omega
          have HG5 := hide (HG4.out.trans hg5)
          have own5 := own_grown own4 hg5 (fun b hb e => by have := (own4.lt b hb).1; have := Option.some.inj e; omega)
          clear hz2' hc4 hg5 HCO4 HG4 own4 PK
          obtain ⟨gb', cap', ev, -, -, -, hglt, hcl, hbk⟩ := POwn.shape own5 hne
          cases ev
          obtain ⟨d0, d1, d2⟩ := hcl.ptat n hn
          have f0 := hbk.fz (n * 3 + 1)
          have OS := hide (POwn.put own5 hn 1 (.string ⟨#[90]⟩) (x' := ⟨L[n].keep, ⟨#[90]⟩, L[n].drop⟩) (by omega) rfl)
          have hsx := HSM.out _ (List.getElem_mem hn)
          clear own5 hcl hbk
          go_wp2
          go_ret
          exact ⟨_, _, rfl, OS.out, by rw [len_set hn]; omega, smP_set HSM.out ⟨hsx.1, by show (1 : Nat) ≤ 300; omega, hsx.2.2⟩, (hc5.setBlk hgg).mono (by omega), setBlk HG5.out hgb⟩
        · have b1 : ((q : Int) == 1) = false := by simp; omega
          have b1' : ¬ (q : Int) = 1 := by omega
          by_cases q2 : q = 2
          · subst q2
            have hown := own4
            go_wp2_with (at_builtin; go_loud (refine wpList_append_own _ rfl _ _ 45 rfl w.heap.size 136 u0 (.agg #[.int .i64 0, .string ⟨#[]⟩, .string ⟨#[]⟩]) 3 40 Tryd.underlying45 hu0 hz0 hz1 hz2 rfl (by decide) _ _ _ rfl (hown.alloc _) ⟨w4.heap.size, 0, none⟩ 1 1 [.int .i64 0, .string ⟨#[]⟩, .string ⟨#[]⟩] rfl rfl (cell3_at _ _ rfl _ _ _ _) (by intro u hu; simp at hu; rcases hu with rfl | rfl | rfl <;> rfl) (by unfold maxLen; omega) (by omega) (by simp; omega) ?_); intro v3 w5 hown3 hgrow3 _; have HO3 := hide hown3; have HGR3 := hide hgrow3; clear hown3 hgrow3 hown own4)
            go_ret
            have hc5 := (hc4.alloc _).grown HGR3.out (fun e => hgg (Option.some.inj e).symm)
            have hg5 := grown_far (HG4.out.trans (World.grownBy_alloc w4 _ (some g))) (fun b e => by have e2 : some gb = some b := e; have := Option.some.inj e2; omega) HGR3.out
            refine ⟨v3, L ++ [⟨0, ⟨#[]⟩, ⟨#[]⟩⟩], rfl, by unfold POwn; rw [encP_app, List.length_append]; exact HO3.out, by simp; omega, fun p hp => ?_, hc5.mono (by omega), hg5⟩
            rcases List.mem_append.1 hp with c | c
            · exact HSM.out p c
            · rw [List.mem_singleton] at c; rw [c]; exact ⟨⟨by show (-1 : Int) ≤ 0; omega, by show (0 : Int) ≤ 301; omega⟩, by show (0 : Nat) ≤ 300; omega, by show (0 : Nat) ≤ 300; omega⟩
          · have b2 : ((q : Int) == 2) = false := by simp; omega
            have b2' : ¬ (q : Int) = 2 := by omega
            have AM := hide (among_any g C _ w4.heap.size 0 2 2 300 301 _ (hc4.alloc (.cells #[.int .i64 300, .int .i64 301] 3)) (HCO4.out.alloc _) (by omega) (by omega) (fun j hj => by
              have : j = 0 ∨ j = 1 := by omega
              rcases this with rfl | rfl
              · exact ⟨300, by omega, by rw [Nat.zero_add, World.cell?_alloc_at _ _ _ _ rfl]; rfl⟩
              · exact ⟨301, by omega, by rw [Nat.zero_add, World.cell?_alloc_at _ _ _ _ rfl]; rfl⟩) (by omega) (by omega) (by omega))
            go_wp2_with fail
            refine AM.out.mono ?_
            rintro e w5 ⟨z, rfl, hzz, hc5, hg5⟩
            have hgb5 := HG4.out.trans (World.grownBy_alloc w4 (.cells #[.int .i64 300, .int .i64 301] 3) (some g))
            have HG5 := hide (hgb5.trans hg5)
            have hs5 := HG5.out.size
            have hown := own_grown (own4.alloc _) hg5 (fun b hb e => by have := (own4.lt b hb).1; have := Option.some.inj e; omega)
            clear AM hc4 hg5 hgb5 HG4 own4
            go_wp2_with (at_builtin; go_loud (refine wpList_append_own _ rfl _ _ 45 rfl w.heap.size 136 u0 (.agg #[.int .i64 0, .string ⟨#[]⟩, .string ⟨#[]⟩]) 3 40 Tryd.underlying45 hu0 hz0 hz1 hz2 rfl (by decide) _ _ _ rfl (hown.alloc _) ⟨w5.heap.size, 0, none⟩ 1 1 [.int .i64 z, .string ⟨#[]⟩, .string ⟨#[]⟩] rfl rfl (cell3_at _ _ rfl _ _ _ _) (by intro u hu; simp at hu; rcases hu with rfl | rfl | rfl <;> rfl) (by unfold maxLen; omega) (by omega) (by simp; omega) ?_); intro v3 w6 hown3 hgrow3 _; have HO3 := hide hown3; have HGR3 := hide hgrow3; clear hown3 hgrow3 hown)
            go_ret
            have hc6 := (hc5.alloc _).grown HGR3.out (fun e => hgg (Option.some.inj e).symm)
            have hg6 := grown_far (HG5.out.trans (World.grownBy_alloc w5 _ (some g))) (fun b e => by have e2 : some gb = some b := e; have := Option.some.inj e2; omega) HGR3.out
            refine ⟨v3, L ++ [⟨z, ⟨#[]⟩, ⟨#[]⟩⟩], rfl, by unfold POwn; rw [encP_app, List.length_append]; exact HO3.out, by simp; omega, fun p hp => ?_, hc6.mono (by omega), hg6⟩
            rcases List.mem_append.1 hp with c | c
            · exact HSM.out p c
            · rw [List.mem_singleton] at c; rw [c]; exact ⟨⟨by show (-1 : Int) ≤ z; omega, by show z ≤ 301; omega⟩, by show (0 : Nat) ≤ 300; omega, by show (0 : Nat) ≤ 300; omega⟩
end Go.Proofs.YtkjioadmebkaoaaDoor

set_option linter.unusedVariables false
namespace Go.Proofs.YtkjioadmebkaoaaDoor
open Go.RowKit
open Doc1

theorem splO_tx (o : Option Lm) (n : Nat) (hn : n ≤ szO o) : txO (splO o n).1 = (txO o).take n ∧ txO (splO o n).2 = (txO o).drop n := by
  cases o with
  | none => simp [splO, txO_none]
  | some t => exact spl_tx t n hn

theorem apL_take {l : List Pt} {k : Nat} (hk : k < l.length) (so : ByteArray × ByteArray) : apL (l.take (k + 1)) so = (apL (l.take k) so).bind fun x => ap1 x l[k] := by
  unfold apL
  rw [List.take_succ_eq_append_getElem hk, List.foldlM_append]
  simp

theorem take_all (s : ByteArray) : s.data.toList.take s.size = s.data.toList := by rw [szB, List.take_length]

/-- The text of what is left and of the pieces, part by part. -/
theorem edF_tx {op : List Pt} {o : Option Lm} (hg : goodO op = true) (ht : tkL op = (szO o : Int)) (hgo : gdO o) (hnb : nbO o ≤ 200) : ∀ k, k ≤ op.length → ∀ x, apL (op.take k) (catB (pcO o), eT) = some x → txO (edF (op.take k) o).1 = x.1.data.toList ∧ (catB (edF (op.take k) o).2).data.toList = x.2.data.toList
  | 0, _ => fun x hx => by
    simp only [List.take_zero, apL, List.foldlM_nil] at hx
    cases hx
    exact ⟨rfl, rfl⟩
  | k + 1, hk => fun x hx => by
    have hk' : k < op.length := hk
    have hpk := goodO_pk hg
    have hp := hpk op[k] (List.getElem_mem hk')
    have ei := edI_at hg ht hgo hnb k (by omega)
    rw [apL_take hk'] at hx
    cases hy : apL (op.take k) (catB (pcO o), eT) with
    | none => rw [hy] at hx; simp at hx
    | some y =>
      rw [hy, Option.bind_some] at hx
      obtain ⟨h1, h2⟩ := edF_tx hg ht hgo hnb k (by omega) y hy
      rw [edF_succ hk']
      obtain ⟨s, hs⟩ : ∃ s, edF (op.take k) o = s := ⟨_, rfl⟩
      rw [hs] at ei h1 h2 ⊢
      have hsz : szO s.1 = y.1.size := by rw [← txO_len, h1, ← szB]
      obtain ⟨p, hpe⟩ : ∃ p, op[k] = p := ⟨_, rfl⟩
      rw [hpe] at hp hx ⊢
      unfold ap1 at hx
      unfold edK
      by_cases k2 : pk p = 2
      · rw [if_pos k2]
        obtain ⟨c1, c2, -, -⟩ := pk_two k2
        have cd : p.drop.size = 0 := by rw [sz_of_nil c2]; rfl
        rw [c1, cd] at hx
        rw [if_neg (by simp), if_neg (by simp [c2]), if_neg (by omega)] at hx
        cases hx
        refine ⟨?_, ?_⟩
        · simp only; rw [h1, ext_list, take_all]; simp
        · simp only; rw [catB_app, apdB, apdB, h2, catB_cut]
      · rw [if_neg k2]
        by_cases k1 : pk p = 1
        · rw [if_pos k1]
          obtain ⟨c1, c2, c3, c4⟩ := pk_one k1
          have cd : p.drop.size = 0 := by rw [sz_of_nil c2]; rfl
          rw [cd, Nat.add_zero] at hx
          by_cases hlt : y.1.size < p.keep.toNat
          · rw [if_pos hlt] at hx; simp at hx
          · rw [if_neg hlt, if_neg (by simp [c2]), if_pos (by omega)] at hx
            cases hx
            obtain ⟨t1, t2⟩ := splO_tx s.1 p.keep.toNat (by omega)
            refine ⟨?_, ?_⟩
            · simp only; rw [t2, h1, ext_list, take_all]
            · simp only
              have e1 : (catB (pcO (splO s.1 p.keep.toNat).1)).data.toList = y.1.data.toList.take p.keep.toNat := by rw [← h1]; exact t1
              rw [catB_app, apdB, apdB, apdB, h2, e1, ext_list, c1]; simp
        · rw [if_neg k1]
          obtain ⟨c1, c2⟩ := pk_three hp k1 k2
          rw [c1, Int.toNat_zero, Nat.zero_add] at hx
          by_cases hlt : y.1.size < p.drop.size
          · rw [if_pos hlt] at hx; simp at hx
          · rw [if_neg hlt] at hx
            by_cases hd : p.drop.data.toList ≠ [] ∧ y.1.extract 0 p.drop.size ≠ p.drop
            · rw [if_pos hd] at hx; simp at hx
            · rw [if_neg hd, if_neg (by omega)] at hx
              cases hx
              obtain ⟨t1, t2⟩ := splO_tx s.1 p.drop.size (by omega)
              refine ⟨?_, ?_⟩
              · simp only; rw [t2, h1, ext_list, take_all]
              · simp only; rw [apdB, h2, c2]; simp

/-- What a rope that is edited says. -/
theorem ed_says {l : List Bg} {op : List Pt} (h : edB l op = true) : rtB l = true ∧ rtB (edL l op) = true ∧ catB (pcO (rtO (edL l op))) = (aplO op (catB (pcO (rtO l)))).1 ∧ (aplO op (catB (pcO (rtO l)))).2 = true := by
  unfold edB at h
  rw [Bool.and_eq_true] at h
  obtain ⟨hq, hf⟩ := h
  have hq' := hq
  unfold edQ at hq
  rw [Bool.and_eq_true] at hq
  obtain ⟨c1, c2⟩ := hq
  obtain ⟨hgd, hnb, hsz, hgt, hcs⟩ := rt_text c1
  have hy := apl_yes c2
  have hgo := hy.1
  have htk : tkL op = (szO (rtO l) : Int) := by rw [← hy.2.2.1, hcs]
  have ei := edI_at hgo htk hgd hnb op.length (Nat.le_refl _)
  rw [List.take_length] at ei
  have hL : edL l op = bo (edO l op) := by unfold edL; rw [if_pos hq']; unfold okB; rw [if_pos hf]
  have hgd2 : gdO (edO l op) := by unfold gdO edO; rw [inRow_pc]; exact ei.pc
  unfold fit at hf
  simp only [Bool.and_eq_true, decide_eq_true_eq] at hf
  have hro := bo_RO hgd2 hf.1 hf.2
  refine ⟨c1, by rw [hL]; exact rtB_iff.2 ⟨_, hro⟩, ?_, c2⟩
  rw [hL, rtO_of hro]
  have e1 : pcO (edO l op) = (edF op (rtO l)).2 := by unfold edO; rw [inRow_pc]
  rw [e1]
  have ha := c2
  unfold aplO at ha ⊢
  split at ha
  · rename_i hh
    rw [if_pos hh]
    obtain ⟨-, -, h3⟩ := hh
    unfold apO at h3 ⊢
    cases hx : apL op (catB (pcO (rtO l)), ⟨#[]⟩) with
    | none => rw [hx] at h3; simp at h3
    | some x =>
      have := (edF_tx hgo htk hgd hnb op.length (Nat.le_refl _) x (by rw [List.take_length]; exact hx)).2
      rw [List.take_length] at this
      exact Doc1.ba_eq this
  · simp at ha
theorem ed_none {l : List Bg} {op : List Pt} (h : edB l op = false) : edL l op = [] := by
  unfold edB at h
  unfold edL okB
  cases hq : edQ l op with
  | false => rfl
  | true =>
    rw [hq, Bool.true_and] at h
    rw [h]
    rfl

/-- What the parts of a rope that is split say. -/
theorem sp_says {l : List Bg} {n : Int} (h : spOk l n = true) : ∃ k : Nat, n = (k : Int) ∧ k ≤ (catB (pcO (rtO l))).size ∧ (catB (pcO (rtO l))).size ≤ 300 ∧ rtB l = true ∧ RG (spL1 l n) ∧ RG (spL2 l n) ∧ rtB (spL1 l n) = true ∧ rtB (spL2 l n) = true ∧
    catB (pcO (rtO (spL1 l n))) = (catB (pcO (rtO l))).extract 0 k ∧ catB (pcO (rtO (spL2 l n))) = (catB (pcO (rtO l))).extract k (catB (pcO (rtO l))).size := by
  have h0 := h
  unfold spOk at h
  simp only [Bool.and_eq_true, decide_eq_true_eq] at h
  obtain ⟨c1, hn0, hn1⟩ := h
  obtain ⟨hgd, hnb, hsz, -, hcs⟩ := rt_text c1
  obtain ⟨k, rfl⟩ : ∃ k : Nat, n = (k : Int) := ⟨n.toNat, by omega⟩
  have hk : k ≤ szO (rtO l) := by omega
  obtain ⟨-, -, z1, z2, z3, z4⟩ := splO_ok (rtO l) k hk hsz hnb
  obtain ⟨g1, g2⟩ := splO_gd (rtO l) k hk hgd
  obtain ⟨t1, t2⟩ := splO_tx (rtO l) k hk
  have e1 : spL1 l (k : Int) = bo (splO (rtO l) k).1 := by unfold spL1; rw [if_pos h0, Int.toNat_natCast]
  have e2 : spL2 l (k : Int) = bo (splO (rtO l) k).2 := by unfold spL2; rw [if_pos h0, Int.toNat_natCast]
  have r1 := bo_RO g1 z1 z3
  have r2 := bo_RO g2 z2 z4
  refine ⟨k, rfl, by omega, by omega, c1, by rw [e1]; exact ⟨_, rfl, z1, z3⟩, by rw [e2]; exact ⟨_, rfl, z2, z4⟩, by rw [e1]; exact rtB_iff.2 ⟨_, r1⟩, by rw [e2]; exact rtB_iff.2 ⟨_, r2⟩, ?_, ?_⟩
  · rw [e1, rtO_of r1]; apply Doc1.ba_eq; rw [ext_list]; simp; exact t1
  · rw [e2, rtO_of r2]; apply Doc1.ba_eq; rw [ext_list, take_all]; exact t2

/-- What a rope that is joined says. -/
theorem jn_says {l m : List Bg} (h : jnB l m = true) : rtB l = true ∧ rtB m = true ∧ rtB (jnL l m) = true ∧ catB (pcO (rtO (jnL l m))) = catB (pcO (rtO l)) ++ catB (pcO (rtO m)) := by
  unfold jnB at h
  simp only [Bool.and_eq_true] at h
  obtain ⟨⟨c1, c2⟩, hf⟩ := h
  have hL : jnL l m = bo (jo (rtO l) (rtO m)) := by unfold jnL okB; rw [c1, c2, if_pos (by rfl), if_pos hf]
  unfold fit at hf
  simp only [Bool.and_eq_true, decide_eq_true_eq] at hf
  have hro := bo_RO (jo_gd (rt_text c1).1 (rt_text c2).1) hf.1 hf.2
  refine ⟨c1, c2, by rw [hL]; exact rtB_iff.2 ⟨_, hro⟩, ?_⟩
  rw [hL, rtO_of hro, jo_pc, catB_app]
theorem jn_none {l m : List Bg} (h : jnB l m = false) : jnL l m = [] := by
  unfold jnB at h
  unfold jnL okB
  cases hq : (rtB l && rtB m) with
  | false => rfl
  | true =>
    rw [hq, Bool.true_and] at h
    rw [h]
    rfl

/-- What a rope that is made of a text says. -/
theorem ro_says {s : ByteArray} (h : roB s = true) : RG (roL s) ∧ rtB (roL s) = true ∧ catB (pcO (rtO (roL s))) = s ∧ s.size ≤ 300 ∧ szO (rtO (roL s)) = s.size := by
  unfold roB at h
  rw [Bool.and_eq_true] at h
  obtain ⟨hg, hf⟩ := h
  have hL : roL s = bo (evn (cutL s)) := by unfold roL okB; rw [if_pos hg, if_pos hf]
  have hp := evn_pc _ (cutL s) rfl
  have hgd : gdO (evn (cutL s)) := by unfold gdO; rw [hp]; exact cut_gd hg
  have hf' := hf
  unfold fit at hf'
  simp only [Bool.and_eq_true, decide_eq_true_eq] at hf'
  have hro := bo_RO hgd hf'.1 hf'.2
  have hz : szO (evn (cutL s)) = s.size := by rw [szO_evn, tot_cut]
  refine ⟨rg_ro s, by rw [hL]; exact rtB_iff.2 ⟨_, hro⟩, by rw [hL, rtO_of hro, hp, catB_cut], by omega, by rw [hL, rtO_of hro, hz]⟩
end Go.Proofs.YtkjioadmebkaoaaDoor

set_option linter.unusedVariables false
namespace Go.Proofs.YtkjioadmebkaoaaDoor
open Go.RowKit
open Doc1

/-- The code lies in none of the blocks made since. -/
theorem code_to {C : Value} {w wr : World} {k : Nat} (h : CodeAt w.heap.size C w) (hb : Below w.heap.size w wr) (hk : w.heap.size ≤ k) : CodeAt k C wr := by
  cases h with
  | nil _ a cap => exact .nil wr a cap
  | row _ b o len cap hne hl h =>
    by_cases h0 : len = 0
    · subst h0; exact .nil wr _ cap
    · obtain ⟨x, -, -, hx⟩ := h 0 (by omega)
      have hlt : b < w.heap.size := by
        unfold World.cell? at hx
        apply Classical.byContradiction
        intro hc
        rw [Array.getElem?_eq_none (by show w.heap.size ≤ b; omega)] at hx
        simp at hx
      refine .row wr b o len cap (by omega) hl fun j hj => ?_
      obtain ⟨y, y0, y1, hy⟩ := h j hj
      exact ⟨y, y0, y1, (World.cell?_of_block (a := ⟨b, o + j, none⟩) (hb.block b hlt)).trans hy⟩

/-- While a rope and something more are drawn: the cursor, the rope's box, the answer's. -/
structure DZ (C : Value) (M : Nat) (w : World) (d : Nat) (wr : World) (v x : Value) (l : List Bg) : Prop where
  cur : CurAt (w.heap.size + 1) C M wr
  box : CellR wr d v
  res : CellR wr w.heap.size x
  own : BoOwn wr (w.heap.size + 2) v l
  bd : l.length ≤ 200 ∧ ∀ i (hi : i < l.length), l[i].text.size ≤ 300
  below : Below w.heap.size w wr
  hd : w.heap.size + 1 < d
theorem DZ.later {C : Value} {M : Nat} {w : World} {d : Nat} {wr w2 : World} {v x : Value} {l : List Bg} (h : DZ C M w d wr v x l) (hb : Below wr.heap.size wr w2) : DZ C M w d w2 v x l :=
  ⟨h.cur.blw hb, h.box.later hb, h.res.later hb, own_below h.own hb, h.bd, h.below.trans (hb.mono h.below.size), h.hd⟩
theorem DZ.drew {C : Value} {M : Nat} {w : World} {d : Nat} {wr : World} {v x : Value} {l : List Bg} (h : DZ C M w d wr v x l) : DZ C M w d wr.drew v x l := h.later (Below.refl _ _).drew
theorem DZ.grow {C : Value} {M M' : Nat} {w : World} {d : Nat} {wr w2 : World} {v x : Value} {l : List Bg} (h : DZ C M w d wr v x l) (hg : wr.grownBy w2 (some (w.heap.size + 1))) (hc : CurAt (w.heap.size + 1) C M' w2) : DZ C M' w d w2 v x l :=
  ⟨hc, h.box.grown hg (by have := h.hd; omega), h.res.grown hg (by omega), own_grown h.own hg (fun y hy c => by have := (World.ownsRow.lt h.own y hy).1; have e : w.heap.size + 1 = y := Option.some.inj c; omega), h.bd,
   ⟨hg.os.trans h.below.os, hg.tape.trans h.below.tape, hg.output.trans h.below.output, Nat.le_trans h.below.size hg.size, fun k hk => (hg.block k (Nat.lt_of_lt_of_le hk h.below.size) (fun c => by have e : k = w.heap.size + 1 := Option.some.inj c; omega)).trans (h.below.block k hk)⟩, h.hd⟩
theorem DZ.put {C : Value} {M : Nat} {w : World} {d : Nat} {wr : World} {v x : Value} {l : List Bg} (h : DZ C M w d wr v x l) (y : Value) : DZ C M w d (wr.setCell ⟨w.heap.size, 0, none⟩ y) v y l :=
  ⟨h.cur.setD (by omega), h.box.setD (by have := h.hd; omega), h.res.put y, own_setD h.own (fun c => by have := (World.ownsRow.lt h.own _ c).1; omega), h.bd, h.below.setCell (Nat.le_refl _) y, h.hd⟩
theorem DZ.inn {C : Value} {M : Nat} {w : World} {d : Nat} {wr : World} {v x : Value} {l : List Bg} (h : DZ C M w d wr v x l) : ∃ a cap, v = .slice a l.length cap ∧ RIn wr a cap l := by
  obtain ⟨a, cap, e, hin⟩ := h.own.inn
  exact ⟨a, cap, e, ⟨hin, by have := h.bd.1; omega, fun i hi => by have := h.bd.2 i hi; omega⟩⟩

theorem DZ.boin {C : Value} {M : Nat} {w : World} {d : Nat} {wr : World} {a : Option Addr} {n cap : Nat} {x : Value} {l : List Bg} (h : DZ C M w d wr (.slice a n cap) x l) : BoIn wr a cap l := by
  obtain ⟨a', c', e, hin⟩ := h.own.inn
  cases e
  exact hin

/-- What the drawing of a rope and a place tells. -/
def DbPost (w : World) (e : Ending) (w' : World) : Prop := ∃ v l, ∃ n : Int, e = .returned (.tuple #[.agg #[v], .int .i64 n]) ∧ BoOwn w' w.heap.size v l ∧ (l.length ≤ 200 ∧ ∀ i (hi : i < l.length), l[i].text.size ≤ 300) ∧ Below w.heap.size w w'

set_option maxRecDepth 100000 in
set_option maxHeartbeats 4000000 in
theorem drawByteAt_any (C : Value) (w : World) (hco : CodeAt w.heap.size C w) (hC : codeLen C ≤ 1048576) :
    Calls Tryd.prog 71 #[C] w (DbPost w) := by
  obtain ⟨w1, hw1⟩ : ∃ w1, w1 = w.alloc (.cells #[.slice none 0 0] 26) := ⟨_, rfl⟩
  have hb1 : Below w.heap.size w w1 := by rw [hw1]; exact (Below.refl _ _).alloc (Nat.le_refl _) _
  have r1 : CellR w1 w.heap.size (.slice none 0 0) := by rw [hw1]; exact CellR.new _ _
  have hco1 := code_on hco hb1
  have hcur := cur_new w1 C
  have RA := hide (rope_any _ C 0 _ hcur (hco1.grown (World.grownBy_alloc w1 (.cells #[C, .int .i64 0, .int .u64 0] 101) (some w1.heap.size))) hC (by omega))
  have HCO := hide hco
  obtain ⟨a, len, cap, rfl⟩ := hco.shape
  have HB := hide hb1
  have HR := hide r1
  have hs1 : w1.heap.size = w.heap.size + 1 := by rw [hw1]; simp
  rw [hs1] at RA
  clear hco hb1 r1 hco1 hcur
  go_enter Tryd.func71, Tryd.ntmps71
  go_wp2_with fail
  rw [← hw1]
  clear hw1
  refine RA.out.mono ?_
  rintro e w2 ⟨v, l, rfl, ho, hbd, hc2, hg2⟩
  have hgs := hg2.size
  rw [World.size_alloc, hs1] at hgs
  rw [← hs1] at hg2
  have hb2 := below_of_grown hg2
  have ho2 : BoOwn w2 (w.heap.size + 2) v l := own_mono ho (show w.heap.size + 2 ≤ _ by simp; omega)
  obtain ⟨av, cv, rfl, -⟩ := ho2.inn
  obtain ⟨w3, hw3⟩ : ∃ w3, w3 = w2.alloc (.cells #[.slice av l.length cv] 26) := ⟨_, rfl⟩
  have hb3 : Below w2.heap.size w2 w3 := by rw [hw3]; exact (Below.refl _ _).alloc (Nat.le_refl _) _
  have Z : Hid (DZ (.slice a len cap) (0 + 50000000000000) w w2.heap.size w3 (.slice av l.length cv) (.slice none 0 0) l) := hide {
    cur := hc2.blw hb3
    box := by rw [hw3]; exact CellR.new _ _
    res := (HR.out.later hb2).later hb3
    own := own_below ho2 hb3
    bd := hbd
    below := (HB.out.trans (hb2.mono HB.out.size)).trans (hb3.mono (Nat.le_trans HB.out.size hb2.size))
    hd := by omega }
  obtain ⟨d, hd⟩ : ∃ d, d = w2.heap.size := ⟨_, rfl⟩
  rw [← hd] at Z
  have hdd := Z.out.hd
  clear hg2 hb2 ho hc2 ho2 hb3 RA hgs HB HR hs1 hbd
  have LZ := hide (l12Size_any Z.out.boin (by have := Z.out.bd.1; omega))
  have c3 := Z.out.box.cell
  go_wp2_with fail
  rw [← hw3, ← hd]
  clear hw3 hd
  refine LZ.out.mono ?_
  rintro e w4 ⟨rfl, rfl⟩
  obtain ⟨z, hz⟩ : ∃ z, lastZ l = z := ⟨_, rfl⟩
  rw [hz]
  clear LZ hz
  have PK := hide (fun (w' : World) (x : Value) (n : Int) (h : DZ (.slice a len cap) (0 + 50000000000000) w d w' (.slice av l.length cv) x l) => (pick_any (w.heap.size + 1) (.slice a len cap) _ n w' h.cur (code_to HCO.out h.below (by omega)) (by omega)).mono (R' := fun e w'' => ∃ y : Int, e = .returned (.int .i64 y) ∧ 0 ≤ y ∧ DZ (.slice a len cap) (0 + 50000000000000 + 2) w d w'' (.slice av l.length cv) x l) (by
    rintro e w'' ⟨y, rfl, h0, -, -, hc, hg⟩
    exact ⟨y, rfl, h0, h.grow hg hc⟩))
  by_cases hneg : z < 0
  · obtain ⟨m, hm⟩ : ∃ m, IntKind.i64.wrap (0 + 3) = m := ⟨_, rfl⟩
    have r3 := Z.out.res.cell
    have f3 := Z.out.res.fz
    go_wp2_with fail
    go_region_with (go_at_call 114; refine (PK.out _ _ _ (by first | exact Z.out | exact Z.out.drew | exact (Z.out.put _).drew | exact (Z.out.drew.put _) | exact (Z.out.drew.put _).drew)).mono ?_; rintro e w7 ⟨y, rfl, hy0, z7⟩; have Z7 := hide z7; have c7 := z7.box.cell; have r7 := z7.res.cell; have f7 := z7.res.fz; clear z7)
    all_goals
      go_wp2
      first
        | (have P7 := hide (Z7.out.put (.slice av l.length cv)); refine bodyPost_ret (results_cell_tmp rfl _ _ w.heap.size 26 _ (0, 0) _ (.int .i64 (IntKind.i64.wrap (y - 1))) rfl rfl P7.out.res Tryd.underlying26 rfl Tryd.sizeRope) rfl ?_; exact ⟨_, l, _, rfl, own_mono P7.out.own (by omega), P7.out.bd, P7.out.below⟩)
        | (refine bodyPost_ret (results_cell_tmp rfl _ _ w.heap.size 26 _ (0, 0) _ (.int .i64 (IntKind.i64.wrap (y - 1))) rfl rfl Z7.out.res Tryd.underlying26 rfl Tryd.sizeRope) rfl ?_; exact ⟨_, l, _, rfl, own_mono Z7.out.own (by omega), Z7.out.bd, Z7.out.below⟩)
  · obtain ⟨m, hm⟩ : ∃ m, IntKind.i64.wrap (z + 3) = m := ⟨_, rfl⟩
    have r3 := Z.out.res.cell
    have f3 := Z.out.res.fz
    go_wp2_with fail
    go_region_with (go_at_call 114; refine (PK.out _ _ _ (by first | exact Z.out | exact Z.out.drew | exact (Z.out.put _).drew | exact (Z.out.drew.put _) | exact (Z.out.drew.put _).drew)).mono ?_; rintro e w7 ⟨y, rfl, hy0, z7⟩; have Z7 := hide z7; have c7 := z7.box.cell; have r7 := z7.res.cell; have f7 := z7.res.fz; clear z7)
    all_goals
      go_wp2
      first
        | (have P7 := hide (Z7.out.put (.slice av l.length cv)); refine bodyPost_ret (results_cell_tmp rfl _ _ w.heap.size 26 _ (0, 0) _ (.int .i64 (IntKind.i64.wrap (y - 1))) rfl rfl P7.out.res Tryd.underlying26 rfl Tryd.sizeRope) rfl ?_; exact ⟨_, l, _, rfl, own_mono P7.out.own (by omega), P7.out.bd, P7.out.below⟩)
        | (refine bodyPost_ret (results_cell_tmp rfl _ _ w.heap.size 26 _ (0, 0) _ (.int .i64 (IntKind.i64.wrap (y - 1))) rfl rfl Z7.out.res Tryd.underlying26 rfl Tryd.sizeRope) rfl ?_; exact ⟨_, l, _, rfl, own_mono Z7.out.own (by omega), Z7.out.bd, Z7.out.below⟩)

set_option maxRecDepth 100000 in
set_option maxHeartbeats 4000000 in
theorem drawSplitRope_any (C : Value) (w : World) (hco : CodeAt w.heap.size C w) (hC : codeLen C ≤ 1048576) :
    Calls Tryd.prog 20 #[C] w (DbPost w) := by
  obtain ⟨w1, hw1⟩ : ∃ w1, w1 = w.alloc (.cells #[.slice none 0 0] 26) := ⟨_, rfl⟩
  have hb1 : Below w.heap.size w w1 := by rw [hw1]; exact (Below.refl _ _).alloc (Nat.le_refl _) _
  have r1 : CellR w1 w.heap.size (.slice none 0 0) := by rw [hw1]; exact CellR.new _ _
  have DA := hide (drawByteAt_any C w1 (code_on hco hb1) hC)
  obtain ⟨a, len, cap, rfl⟩ := hco.shape
  have HB := hide hb1
  have HR := hide r1
  clear hco hb1 r1
  go_enter Tryd.func20, Tryd.ntmps20
  go_wp2_with fail
  rw [← hw1]
  clear hw1
  refine DA.out.mono ?_
  rintro e w2 ⟨v, l, n, rfl, ho, hbd, hb2⟩
  have r2 := HR.out.later hb2
  have c2 := r2.cell
  have f2 := r2.fz
  have HP := hide (r2.put v)
  have HO := hide (own_setD (k := 0) (u := v) (own_mono ho HB.out.size) (own_box ho r2))
  have HB2 := hide ((HB.out.trans (hb2.mono HB.out.size)).setCell (p := ⟨w.heap.size, 0, none⟩) (Nat.le_refl _) v)
  have HBD := hide hbd
  clear hb2 r2 ho hbd DA
  obtain ⟨av, cv, rfl, -⟩ := HO.out.inn
  go_wp2
  refine bodyPost_ret (results_cell_tmp rfl _ _ w.heap.size 26 _ (0, 0) _ (.int .i64 n) rfl rfl HP.out Tryd.underlying26 rfl Tryd.sizeRope) rfl ?_
  exact ⟨_, l, n, rfl, HO.out, HBD.out, HB2.out⟩

/-- What the drawing of a rope and a change tells. -/
def DePost (w : World) (e : Ending) (w' : World) : Prop := ∃ v l vo op, e = .returned (.tuple #[.agg #[v], vo]) ∧ BoOwn w' w.heap.size v l ∧ (l.length ≤ 200 ∧ ∀ i (hi : i < l.length), l[i].text.size ≤ 300) ∧ POwn w' (w.heap.size + 1) vo op ∧ (∀ p ∈ op, smP p) ∧ Below w.heap.size w w'

set_option maxRecDepth 100000 in
set_option maxHeartbeats 8000000 in
theorem drawEditRope_any (C : Value) (w : World) (hco : CodeAt w.heap.size C w) (hC : codeLen C ≤ 1048576) :
    Calls Tryd.prog 23 #[C] w (DePost w) := by
  obtain ⟨w1, hw1⟩ : ∃ w1, w1 = w.alloc (.cells #[.slice none 0 0] 26) := ⟨_, rfl⟩
  have hb1 : Below w.heap.size w w1 := by rw [hw1]; exact (Below.refl _ _).alloc (Nat.le_refl _) _
  have r1 : CellR w1 w.heap.size (.slice none 0 0) := by rw [hw1]; exact CellR.new _ _
  have hco1 := code_on hco hb1
  have hcur := cur_new w1 C
  have RA := hide (rope_any _ C 0 _ hcur (hco1.grown (World.grownBy_alloc w1 (.cells #[C, .int .i64 0, .int .u64 0] 101) (some w1.heap.size))) hC (by omega))
  have HCO := hide hco
  obtain ⟨a, len, cap, rfl⟩ := hco.shape
  have HB := hide hb1
  have HR := hide r1
  have hs1 : w1.heap.size = w.heap.size + 1 := by rw [hw1]; simp
  rw [hs1] at RA
  clear hco hb1 r1 hco1 hcur
  go_enter Tryd.func23, Tryd.ntmps23
  go_wp2_with fail
  rw [← hw1]
  clear hw1
  refine RA.out.mono ?_
  rintro e w2 ⟨v, l, rfl, ho, hbd, hc2, hg2⟩
  have hgs := hg2.size
  rw [World.size_alloc, hs1] at hgs
  rw [← hs1] at hg2
  have hb2 := below_of_grown hg2
  have ho2 : BoOwn w2 (w.heap.size + 2) v l := own_mono ho (show w.heap.size + 2 ≤ _ by simp; omega)
  obtain ⟨av, cv, rfl, -⟩ := ho2.inn
  obtain ⟨w3, hw3⟩ : ∃ w3, w3 = w2.alloc (.cells #[.slice av l.length cv] 26) := ⟨_, rfl⟩
  have hb3 : Below w2.heap.size w2 w3 := by rw [hw3]; exact (Below.refl _ _).alloc (Nat.le_refl _) _
  have Z : Hid (DZ (.slice a len cap) (0 + 50000000000000) w w2.heap.size w3 (.slice av l.length cv) (.slice none 0 0) l) := hide {
    cur := hc2.blw hb3
    box := by rw [hw3]; exact CellR.new _ _
    res := (HR.out.later hb2).later hb3
    own := own_below ho2 hb3
    bd := hbd
    below := (HB.out.trans (hb2.mono HB.out.size)).trans (hb3.mono (Nat.le_trans HB.out.size hb2.size))
    hd := by omega }
  obtain ⟨d, hd⟩ : ∃ d, d = w2.heap.size := ⟨_, rfl⟩
  rw [← hd] at Z
  have hdd := Z.out.hd
  clear hg2 hb2 ho hc2 ho2 hb3 RA hgs HB HR hs1 hbd
  have ON := hide (fun (w' : World) (x : Value) (h : DZ (.slice a len cap) (0 + 50000000000000) w d w' (.slice av l.length cv) x l) => (one_any (w.heap.size + 1) (.slice a len cap) _ 8 w' h.cur (code_to HCO.out h.below (by omega)) (by omega)).mono (R' := fun e w'' => ∃ b, e = .returned (.bool b) ∧ DZ (.slice a len cap) (0 + 50000000000000 + 2) w d w'' (.slice av l.length cv) x l) (by
    rintro e w'' ⟨b, rfl, hc, hg⟩
    exact ⟨b, rfl, h.grow hg hc⟩))
  go_wp2_with fail
  rw [← hw3, ← hd]
  clear hw3 hd
  refine (ON.out _ _ Z.out).mono ?_
  rintro e w4 ⟨b, rfl, z4⟩
  have Z4 := hide z4
  clear Z ON z4
  cases b with
  | true =>
    have OP := hide (fun (w' : World) (x : Value) (h : DZ (.slice a len cap) (0 + 50000000000000 + 2) w d w' (.slice av l.length cv) x l) => (op_any (w.heap.size + 1) (.slice a len cap) _ w' h.cur (code_to HCO.out h.below (by omega)) hC (by omega)).mono (R' := fun e w'' => ∃ ao n co op, e = .returned (.slice ao n co) ∧ POwn w'' (w.heap.size + 2) (.slice ao n co) op ∧ (∀ p ∈ op, smP p) ∧ DZ (.slice a len cap) (0 + 50000000000000 + 2 + 9000000000000) w d w'' (.slice av l.length cv) x l) (by
      rintro e w'' ⟨vo, op, rfl, ho, -, hs, hc, hg⟩
      obtain ⟨ao, co, rfl, -, -⟩ := own_shp ho
      exact ⟨ao, _, co, op, rfl, own_mono ho (by have := h.box.lt; omega), hs, h.grow hg hc⟩))
    have c0 := Z4.out.box.cell
    have r0 := Z4.out.res.cell
    have f0 := Z4.out.res.fz
    go_wp2_with fail
    go_region_with (go_at_call 77; refine (OP.out _ _ (by first | exact Z4.out | exact Z4.out.drew | exact (Z4.out.put _) | exact (Z4.out.put _).drew | exact (Z4.out.drew.put _) | exact (Z4.out.drew.put _).drew)).mono ?_; rintro e w7 ⟨ao7, n7, co7, op7, rfl, ho7, hs7, z7⟩; have Z7 := hide z7; have HO7 := hide ho7; have HS7 := hide hs7; have c7 := z7.box.cell; have r7 := z7.res.cell; have f7 := z7.res.fz; clear z7 ho7 hs7)
    all_goals
      go_wp2
      first
        | (have P7 := hide (Z7.out.put (.slice av l.length cv)); refine bodyPost_ret (results_cell_tmp rfl _ _ w.heap.size 26 _ (0, 0) _ (.slice ao7 n7 co7) rfl rfl P7.out.res Tryd.underlying26 rfl Tryd.sizeRope) rfl ?_; exact ⟨_, l, _, op7, rfl, own_mono P7.out.own (by omega), P7.out.bd, own_aside (own_mono HO7.out (show w.heap.size + 1 ≤ w.heap.size + 2 by omega)) (by omega) _ _, HS7.out, P7.out.below⟩)
        | (refine bodyPost_ret (results_cell_tmp rfl _ _ w.heap.size 26 _ (0, 0) _ (.slice ao7 n7 co7) rfl rfl Z7.out.res Tryd.underlying26 rfl Tryd.sizeRope) rfl ?_; exact ⟨_, l, _, op7, rfl, own_mono Z7.out.own (by omega), Z7.out.bd, own_mono HO7.out (by omega), HS7.out, Z7.out.below⟩)
  | false =>
    have GR := hide (by
      obtain ⟨a', c', e', rin⟩ := Z4.out.inn
      cases e'
      exact goodRopeS rin)
    have c4 := Z4.out.box.cell
    go_wp2_with fail
    refine GR.out.mono ?_
    rintro e w5 ⟨rfl, hb5⟩
    have Z5 := hide (Z4.out.later hb5)
    clear hb5 Z4 c4 GR
    cases hr : rtB l with
    | false =>
      have OP := hide (fun (w' : World) (x : Value) (h : DZ (.slice a len cap) (0 + 50000000000000 + 2) w d w' (.slice av l.length cv) x l) => (op_any (w.heap.size + 1) (.slice a len cap) _ w' h.cur (code_to HCO.out h.below (by omega)) hC (by omega)).mono (R' := fun e w'' => ∃ ao n co op, e = .returned (.slice ao n co) ∧ POwn w'' (w.heap.size + 2) (.slice ao n co) op ∧ (∀ p ∈ op, smP p) ∧ DZ (.slice a len cap) (0 + 50000000000000 + 2 + 9000000000000) w d w'' (.slice av l.length cv) x l) (by
        rintro e w'' ⟨vo, op, rfl, ho, -, hs, hc, hg⟩
        obtain ⟨ao, co, rfl, -, -⟩ := own_shp ho
        exact ⟨ao, _, co, op, rfl, own_mono ho (by have := h.box.lt; omega), hs, h.grow hg hc⟩))
      have c0 := Z5.out.box.cell
      have r0 := Z5.out.res.cell
      have f0 := Z5.out.res.fz
      go_wp2_with fail
      go_region_with (go_at_call 77; refine (OP.out _ _ (by first | exact Z5.out | exact Z5.out.drew | exact (Z5.out.put _) | exact (Z5.out.put _).drew | exact (Z5.out.drew.put _) | exact (Z5.out.drew.put _).drew)).mono ?_; rintro e w7 ⟨ao7, n7, co7, op7, rfl, ho7, hs7, z7⟩; have Z7 := hide z7; have HO7 := hide ho7; have HS7 := hide hs7; have c7 := z7.box.cell; have r7 := z7.res.cell; have f7 := z7.res.fz; clear z7 ho7 hs7)
      all_goals
        go_wp2
        first
          | (have P7 := hide (Z7.out.put (.slice av l.length cv)); refine bodyPost_ret (results_cell_tmp rfl _ _ w.heap.size 26 _ (0, 0) _ (.slice ao7 n7 co7) rfl rfl P7.out.res Tryd.underlying26 rfl Tryd.sizeRope) rfl ?_; exact ⟨_, l, _, op7, rfl, own_mono P7.out.own (by omega), P7.out.bd, own_aside (own_mono HO7.out (show w.heap.size + 1 ≤ w.heap.size + 2 by omega)) (by omega) _ _, HS7.out, P7.out.below⟩)
          | (refine bodyPost_ret (results_cell_tmp rfl _ _ w.heap.size 26 _ (0, 0) _ (.slice ao7 n7 co7) rfl rfl Z7.out.res Tryd.underlying26 rfl Tryd.sizeRope) rfl ?_; exact ⟨_, l, _, op7, rfl, own_mono Z7.out.own (by omega), Z7.out.bd, own_mono HO7.out (by omega), HS7.out, Z7.out.below⟩)
    | true =>
      have htt : tot (pcsL l) ≤ 300 := by rw [rt_pcs hr, pcO_tot]; exact (rt_text hr).2.2.1
      have htx : (catB (pcsL l)).size ≤ 300 := by rw [catB_size]; exact htt
      clear hr
      have LT := hide (fun (w' : World) (x : Value) (h : DZ (.slice a len cap) (0 + 50000000000000 + 2) w d w' (.slice av l.length cv) x l) => (l12Text_any h.boin (by have := h.bd.1; omega) (by omega)).mono (R' := fun e w'' => e = .returned (.string (catB (pcsL l))) ∧ DZ (.slice a len cap) (0 + 50000000000000 + 2) w d w'' (.slice av l.length cv) x l) (by
        rintro e w'' ⟨rfl, hb⟩
        exact ⟨rfl, h.later hb⟩))
      have OQ := hide (fun (w' : World) (x : Value) (h : DZ (.slice a len cap) (0 + 50000000000000 + 2) w d w' (.slice av l.length cv) x l) => (opOn_any (w.heap.size + 1) (.slice a len cap) _ (catB (pcsL l)) w' h.cur (code_to HCO.out h.below (by omega)) hC (by omega) htx).mono (R' := fun e w'' => ∃ ao n co op, e = .returned (.slice ao n co) ∧ POwn w'' (w.heap.size + 2) (.slice ao n co) op ∧ (∀ p ∈ op, smP p) ∧ DZ (.slice a len cap) (0 + 50000000000000 + 2 + 8000000000000) w d w'' (.slice av l.length cv) x l) (by
        rintro e w'' ⟨vo, op, rfl, ho, -, hs, hc, hg⟩
        obtain ⟨ao, co, rfl, -, -⟩ := own_shp ho
        exact ⟨ao, _, co, op, rfl, own_mono ho (by have := h.box.lt; omega), hs, h.grow hg hc⟩))
      obtain ⟨TX, hTX⟩ : ∃ TX, catB (pcsL l) = TX := ⟨_, rfl⟩
      simp only [hTX] at LT OQ
      clear hTX htx htt
      have c0 := Z5.out.box.cell
      have r0 := Z5.out.res.cell
      have f0 := Z5.out.res.fz
      go_wp2_with fail
      go_region_with (first
        | (go_at_call 79; refine (LT.out _ _ (by first | exact Z5.out | exact Z5.out.drew | exact (Z5.out.put _) | exact (Z5.out.put _).drew | exact (Z5.out.drew.put _) | exact (Z5.out.drew.put _).drew)).mono ?_; rintro e w6 ⟨rfl, z6⟩; have Z6 := hide z6; have c6 := z6.box.cell; have r6 := z6.res.cell; have f6 := z6.res.fz; clear z6)
        | (go_at_call 78; refine (OQ.out _ _ (by first | exact Z6.out | exact Z6.out.drew | exact (Z6.out.put _) | exact (Z6.out.put _).drew | exact (Z6.out.drew.put _) | exact (Z6.out.drew.put _).drew)).mono ?_; rintro e w7 ⟨ao7, n7, co7, op7, rfl, ho7, hs7, z7⟩; have Z7 := hide z7; have HO7 := hide ho7; have HS7 := hide hs7; have c7 := z7.box.cell; have r7 := z7.res.cell; have f7 := z7.res.fz; clear z7 ho7 hs7))
      all_goals
        go_wp2
        first
          | (have P7 := hide (Z7.out.put (.slice av l.length cv)); refine bodyPost_ret (results_cell_tmp rfl _ _ w.heap.size 26 _ (0, 0) _ (.slice ao7 n7 co7) rfl rfl P7.out.res Tryd.underlying26 rfl Tryd.sizeRope) rfl ?_; exact ⟨_, l, _, op7, rfl, own_mono P7.out.own (by omega), P7.out.bd, own_aside (own_mono HO7.out (show w.heap.size + 1 ≤ w.heap.size + 2 by omega)) (by omega) _ _, HS7.out, P7.out.below⟩)
          | (refine bodyPost_ret (results_cell_tmp rfl _ _ w.heap.size 26 _ (0, 0) _ (.slice ao7 n7 co7) rfl rfl Z7.out.res Tryd.underlying26 rfl Tryd.sizeRope) rfl ?_; exact ⟨_, l, _, op7, rfl, own_mono Z7.out.own (by omega), Z7.out.bd, own_mono HO7.out (by omega), HS7.out, Z7.out.below⟩)

theorem results_cells2 {P : Program} {fn : Func} {p p2 : Tmp} {ty : TypeId} (h : fn.results = #[.cell p ty, .cell p2 ty]) (tmps : Array Value) (w : World) (g g2 : Nat) (t t2 : TypeId) (cs cs2 : Array Value) (fr fr2 : Nat × Nat) (d : TypeDesc)
    (hp : tmps.getD p undef = .pointer (some ⟨g, 0, none⟩)) (hp2 : tmps.getD p2 undef = .pointer (some ⟨g2, 0, none⟩)) (hg : w.heap[g]? = some (.cells cs t fr)) (hg2 : w.heap[g2]? = some (.cells cs2 t2 fr2))
    (hu : P.underlying ty = some d) (hd : (match d with | .struct _ | .array _ _ => true | _ => false) = true) (hi : (P.info? ty).map (·.size) = some cs.size) (hi2 : (P.info? ty).map (·.size) = some cs2.size) :
    (results fn tmps).run P w = .ok (.tuple #[.agg cs, .agg cs2]) w := by
  have hp' : tmps[p]?.getD undef = .pointer (some ⟨g, 0, none⟩) := by simpa using hp
  have hp2' : tmps[p2]?.getD undef = .pointer (some ⟨g2, 0, none⟩) := by simpa using hp2
  simp [results, h, hp', hp2', asAddr, run_loadVar_row w g t ty cs fr d hg hu hd hi, run_loadVar_row w g2 t2 ty cs2 fr2 d hg2 hu hd hi2]

/-- What the drawing of two ropes tells. -/
def DjPost (w : World) (e : Ending) (w' : World) : Prop := ∃ v l u m, e = .returned (.tuple #[.agg #[v], .agg #[u]]) ∧ BoOwn w' w.heap.size v l ∧ (l.length ≤ 200 ∧ ∀ i (hi : i < l.length), l[i].text.size ≤ 300) ∧ BoOwn w' w.heap.size u m ∧ (m.length ≤ 200 ∧ ∀ i (hi : i < m.length), m[i].text.size ≤ 300) ∧ Below w.heap.size w w'

set_option maxRecDepth 100000 in
set_option maxHeartbeats 4000000 in
theorem drawJoinRopes_any (C : Value) (w : World) (hco : CodeAt w.heap.size C w) (hC : codeLen C ≤ 1048576) :
    Calls Tryd.prog 17 #[C] w (DjPost w) := by
  obtain ⟨w1, hw1⟩ : ∃ w1, w1 = (w.alloc (.cells #[.slice none 0 0] 26)).alloc (.cells #[.slice none 0 0] 26) := ⟨_, rfl⟩
  obtain ⟨hs1, hb1, hc1, hc2⟩ := boxes2 w (.slice none 0 0) (.slice none 0 0)
  rw [← hw1] at hs1 hb1 hc1 hc2
  have hcur := cur_new w1 C
  rw [hs1] at hcur
  obtain ⟨w2, hw2⟩ : ∃ w2, w2 = w1.alloc (.cells #[C, .int .i64 0, .int .u64 0] 101) := ⟨_, rfl⟩
  have hb2 : Below w.heap.size w w2 := by rw [hw2]; exact hb1.alloc hb1.size _
  have hs2 : w2.heap.size = w.heap.size + 3 := by rw [hw2, World.size_alloc, hs1]
  have hx2 : CellR w2 w.heap.size (.slice none 0 0) := by rw [hw2]; exact hc1.later ((Below.refl _ _).alloc (Nat.le_refl _) _)
  have hy2 : CellR w2 (w.heap.size + 1) (.slice none 0 0) := by rw [hw2]; exact hc2.later ((Below.refl _ _).alloc (Nat.le_refl _) _)
  rw [← hw2] at hcur
  have RA := hide (rope_any (w.heap.size + 2) C 0 w2 hcur (code_to hco hb2 (by omega)) hC (by omega))
  have RB := hide (fun (w' : World) (h : CurAt (w.heap.size + 2) C (0 + 50000000000000) w') (hb : Below w.heap.size w w') => rope_any (w.heap.size + 2) C _ w' h (code_to hco hb (by omega)) hC (by omega))
  obtain ⟨a, len, cap, rfl⟩ := hco.shape
  have HB := hide hb2
  have HX := hide hx2
  have HY := hide hy2
  have hs1' : w1.heap.size = w.heap.size + 2 := hs1
  clear hco hb1 hc1 hc2 hcur hb2 hx2 hy2 hC
  go_enter Tryd.func17, Tryd.ntmps17
  go_wp2_with fail
  rw [← hw1]
  go_wp2_with fail
  rw [← hw2]
  clear hw2 hw1 hs1 hs1'
  refine RA.out.mono ?_
  rintro e w3 ⟨v, l, rfl, ho3, hbd3, hc3, hg3⟩
  have hb3 : Below w.heap.size w w3 := ⟨hg3.os.trans HB.out.os, hg3.tape.trans HB.out.tape, hg3.output.trans HB.out.output, Nat.le_trans HB.out.size hg3.size, fun k hk => (hg3.block k (by omega) (fun c => by have e : k = w.heap.size + 2 := Option.some.inj c; omega)).trans (HB.out.block k hk)⟩
  have HB3 := hide hb3
  have HX3 := hide (HX.out.grown hg3 (by omega))
  have HY3 := hide (HY.out.grown hg3 (by omega))
  have HO3 := hide ho3
  have HD3 := hide hbd3
  have R3 := hide (RB.out w3 hc3 hb3)
  have hs3 := hg3.size
  clear hg3 hb3 ho3 hbd3 hc3 RA RB HB HX HY
  go_wp2_with fail
  refine R3.out.mono ?_
  rintro e w4 ⟨u, m, rfl, ho4, hbd4, hc4, hg4⟩
  have HB4 : Hid (Below w.heap.size w w4) := hide ⟨hg4.os.trans HB3.out.os, hg4.tape.trans HB3.out.tape, hg4.output.trans HB3.out.output, Nat.le_trans HB3.out.size hg4.size, fun k hk => (hg4.block k (by omega) (fun c => by have e : k = w.heap.size + 2 := Option.some.inj c; omega)).trans (HB3.out.block k hk)⟩
  have x4 := HX3.out.grown hg4 (by omega)
  have y4 := HY3.out.grown hg4 (by omega)
  have o4 : BoOwn w4 (w.heap.size + 3) v l := own_grown (own_mono HO3.out (by omega)) hg4 (fun y hy c => by have := (World.ownsRow.lt HO3.out y hy).1; have e : w.heap.size + 2 = y := Option.some.inj c; omega)
  have p4 : BoOwn w4 (w.heap.size + 3) u m := own_mono ho4 (by omega)
  have s1 := x4.put v
  have s2 := y4.setD (d := w.heap.size) (k := 0) (u := v) (by omega)
  have s3 := s1.setD (d := w.heap.size + 1) (k := 0) (u := u) (by omega)
  have s4 := s2.put u
  have o5 := own_aside o4 (g := w.heap.size) (by omega) 0 v
  have p5 := own_aside p4 (g := w.heap.size) (by omega) 0 v
  have HO6 : Hid (BoOwn ((w4.setCell ⟨w.heap.size, 0, none⟩ v).setCell ⟨w.heap.size + 1, 0, none⟩ u) (w.heap.size + 3) v l) := hide (own_aside o5 (g := w.heap.size + 1) (by omega) 0 u)
  have HP6 : Hid (BoOwn ((w4.setCell ⟨w.heap.size, 0, none⟩ v).setCell ⟨w.heap.size + 1, 0, none⟩ u) (w.heap.size + 3) u m) := hide (own_aside p5 (g := w.heap.size + 1) (by omega) 0 u)
  have H3 := hide s3
  have H4 := hide s4
  have q1 := x4.cell
  have q2 := x4.fz
  have q3 := s2.cell
  have q4 := s2.fz
  have HB6 := hide ((HB4.out.setCell (p := ⟨w.heap.size, 0, none⟩) (Nat.le_refl _) v).setCell (p := ⟨w.heap.size + 1, 0, none⟩) (by show w.heap.size ≤ w.heap.size + 1; omega) u)
  have HD4 := hide hbd4
  clear hg4 hc4 ho4 hbd4 x4 y4 o4 p4 s1 s2 s3 s4 o5 p5 R3 HX3 HY3 HO3 HB3
  obtain ⟨av, cv, rfl, -⟩ := HO6.out.inn
  obtain ⟨au, cu, rfl, -⟩ := HP6.out.inn
  go_wp2
  refine bodyPost_ret (results_cells2 rfl _ _ w.heap.size (w.heap.size + 1) 26 26 _ _ (0, 0) (0, 0) _ rfl rfl H3.out H4.out Tryd.underlying26 rfl Tryd.sizeRope Tryd.sizeRope) rfl ?_
  exact ⟨_, l, _, m, rfl, own_mono HO6.out (by omega), HD3.out, own_mono HP6.out (by omega), HD4.out, HB6.out⟩
end Go.Proofs.YtkjioadmebkaoaaDoor

set_option linter.unusedVariables false
namespace Go.Proofs.YtkjioadmebkaoaaDoor
open Go.RowKit
open Doc1

set_option maxRecDepth 100000 in
set_option maxHeartbeats 2000000 in
theorem numberOf_anyR {g : Nat} {C : Value} {w : World} (hco : CodeAt g C w) (hC : codeLen C ≤ 1048576) :
    Calls Tryd.prog 15 #[C] w fun e w' => ∃ x : Nat, e = .returned (.int .i64 (x : Int)) ∧ x < 1000003 ∧ Below w.heap.size w w' := by
  cases hco with
  | nil _ a cap =>
    go_enter Tryd.func15, Tryd.ntmps15
    go_wp2
    go_loopw [3, 8] (fun n i wr => n = .int .i64 0 ∧ i = .int .i64 0 ∧ Below w.heap.size w wr) (fun _ _ _ => 0)
    case atStart => exact ⟨rfl, rfl, Below.refl _ _⟩
    case round =>
      obtain ⟨rfl, rfl, hb⟩ := hrel
      go_wp2
      go_ret
      exact ⟨0, rfl, by omega, hb⟩
  | row _ b o len cap hb hl hc =>
    have hC : len ≤ 1048576 := hC
    have HC := hide hc
    clear hc
    go_enter Tryd.func15, Tryd.ntmps15
    go_wp2
    go_loopw [3, 8] (fun n i wr => ∃ x k : Nat, n = .int .i64 (x : Int) ∧ x < 1000003 ∧ i = .int .i64 (k : Int) ∧ k ≤ len ∧ wr = w) (fun _ i _ => len - (intOf i).toNat)
    case atStart => exact ⟨0, 0, rfl, by omega, rfl, Nat.zero_le _, rfl⟩
    case round =>
      obtain ⟨x, k, rfl, hx, rfl, hk, hw⟩ := hrel
      replace hw := hw.symm
      subst hw
      by_cases hlt : k < len
      · obtain ⟨y, hy0, hy1, hcy⟩ := HC.out k hlt
        obtain ⟨z, rfl⟩ : ∃ z : Nat, y = z := ⟨y.toNat, by omega⟩
        go_wp2
        go_roundw
        case rel => exact ⟨(31 * x + z) % 1000003, k + 1, by go_num, Nat.mod_lt _ (by decide), by go_num, by omega, by first | rfl | trivial⟩
        case measure => simp [intOf]; omega
      · go_wp2
        go_ret
        exact ⟨x, rfl, hx, Below.refl _ _⟩

set_option maxRecDepth 100000 in
set_option maxHeartbeats 2000000 in
theorem drawRopeOf_any (C : Value) (w : World) (hco : CodeAt w.heap.size C w) :
    Calls Tryd.prog 9 #[C] w fun e w' => ∃ s, e = .returned (.string s) ∧ s.size ≤ 300000 ∧ Below w.heap.size w w' := by
  have hcur := cur_new w C
  have D := hide (doc_any _ C 0 _ hcur (hco.grown (World.grownBy_alloc w (.cells #[C, .int .i64 0, .int .u64 0] 101) (some w.heap.size))) (by omega))
  obtain ⟨a, len, cap, rfl⟩ := hco.shape
  clear hco hcur
  go_enter Tryd.func9, Tryd.ntmps9
  go_wp2_with fail
  refine D.out.mono ?_
  rintro e w1 ⟨s, rfl, hs, hc, hg⟩
  have hb := below_of_grown hg
  clear hg hc
  go_wp2
  go_ret
  exact ⟨s, rfl, hs, hb⟩

theorem rp_shp {w : World} {B : Nat} {v : Value} {l : List Bg} (h : BoOwn w B v l) (hr : RG l) : ∃ a cap, v = .slice a l.length cap ∧ RIn w a cap l := rg_rin h hr
theorem jn_rg (l m : List Bg) : RG (jnL l m) := rg_jn l m
theorem rin_ofR {w : World} {B : Nat} {v : Value} {l : List Bg} (h : BoOwn w B v l) (hbd : l.length ≤ 200 ∧ ∀ i (hi : i < l.length), l[i].text.size ≤ 300) : ∃ a cap, v = .slice a l.length cap ∧ RIn w a cap l := by
  obtain ⟨a, cap, e, hin⟩ := h.inn
  exact ⟨a, cap, e, ⟨hin, by have := hbd.1; omega, fun i hi => by have := hbd.2 i hi; omega⟩⟩

theorem ext_one (s : ByteArray) (k : Nat) (h : k < s.size) : (s.extract k (k + 1)).data.toList = [s.data.toList.getD k 0] := by
  have hl : k < s.data.toList.length := by rw [← szB]; exact h
  rw [ext_list, List.take_succ_eq_append_getElem hl, List.drop_append_of_le_length (by rw [List.length_take]; omega), List.drop_eq_nil_of_le (by rw [List.length_take]; omega)]
  rw [List.getD_eq_getElem?_getD, List.getElem?_eq_getElem hl]
  simp

/-- What a byte of a rope that is made of a text is, and how many steps it takes. -/
theorem ro_byte {s : ByteArray} (h : roB s = true) {k : Nat} (hk : k < s.size) : byOk (roL s) (k : Int) = true ∧ byS (roL s) (k : Int) = s.extract k (k + 1) ∧
    ∃ d : Nat, d ≤ 200 ∧ byN (roL s) (k : Int) ≤ d + 1 ∧ ∃ h0 : (roL s).length - 1 < (roL s).length, (roL s)[(roL s).length - 1].deep = (d : Int) := by
  obtain ⟨-, hr, ht, hz, hs⟩ := ro_says h
  have hok : byOk (roL s) (k : Int) = true := by
    unfold byOk
    rw [hr, hs]
    simp
    omega
  have hro := rtO_ro hr
  obtain ⟨hbo, hgd, hnb, hsz⟩ := RO_bo hro
  cases ho : rtO (roL s) with
  | none => rw [ho] at hs; simp [szO] at hs; omega
  | some t =>
    rw [ho] at hbo hs ht hnb
    have hnb' : t.nb ≤ 200 := hnb
    have hs' : t.sz = s.size := hs
    have htx : txO (some t) = s.data.toList := by unfold txO; rw [ht]
    refine ⟨hok, ?_, t.dp, by have := t.dp_lt; omega, ?_, ?_⟩
    · unfold byS
      rw [if_pos hok, ho, Int.toNat_natCast]
      apply Doc1.ba_eq
      rw [ext_one s k hk]
      show [(bat t k).1] = _
      rw [bat_tx t k (by omega), htx]
    · unfold byN
      rw [if_pos hok, ho, Int.toNat_natCast]
      exact bat_dp t k
    · obtain ⟨i, hi, hl⟩ := Lm.pd_root t 0
      have hbo' : roL s = i ++ [t.rb 0] := by rw [← hi]; exact hbo
      rw [hbo']
      refine ⟨by simp, ?_⟩
      have e : (i ++ [t.rb 0]).length - 1 = i.length := by simp
      have : ∀ (j : Nat) (hj : j < (i ++ [t.rb 0]).length), j = i.length → (i ++ [t.rb 0])[j].deep = (t.dp : Int) := by
        intro j hj ej
        subst ej
        simp only [List.getElem_append_right (Nat.le_refl _), Nat.sub_self, List.getElem_singleton]
        exact (Lm.rb_is t 0).2
      exact this _ _ e
theorem ro_none {s : ByteArray} (h : roB s = false) : roL s = [] := by
  unfold roB at h
  unfold roL okB
  cases hg : good s.data.toList with
  | false => rfl
  | true =>
    rw [hg, Bool.true_and] at h
    rw [h]
    rfl

set_option maxRecDepth 100000 in
set_option maxHeartbeats 8000000 in
theorem law_ropes (C D : Value) (w : World) (hco : CodeAt w.heap.size C w) (hco2 : CodeAt w.heap.size D w) (hlen : ∀ a len cap, C = .slice a len cap → len ≤ 140737488355328) (hlen2 : ∀ a len cap, D = .slice a len cap → len ≤ 140737488355328) (hT : Tab w) :
    Calls Tryd.prog 3 #[C, D] w fun e w' => e = .returned (.bool true) ∧ Below w.heap.size w w' := by
  obtain ⟨a1, len, cap, rfl⟩ := hco.shape
  obtain ⟨a2', len2, cap2, eD⟩ := hco2.shape
  have l1 := hlen a1 len cap rfl
  have l2' := hlen2 a2' len2 cap2 eD
  clear hlen hlen2
  by_cases hl : (len : Int) + len2 ≤ 1048576
  · have hCD : codeLen D ≤ 1048576 := by rw [eD]; show len2 ≤ 1048576; omega
    have H0 := hide (drawRopeOf_any (.slice a1 len cap) w hco)
    have HT := hide hT
    have HCD := hide hco2
    have HE := hide eD
    clear hco hco2 hT
    rw [eD]
    go_enter Tryd.func3, Tryd.ntmps3
    go_wp2_with fail
    refine H0.out.mono ?_
    rintro e w1 ⟨s, rfl, hs, hb1⟩
    have B1 := hide hb1
    have C1 := hide (ropeOfI s w1 (by omega) (HT.out.below hb1))
    clear H0 hb1
    go_wp2_with fail
    refine C1.out.mono ?_
    rintro e w2 ⟨x, rfl, hx, hb2⟩
    obtain ⟨ax, cx, rfl, xin⟩ := rp_shp hx (rg_ro s)
    obtain ⟨w3, hw3⟩ : ∃ w3, w3 = w2.alloc (.cells #[.slice ax (roL s).length cx] 26) := ⟨_, rfl⟩
    have hb3 : Below w2.heap.size w2 w3 := by rw [hw3]; exact (Below.refl _ _).alloc (Nat.le_refl _) _
    have R3 : Hid (CellR w3 w2.heap.size (.slice ax (roL s).length cx)) := hide (by rw [hw3]; exact CellR.new _ _)
    have I3 := hide (xin.later hb3)
    have B3 := hide ((B1.out.trans (hb2.mono B1.out.size)).trans (hb3.mono (Nat.le_trans B1.out.size hb2.size)))
    have C2 := hide (ropeOfS s w3 (by omega))
    clear hx hb2 hb3 xin C1 B1
    go_wp2_with fail
    rw [← hw3]
    clear hw3
    refine C2.out.mono ?_
    rintro e w4 ⟨y, rfl, hy, hb4⟩
    obtain ⟨ay, cy, rfl, -⟩ := hy.inn
    obtain ⟨w5, hw5⟩ : ∃ w5, w5 = w4.alloc (.cells #[.slice ay (roL s).length cy] 26) := ⟨_, rfl⟩
    have hb5 : Below w3.heap.size w3 w5 := by rw [hw5]; exact hb4.alloc hb4.size _
    have R5 := hide (R3.out.later hb5)
    have I5 := hide (I3.out.later hb5)
    have B5 := hide (B3.out.trans (hb5.mono B3.out.size))
    have e1 : (roB s != roB s) = false := by simp
    clear hy hb4 hb5 C2 R3 I3 B3
    cases hro : roB s with
    | false =>
      rw [hro] at e1
      obtain ⟨wX, hwX⟩ : ∃ wX, wX = w5 := ⟨_, rfl⟩
      have BX : Hid (Below w.heap.size w wX) := hide (by rw [hwX]; exact B5.out)
      rw [← hwX] at hw5
      clear hwX hro R5 I5 B5
      have D0 := hide (drawJoinRopes_any D wX (code_on HCD.out BX.out) hCD)
      rw [HE.out] at D0
      go_wp2_with fail
      rw [← hw5]
      clear hw5
      refine D0.out.mono ?_
      rintro e y1 ⟨v2, l2, u2, m2, rfl, ho2, hbd2, hq2, hbq2, hby⟩
      obtain ⟨a2, c2, rfl, rin2⟩ := rin_ofR ho2 hbd2
      obtain ⟨a3, c3, rfl, rin3⟩ := rin_ofR hq2 hbq2
      obtain ⟨y2, hy2⟩ : ∃ y2, y2 = (y1.alloc (.cells #[.slice a2 l2.length c2] 26)).alloc (.cells #[.slice a3 m2.length c3] 26) := ⟨_, rfl⟩
      obtain ⟨-, hb2, hu2, hv2⟩ := boxes2 y1 (.slice a2 l2.length c2) (.slice a3 m2.length c3)
      rw [← hy2] at hb2 hu2 hv2
      have U2 := hide hu2
      have V2 := hide hv2
      have Y2 := hide ((BX.out.trans (hby.mono BX.out.size)).trans (hb2.mono (Nat.le_trans BX.out.size hby.size)))
      have I2 := hide (rin2.later hb2)
      have J2 := hide (rin3.later hb2)
      have C1 := hide (joinRopesI I2.out J2.out (HT.out.below Y2.out))
      have k2 := U2.out.cell
      have k3 := V2.out.cell
      rw [hy2] at k2 k3
      clear D0 ho2 hbd2 hq2 hbq2 hby hb2 rin2 rin3 hu2 hv2
      go_wp2_with fail
      rw [← hy2]
      clear hy2 k2 k3
      refine C1.out.mono ?_
      rintro e y3 ⟨v3, rfl, ho3, hb3⟩
      obtain ⟨a4, c4, rfl, rin4⟩ := rp_shp ho3 (jn_rg l2 m2)
      obtain ⟨y4, hy4⟩ : ∃ y4, y4 = y3.alloc (.cells #[.slice a4 (jnL l2 m2).length c4] 26) := ⟨_, rfl⟩
      have hb34 : Below y3.heap.size y3 y4 := by rw [hy4]; exact (Below.refl _ _).alloc (Nat.le_refl _) _
      have hb4 : Below y2.heap.size y2 y4 := hb3.trans (hb34.mono hb3.size)
      have W4 : Hid (CellR y4 y3.heap.size (.slice a4 (jnL l2 m2).length c4)) := hide (by rw [hy4]; exact CellR.new _ _)
      have K4 := hide (rin4.later hb34)
      have Y4 := hide (Y2.out.trans (hb4.mono Y2.out.size))
      have I4 := hide (I2.out.later hb4)
      have J4 := hide (J2.out.later hb4)
      have U4 := hide (U2.out.later hb4)
      have V4 := hide (V2.out.later hb4)
      have C2 := hide (joinRopesS I4.out J4.out)
      have k4 := U4.out.cell
      have k5 := V4.out.cell
      rw [hy4] at k4 k5
      clear ho3 hb3 hb34 hb4 rin4 C1 U2 V2 I2 J2 Y2
      go_wp2_with fail
      rw [← hy4]
      clear hy4 k4 k5
      refine C2.out.mono ?_
      rintro e y5 ⟨v5, rfl, ho5, hb5⟩
      obtain ⟨a5, c5, rfl, -⟩ := ho5.inn
      obtain ⟨y6, hy6⟩ : ∃ y6, y6 = y5.alloc (.cells #[.slice a5 (jnL l2 m2).length c5] 26) := ⟨_, rfl⟩
      have hb6 : Below y4.heap.size y4 y6 := by rw [hy6]; exact hb5.alloc hb5.size _
      have Y6 := hide (Y4.out.trans (hb6.mono Y4.out.size))
      have I6 := hide (I4.out.later hb6)
      have J6 := hide (J4.out.later hb6)
      have K6 := hide (K4.out.later hb6)
      have U6 := hide (U4.out.later hb6)
      have V6 := hide (V4.out.later hb6)
      have W6 := hide (W4.out.later hb6)
      have k6 := U6.out.cell
      have j6 := W6.out.cell
      rw [hy6] at k6 j6
      have e1 : (jnB l2 m2 != jnB l2 m2) = false := by simp
      clear ho5 hb5 hb6 C2 U4 V4 W4 I4 J4 K4 Y4
      cases hed : jnB l2 m2 with
      | false =>
        have hno := jn_none hed
        rw [hy6] at Y6
        rw [hno] at Y6 j6 ⊢
        simp only [List.length_nil] at Y6 j6 ⊢
        rw [hed] at e1
        clear hed hno k6 hy6
        go_wp2
        go_ret
        exact ⟨rfl, Y6.out⟩
      | true =>
        obtain ⟨q1, q2, q3, q4⟩ := jn_says hed
        have C3 := hide (textInI I6.out (HT.out.below Y6.out))
        rw [q1] at C3
        rw [hed] at e1
        obtain ⟨tx2, htx2⟩ : ∃ t, catB (pcO (rtO l2)) = t := ⟨_, rfl⟩
        obtain ⟨tx3, htx3⟩ : ∃ t, catB (pcO (rtO m2)) = t := ⟨_, rfl⟩
        rw [htx2] at C3 q4
        rw [htx3] at q4
        have hts2 : tx2.size ≤ 300 := by rw [← htx2]; have := (rt_text q1).2.2.2.2; have := (rt_text q1).2.2.1; omega
        have hts3 : tx3.size ≤ 300 := by rw [← htx3]; have := (rt_text q2).2.2.2.2; have := (rt_text q2).2.2.1; omega
        have Q := hide (And.intro q2 (And.intro q3 (And.intro q4 htx3)))
        clear hed q1 q2 q3 q4 htx2 htx3 j6
        go_wp2_with fail
        rw [← hy6]
        clear hy6 k6
        refine C3.out.mono ?_
        rintro e y7 ⟨rfl, hb7⟩
        have Y7 := hide (Y6.out.trans (hb7.mono Y6.out.size))
        have C4 := hide (textInI (J6.out.later hb7) (HT.out.below Y7.out))
        rw [Q.out.1, Q.out.2.2.2] at C4
        have K7 := hide (K6.out.later hb7)
        have W7 := hide (W6.out.later hb7)
        have j7 := (V6.out.later hb7).cell
        clear hb7 C3 I6 J6 K6 U6 V6 W6 Y6
        go_wp2_with fail
        refine C4.out.mono ?_
        rintro e y8 ⟨rfl, hb8⟩
        have Y8 := hide (Y7.out.trans (hb8.mono Y7.out.size))
        have K8 := hide (K7.out.later hb8)
        have W8 := hide (W7.out.later hb8)
        have C5 := hide (textInI K8.out (HT.out.below Y8.out))
        rw [Q.out.2.1, Q.out.2.2.1] at C5
        have j8 := W8.out.cell
        clear hb8 C4 K7 W7 Y7 j7
        go_wp2_with fail
        refine C5.out.mono ?_
        rintro e y9 ⟨rfl, hb9⟩
        have Y9 := hide (Y8.out.trans (hb9.mono Y8.out.size))
        have C6 := hide (goodRopeI (K8.out.later hb9) (HT.out.below Y9.out))
        rw [Q.out.2.1] at C6
        have j9 := (W8.out.later hb9).cell
        have ee : ((tx2 ++ tx3).toList == (tx2 ++ tx3).toList) = true := by simp
        clear hb9 C5 K8 W8 Y8 j8
        go_wp2_with fail
        refine C6.out.mono ?_
        rintro e ya ⟨rfl, hba⟩
        have Ya := hide (Y9.out.trans (hba.mono Y9.out.size))
        clear hba C6 j9
        go_wp2
        go_ret
        exact ⟨rfl, Ya.out⟩
    | true =>
      rw [hro] at e1
      obtain ⟨-, q2, q3, q4, q5⟩ := ro_says hro
      have C3 := hide (textInI I5.out (HT.out.below B5.out))
      rw [q2, q3] at C3
      have HRO := hide hro
      have Q := hide q2
      have k5 := R5.out.cell
      rw [hw5] at k5
      have es : (s.toList != s.toList) = false := by simp
      clear hro q2 q3 q5
      go_wp2_with fail
      rw [← hw5]
      clear hw5 k5
      refine C3.out.mono ?_
      rintro e w6 ⟨rfl, hb6⟩
      have R6 := hide (R5.out.later hb6)
      have I6 := hide (I5.out.later hb6)
      have B6 := hide (B5.out.trans (hb6.mono B5.out.size))
      have C4 := hide (goodRopeI I6.out (HT.out.below B6.out))
      rw [Q.out] at C4
      have k6 := R6.out.cell
      clear hb6 C3 R5 I5 B5
      go_wp2_with fail
      refine C4.out.mono ?_
      rintro e w7 ⟨rfl, hb7⟩
      have R7 := hide (R6.out.later hb7)
      have I7 := hide (I6.out.later hb7)
      have B7 := hide (B6.out.trans (hb7.mono B6.out.size))
      have C5 := hide (goodRopeS I7.out)
      rw [Q.out] at C5
      have k7 := R7.out.cell
      clear hb7 C4 R6 I6 B6 k6
      go_wp2_with fail
      refine C5.out.mono ?_
      rintro e w8 ⟨rfl, hb8⟩
      have R8 := hide (R7.out.later hb8)
      have I8 := hide (I7.out.later hb8)
      have B8 := hide (B7.out.trans (hb8.mono B7.out.size))
      clear hb8 C5 R7 I7 B7 k7
      by_cases h0 : s.size = 0
      · have wXe : ∃ wX, wX = w8 := ⟨_, rfl⟩
        obtain ⟨wX, rfl⟩ := wXe
        have BX := B8
        clear R8 I8 B8 HRO Q
        have D0 := hide (drawJoinRopes_any D wX (code_on HCD.out BX.out) hCD)
        rw [HE.out] at D0
        go_wp2_with fail
        refine D0.out.mono ?_
        rintro e y1 ⟨v2, l2, u2, m2, rfl, ho2, hbd2, hq2, hbq2, hby⟩
        obtain ⟨a2, c2, rfl, rin2⟩ := rin_ofR ho2 hbd2
        obtain ⟨a3, c3, rfl, rin3⟩ := rin_ofR hq2 hbq2
        obtain ⟨y2, hy2⟩ : ∃ y2, y2 = (y1.alloc (.cells #[.slice a2 l2.length c2] 26)).alloc (.cells #[.slice a3 m2.length c3] 26) := ⟨_, rfl⟩
        obtain ⟨-, hb2, hu2, hv2⟩ := boxes2 y1 (.slice a2 l2.length c2) (.slice a3 m2.length c3)
        rw [← hy2] at hb2 hu2 hv2
        have U2 := hide hu2
        have V2 := hide hv2
        have Y2 := hide ((BX.out.trans (hby.mono BX.out.size)).trans (hb2.mono (Nat.le_trans BX.out.size hby.size)))
        have I2 := hide (rin2.later hb2)
        have J2 := hide (rin3.later hb2)
        have C1 := hide (joinRopesI I2.out J2.out (HT.out.below Y2.out))
        have k2 := U2.out.cell
        have k3 := V2.out.cell
        rw [hy2] at k2 k3
        clear D0 ho2 hbd2 hq2 hbq2 hby hb2 rin2 rin3 hu2 hv2
        go_wp2_with fail
        rw [← hy2]
        clear hy2 k2 k3
        refine C1.out.mono ?_
        rintro e y3 ⟨v3, rfl, ho3, hb3⟩
        obtain ⟨a4, c4, rfl, rin4⟩ := rp_shp ho3 (jn_rg l2 m2)
        obtain ⟨y4, hy4⟩ : ∃ y4, y4 = y3.alloc (.cells #[.slice a4 (jnL l2 m2).length c4] 26) := ⟨_, rfl⟩
        have hb34 : Below y3.heap.size y3 y4 := by rw [hy4]; exact (Below.refl _ _).alloc (Nat.le_refl _) _
        have hb4 : Below y2.heap.size y2 y4 := hb3.trans (hb34.mono hb3.size)
        have W4 : Hid (CellR y4 y3.heap.size (.slice a4 (jnL l2 m2).length c4)) := hide (by rw [hy4]; exact CellR.new _ _)
        have K4 := hide (rin4.later hb34)
        have Y4 := hide (Y2.out.trans (hb4.mono Y2.out.size))
        have I4 := hide (I2.out.later hb4)
        have J4 := hide (J2.out.later hb4)
        have U4 := hide (U2.out.later hb4)
        have V4 := hide (V2.out.later hb4)
        have C2 := hide (joinRopesS I4.out J4.out)
        have k4 := U4.out.cell
        have k5 := V4.out.cell
        rw [hy4] at k4 k5
        clear ho3 hb3 hb34 hb4 rin4 C1 U2 V2 I2 J2 Y2
        go_wp2_with fail
        rw [← hy4]
        clear hy4 k4 k5
        refine C2.out.mono ?_
        rintro e y5 ⟨v5, rfl, ho5, hb5⟩
        obtain ⟨a5, c5, rfl, -⟩ := ho5.inn
        obtain ⟨y6, hy6⟩ : ∃ y6, y6 = y5.alloc (.cells #[.slice a5 (jnL l2 m2).length c5] 26) := ⟨_, rfl⟩
        have hb6 : Below y4.heap.size y4 y6 := by rw [hy6]; exact hb5.alloc hb5.size _
        have Y6 := hide (Y4.out.trans (hb6.mono Y4.out.size))
        have I6 := hide (I4.out.later hb6)
        have J6 := hide (J4.out.later hb6)
        have K6 := hide (K4.out.later hb6)
        have U6 := hide (U4.out.later hb6)
        have V6 := hide (V4.out.later hb6)
        have W6 := hide (W4.out.later hb6)
        have k6 := U6.out.cell
        have j6 := W6.out.cell
        rw [hy6] at k6 j6
        have e1 : (jnB l2 m2 != jnB l2 m2) = false := by simp
        clear ho5 hb5 hb6 C2 U4 V4 W4 I4 J4 K4 Y4
        cases hed : jnB l2 m2 with
        | false =>
          have hno := jn_none hed
          rw [hy6] at Y6
          rw [hno] at Y6 j6 ⊢
          simp only [List.length_nil] at Y6 j6 ⊢
          rw [hed] at e1
          clear hed hno k6 hy6
          go_wp2
          go_ret
          exact ⟨rfl, Y6.out⟩
        | true =>
          obtain ⟨q1, q2, q3, q4⟩ := jn_says hed
          have C3 := hide (textInI I6.out (HT.out.below Y6.out))
          rw [q1] at C3
          rw [hed] at e1
          obtain ⟨tx2, htx2⟩ : ∃ t, catB (pcO (rtO l2)) = t := ⟨_, rfl⟩
          obtain ⟨tx3, htx3⟩ : ∃ t, catB (pcO (rtO m2)) = t := ⟨_, rfl⟩
          rw [htx2] at C3 q4
          rw [htx3] at q4
          have hts2 : tx2.size ≤ 300 := by rw [← htx2]; have := (rt_text q1).2.2.2.2; have := (rt_text q1).2.2.1; omega
          have hts3 : tx3.size ≤ 300 := by rw [← htx3]; have := (rt_text q2).2.2.2.2; have := (rt_text q2).2.2.1; omega
          have Q := hide (And.intro q2 (And.intro q3 (And.intro q4 htx3)))
          clear hed q1 q2 q3 q4 htx2 htx3 j6
          go_wp2_with fail
          rw [← hy6]
          clear hy6 k6
          refine C3.out.mono ?_
          rintro e y7 ⟨rfl, hb7⟩
          have Y7 := hide (Y6.out.trans (hb7.mono Y6.out.size))
          have C4 := hide (textInI (J6.out.later hb7) (HT.out.below Y7.out))
          rw [Q.out.1, Q.out.2.2.2] at C4
          have K7 := hide (K6.out.later hb7)
          have W7 := hide (W6.out.later hb7)
          have j7 := (V6.out.later hb7).cell
          clear hb7 C3 I6 J6 K6 U6 V6 W6 Y6
          go_wp2_with fail
          refine C4.out.mono ?_
          rintro e y8 ⟨rfl, hb8⟩
          have Y8 := hide (Y7.out.trans (hb8.mono Y7.out.size))
          have K8 := hide (K7.out.later hb8)
          have W8 := hide (W7.out.later hb8)
          have C5 := hide (textInI K8.out (HT.out.below Y8.out))
          rw [Q.out.2.1, Q.out.2.2.1] at C5
          have j8 := W8.out.cell
          clear hb8 C4 K7 W7 Y7 j7
          go_wp2_with fail
          refine C5.out.mono ?_
          rintro e y9 ⟨rfl, hb9⟩
          have Y9 := hide (Y8.out.trans (hb9.mono Y8.out.size))
          have C6 := hide (goodRopeI (K8.out.later hb9) (HT.out.below Y9.out))
          rw [Q.out.2.1] at C6
          have j9 := (W8.out.later hb9).cell
          have ee : ((tx2 ++ tx3).toList == (tx2 ++ tx3).toList) = true := by simp
          clear hb9 C5 K8 W8 Y8 j8
          go_wp2_with fail
          refine C6.out.mono ?_
          rintro e ya ⟨rfl, hba⟩
          have Ya := hide (Y9.out.trans (hba.mono Y9.out.size))
          clear hba C6 j9
          go_wp2
          go_ret
          exact ⟨rfl, Ya.out⟩
      · have h0' : 0 < s.size := by omega
        have CN := hide (numberOf_anyR (code_on HCD.out B8.out) hCD)
        rw [HE.out] at CN
        go_wp2_with fail
        refine CN.out.mono ?_
        rintro e w9 ⟨x, rfl, hx, hb9⟩
        have R9 := hide (R8.out.later hb9)
        have I9 := hide (I8.out.later hb9)
        have B9 := hide (B8.out.trans (hb9.mono B8.out.size))
        obtain ⟨q, hq⟩ : ∃ q : Nat, q = x % s.size := ⟨_, rfl⟩
        have hqk : q < s.size := by rw [hq]; exact Nat.mod_lt _ h0'
        have hqi : (x : Int) % (s.size : Int) = (q : Int) := by rw [hq, Int.natCast_emod]
        have hzi : ¬ (s.size : Int) = 0 := by omega
        have hzb : ((s.size : Int) == 0) = false := by rw [beq_eq_false_iff_ne]; omega
        obtain ⟨o1, o2, d, hd, o3, hlt, hdeep⟩ := ro_byte HRO.out hqk
        have CB := hide (byteAtI (q : Int) I9.out (HT.out.below B9.out))
        rw [o1, o2] at CB
        obtain ⟨nn, hnn⟩ : ∃ nn, byN (roL s) (q : Int) = nn := ⟨_, rfl⟩
        rw [hnn] at CB o3
        obtain ⟨L, hL⟩ : ∃ L, (roL s).length = L + 1 := ⟨(roL s).length - 1, by omega⟩
        obtain ⟨g, rfl, hg, hcl⟩ := I9.out.inn.ad (by intro c; rw [c] at hL; simp at hL)
        have hc4 := (encBo_at (roL s) L (by omega)).2.2.2.2
        have hdp : (roL s)[L].deep = (d : Int) := by
          have : ∀ (j : Nat) (hj : j < (roL s).length), j = (roL s).length - 1 → (roL s)[j].deep = (d : Int) := fun j hj ej => by subst ej; exact hdeep
          exact this L (by omega) (by omega)
        rw [hdp] at hc4
        have hcell := hcl _ _ hc4
        have k9 := R9.out.cell
        have HC := hide hcell
        have HG := hide hg
        have HD : Hid (nn ≤ d + 1 ∧ d ≤ 200) := hide ⟨o3, hd⟩
        have z1 : ((s.extract q (q + 1)).toList != (s.extract q (q + 1)).toList) = false := by simp
        clear hq hb9 CN R8 I8 B8 HRO Q o1 o2 o3 hd hdeep hc4 hdp hcell hnn hcl hg hx
        have hLb : L ≤ 200 := by have := (rg_ro s).len; omega
        rw [hL] at k9 CB R9
        clear hL hlt
        go_wp2_with fail
        refine CB.out.mono ?_
        rintro e wX ⟨rfl, hba⟩
        have BX := hide (B9.out.trans (hba.mono B9.out.size))
        have ka := (R9.out.later hba).cell
        have kc := (World.cell?_of_block (a := ⟨g, L * 5 + 4, none⟩) (hba.block _ HG.out)).trans HC.out
        have hdn : decide ((d : Int) + 1 < (nn : Int)) = false := by have := HD.out; rw [decide_eq_false_iff_not]; omega
        have hdw : d ≤ 200 := HD.out.2
        have hqw : q < 300 := by omega
        clear hba CB R9 I9 B9 k9 HC HG HD
        have D0 := hide (drawJoinRopes_any D wX (code_on HCD.out BX.out) hCD)
        rw [HE.out] at D0
        go_wp2_with fail
        refine D0.out.mono ?_
        rintro e y1 ⟨v2, l2, u2, m2, rfl, ho2, hbd2, hq2, hbq2, hby⟩
        obtain ⟨a2, c2, rfl, rin2⟩ := rin_ofR ho2 hbd2
        obtain ⟨a3, c3, rfl, rin3⟩ := rin_ofR hq2 hbq2
        obtain ⟨y2, hy2⟩ : ∃ y2, y2 = (y1.alloc (.cells #[.slice a2 l2.length c2] 26)).alloc (.cells #[.slice a3 m2.length c3] 26) := ⟨_, rfl⟩
        obtain ⟨-, hb2, hu2, hv2⟩ := boxes2 y1 (.slice a2 l2.length c2) (.slice a3 m2.length c3)
        rw [← hy2] at hb2 hu2 hv2
        have U2 := hide hu2
        have V2 := hide hv2
        have Y2 := hide ((BX.out.trans (hby.mono BX.out.size)).trans (hb2.mono (Nat.le_trans BX.out.size hby.size)))
        have I2 := hide (rin2.later hb2)
        have J2 := hide (rin3.later hb2)
        have C1 := hide (joinRopesI I2.out J2.out (HT.out.below Y2.out))
        have k2 := U2.out.cell
        have k3 := V2.out.cell
        rw [hy2] at k2 k3
        clear D0 ho2 hbd2 hq2 hbq2 hby hb2 rin2 rin3 hu2 hv2
        go_wp2_with fail
        rw [← hy2]
        clear hy2 k2 k3
        refine C1.out.mono ?_
        rintro e y3 ⟨v3, rfl, ho3, hb3⟩
        obtain ⟨a4, c4, rfl, rin4⟩ := rp_shp ho3 (jn_rg l2 m2)
        obtain ⟨y4, hy4⟩ : ∃ y4, y4 = y3.alloc (.cells #[.slice a4 (jnL l2 m2).length c4] 26) := ⟨_, rfl⟩
        have hb34 : Below y3.heap.size y3 y4 := by rw [hy4]; exact (Below.refl _ _).alloc (Nat.le_refl _) _
        have hb4 : Below y2.heap.size y2 y4 := hb3.trans (hb34.mono hb3.size)
        have W4 : Hid (CellR y4 y3.heap.size (.slice a4 (jnL l2 m2).length c4)) := hide (by rw [hy4]; exact CellR.new _ _)
        have K4 := hide (rin4.later hb34)
        have Y4 := hide (Y2.out.trans (hb4.mono Y2.out.size))
        have I4 := hide (I2.out.later hb4)
        have J4 := hide (J2.out.later hb4)
        have U4 := hide (U2.out.later hb4)
        have V4 := hide (V2.out.later hb4)
        have C2 := hide (joinRopesS I4.out J4.out)
        have k4 := U4.out.cell
        have k5 := V4.out.cell
        rw [hy4] at k4 k5
        clear ho3 hb3 hb34 hb4 rin4 C1 U2 V2 I2 J2 Y2
        go_wp2_with fail
        rw [← hy4]
        clear hy4 k4 k5
        refine C2.out.mono ?_
        rintro e y5 ⟨v5, rfl, ho5, hb5⟩
        obtain ⟨a5, c5, rfl, -⟩ := ho5.inn
        obtain ⟨y6, hy6⟩ : ∃ y6, y6 = y5.alloc (.cells #[.slice a5 (jnL l2 m2).length c5] 26) := ⟨_, rfl⟩
        have hb6 : Below y4.heap.size y4 y6 := by rw [hy6]; exact hb5.alloc hb5.size _
        have Y6 := hide (Y4.out.trans (hb6.mono Y4.out.size))
        have I6 := hide (I4.out.later hb6)
        have J6 := hide (J4.out.later hb6)
        have K6 := hide (K4.out.later hb6)
        have U6 := hide (U4.out.later hb6)
        have V6 := hide (V4.out.later hb6)
        have W6 := hide (W4.out.later hb6)
        have k6 := U6.out.cell
        have j6 := W6.out.cell
        rw [hy6] at k6 j6
        have e1 : (jnB l2 m2 != jnB l2 m2) = false := by simp
        clear ho5 hb5 hb6 C2 U4 V4 W4 I4 J4 K4 Y4
        cases hed : jnB l2 m2 with
        | false =>
          have hno := jn_none hed
          rw [hy6] at Y6
          rw [hno] at Y6 j6 ⊢
          simp only [List.length_nil] at Y6 j6 ⊢
          rw [hed] at e1
          clear hed hno k6 hy6
          go_wp2
          go_ret
          exact ⟨rfl, Y6.out⟩
        | true =>
          obtain ⟨q1, q2, q3, q4⟩ := jn_says hed
          have C3 := hide (textInI I6.out (HT.out.below Y6.out))
          rw [q1] at C3
          rw [hed] at e1
          obtain ⟨tx2, htx2⟩ : ∃ t, catB (pcO (rtO l2)) = t := ⟨_, rfl⟩
          obtain ⟨tx3, htx3⟩ : ∃ t, catB (pcO (rtO m2)) = t := ⟨_, rfl⟩
          rw [htx2] at C3 q4
          rw [htx3] at q4
          have hts2 : tx2.size ≤ 300 := by rw [← htx2]; have := (rt_text q1).2.2.2.2; have := (rt_text q1).2.2.1; omega
          have hts3 : tx3.size ≤ 300 := by rw [← htx3]; have := (rt_text q2).2.2.2.2; have := (rt_text q2).2.2.1; omega
          have Q := hide (And.intro q2 (And.intro q3 (And.intro q4 htx3)))
          clear hed q1 q2 q3 q4 htx2 htx3 j6
          go_wp2_with fail
          rw [← hy6]
          clear hy6 k6
          refine C3.out.mono ?_
          rintro e y7 ⟨rfl, hb7⟩
          have Y7 := hide (Y6.out.trans (hb7.mono Y6.out.size))
          have C4 := hide (textInI (J6.out.later hb7) (HT.out.below Y7.out))
          rw [Q.out.1, Q.out.2.2.2] at C4
          have K7 := hide (K6.out.later hb7)
          have W7 := hide (W6.out.later hb7)
          have j7 := (V6.out.later hb7).cell
          clear hb7 C3 I6 J6 K6 U6 V6 W6 Y6
          go_wp2_with fail
          refine C4.out.mono ?_
          rintro e y8 ⟨rfl, hb8⟩
          have Y8 := hide (Y7.out.trans (hb8.mono Y7.out.size))
          have K8 := hide (K7.out.later hb8)
          have W8 := hide (W7.out.later hb8)
          have C5 := hide (textInI K8.out (HT.out.below Y8.out))
          rw [Q.out.2.1, Q.out.2.2.1] at C5
          have j8 := W8.out.cell
          clear hb8 C4 K7 W7 Y7 j7
          go_wp2_with fail
          refine C5.out.mono ?_
          rintro e y9 ⟨rfl, hb9⟩
          have Y9 := hide (Y8.out.trans (hb9.mono Y8.out.size))
          have C6 := hide (goodRopeI (K8.out.later hb9) (HT.out.below Y9.out))
          rw [Q.out.2.1] at C6
          have j9 := (W8.out.later hb9).cell
          have ee : ((tx2 ++ tx3).toList == (tx2 ++ tx3).toList) = true := by simp
          clear hb9 C5 K8 W8 Y8 j8
          go_wp2_with fail
          refine C6.out.mono ?_
          rintro e ya ⟨rfl, hba⟩
          have Ya := hide (Y9.out.trans (hba.mono Y9.out.size))
          clear hba C6 j9
          go_wp2
          go_ret
          exact ⟨rfl, Ya.out⟩
  · clear hco hco2
    subst eD
    go_enter Tryd.func3, Tryd.ntmps3
    go_wp2
    go_ret
    exact ⟨rfl, Below.refl _ _⟩
end Go.Proofs.YtkjioadmebkaoaaDoor
